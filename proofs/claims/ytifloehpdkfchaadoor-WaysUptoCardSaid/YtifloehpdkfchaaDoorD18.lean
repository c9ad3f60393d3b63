import Derived.Test.YtifloehpdkfchaaDoorD17
import Derived.Test.YtifloehpdkfchaaDoorD15

namespace Go.Proofs.YtifloehpdkfchaaDoor
open Go.RowKit

set_option maxRecDepth 100000 in
set_option maxHeartbeats 2000000 in
theorem Ways_true (hcor : CornersAll) (s : ByteArray) (one two : Int) (a : Option Addr) (len cap : Nat) (w : World) (hs : s.size ≤ 1000000000) (ht : TabW w) (hI : IntsAt w a len) :
    Calls Tryd.prog 3 #[.string s, .int .i64 one, .int .i64 two, .slice a len cap] w fun e w' => e = .returned (.bool true) ∧ Below w.heap.size w w' := by
  have HAl : Hid (Calls Tryd.prog 8 #[] w fun e w' => e = .returned (.bool true) ∧ Below w.heap.size w w') := alive_in hcor w ht
  have hn := play_out_len s s.size 0 st0
  have hn0 : st0.out.length = 0 := rfl
  have HD1 : Hid (∀ W : World, Below w.heap.size w W → Calls Tryd.prog 9 #[.string s, .int .i64 one] W fun e w' => ∃ v, e = .returned v ∧ Hid (RepsAt w' v (playFrom s s.size 0 st0).out) ∧ Hid (Below w.heap.size w w')) := by
    intro W hB
    refine (draw_in s one W (by omega) (ht.low hB ht.pos)).mono ?_
    rintro e w' ⟨v, rfl, ho, hbb⟩
    exact ⟨v, rfl, repsAt_own ho, hB.trans (hbb.mono hB.size)⟩
  have HO : Hid (∀ (va : Value) (W : World), Below w.heap.size w W → RepsAt W va (playFrom s s.size 0 st0).out → Calls Tryd.prog 10 #[.string s, .slice a len cap] W fun e w' => ∃ s' : ByteArray, e = .returned (.string s') ∧ Hid (s'.size = s.size) ∧ Hid (playFrom s' s'.size 0 st0 = playFrom s s.size 0 st0) ∧ Hid (Below w.heap.size w w') ∧ Hid (RepsAt w' va (playFrom s s.size 0 st0).out)) := by
    intro va W hB hR
    have hI' : IntsAt W a len := by
      refine ⟨hI.1, ?_⟩
      rcases hI.2 with h | ⟨x, rfl, _⟩
      · exact .inl h
      · exact .inr ⟨x, rfl, fun k hk => hI.at hk hB⟩
    refine (other_in s a len cap W (by omega) hI').mono ?_
    rintro e w' ⟨s', rfl, h1, h2, h3⟩
    exact ⟨s', rfl, h1, h2, hB.trans (h3.mono hB.size), hR.below h3⟩
  have HD2 : Hid (∀ (s' : ByteArray) (va : Value) (W : World), s'.size = s.size → playFrom s' s'.size 0 st0 = playFrom s s.size 0 st0 → Below w.heap.size w W → RepsAt W va (playFrom s s.size 0 st0).out → Calls Tryd.prog 9 #[.string s', .int .i64 two] W fun e w' => ∃ v, e = .returned v ∧ Hid (RepsAt w' va (playFrom s s.size 0 st0).out) ∧ Hid (RepsAt w' v (playFrom s s.size 0 st0).out) ∧ Hid (Below w.heap.size w w')) := by
    intro s' va W hz hp hB hR
    refine (draw_in s' two W (by omega) (ht.low hB ht.pos)).mono ?_
    rintro e w' ⟨v, rfl, ho, hbb⟩
    rw [hp] at ho
    exact ⟨v, rfl, hR.below hbb, repsAt_own ho, hB.trans (hbb.mono hB.size)⟩
  have HR : Hid (∀ (W : World) (va vb : Value), RepsAt W va (playFrom s s.size 0 st0).out → RepsAt W vb (playFrom s s.size 0 st0).out → Calls Tryd.prog 11 #[va, vb] W fun e w' => e = .returned (.bool true) ∧ Below W.heap.size W w') := fun W va vb h1 h2 => replies_true va vb _ W h1 h2 (by omega)
  generalize (playFrom s s.size 0 st0).out = o at *
  clear hcor ht hn hn0 hI
  go_enter Tryd.func3, Tryd.ntmps3
  go_wp2_with fail
  with_reducible refine HAl.out.mono ?_
  rintro e w1 ⟨rfl, hb1⟩
  go_wp2_with fail
  refine (HD1.out _ hb1).mono ?_
  rintro e w2 ⟨va, rfl, hRa, hB2⟩
  go_wp2_with fail
  refine (HO.out va _ hB2.out hRa.out).mono ?_
  rintro e w3 ⟨s', rfl, hz, hp, hB3, hRa3⟩
  go_wp2_with fail
  refine (HD2.out s' va _ hz.out hp.out hB3.out hRa3.out).mono ?_
  rintro e w4 ⟨vb, rfl, hRa4, hRb4, hB4⟩
  go_wp2_with fail
  refine (HR.out _ va vb hRa4.out hRb4.out).mono ?_
  rintro e w5 ⟨rfl, hb5⟩
  go_wp2_with fail
  go_ret
  exact ⟨rfl, hB4.out.trans (hb5.mono hB4.out.size)⟩
end Go.Proofs.YtifloehpdkfchaaDoor
