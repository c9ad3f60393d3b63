import Derived.Test.YthcikinkicpicaaGreatDoorA36
import Derived.Test.YthcikinkicpicaaGreatDoorB11
import Derived.Test.YthcikinkicpicaaGreatDoorC06

namespace Go.Proofs.YthcikinkicpicaaGreatDoor
open Go.RowKit

set_option maxRecDepth 100000 in
set_option maxHeartbeats 400000 in
theorem steps_in (pl : Prop) (s : ByteArray) (ways : Int) (w : World) (hs : s.size ≤ 100000000000) (ht : TabW w) (hpl : pl → bits .and .i64 ways 255 = 0 ∧ zeroFrom s s.size 0) :
    Calls Tryz.prog 15 #[.string s, .int .i64 ways] w fun e w' => ∃ n : Int, e = .returned (.int .i64 n) ∧ 0 ≤ n ∧ n ≤ (playFrom s s.size 0 st0).work ∧ (pl → n = (playFrom s s.size 0 st0).work) ∧ Below w.heap.size w w' := by
  have HN : Hid (Calls Tryz.prog 26 #[.string s, .int .i64 ways] w (NewPost s ways w)) := newDrawer_in s ways w
  have hw := worked pl s ways w hs ht hpl
  clear hpl
  generalize playFrom s s.size 0 st0 = R at *
  have HW : Hid (∀ p w1 cB zB sB m, Dr w.heap.size w1 p cB zB sB 2 4 s 0 ⟨bits .and .i64 ways 255, m, #[], 0⟩ (.slice none 0 0) (.slice none 0 0) st0 → Below w.heap.size w w1 →
    Calls Tryz.prog 27 #[.pointer (some ⟨p, 0, none⟩)] w1 fun e w' => e = .returned (.tuple #[]) ∧ (∃ R' cB zB sB A n k ways shV outV, Dr w.heap.size w' p cB zB sB A n s k ways shV outV R' ∧ Near pl R R' ∧ 0 ≤ R'.work) ∧ Below w.heap.size w w') := hw
  clear hw ht
  unfold NewPost at HN
  generalize bits .and .i64 ways 255 = wv at *
  go_enter Tryz.func15, Tryz.ntmps15
  go_wp2_with (first
    | (go_at_call 26; refine HN.out.mono ?_; rintro e w1 ⟨p, cB, zB, sB, m, rfl, hd1, hb1⟩; have HD1 : Hid (Dr w.heap.size w1 p cB zB sB 2 4 s 0 ⟨wv, m, #[], 0⟩ (.slice none 0 0) (.slice none 0 0) st0) := hd1; clear hd1)
    | (go_at_call 27; refine (HW.out _ _ _ _ _ _ HD1.out hb1).mono ?_; rintro e w2 ⟨rfl, ⟨R', cB2, zB2, sB2, A2, n2, k2, ways2, shV2, outV2, hd2, hn2, h02⟩, hb2⟩; have HNr : Hid (Near pl R R' ∧ 0 ≤ R'.work) := ⟨hn2, h02⟩; have c40 : w2.cell? ⟨p, 43, none⟩ = some (.int .i64 R'.work) := cell_of hd2.bp 43; clear hd2 hn2 h02))
  go_ret
  exact ⟨_, rfl, HNr.out.2, HNr.out.1.le, HNr.out.1.pl, hb2⟩
end Go.Proofs.YthcikinkicpicaaGreatDoor

namespace Go.Proofs.YthcikinkicpicaaGreatDoor
open Go.RowKit

set_option maxRecDepth 100000 in
set_option maxHeartbeats 1000000 in
theorem Works_true (s : ByteArray) (ways : Int) (w : World) (ht : Tab w) (hs : s.size ≤ 10000000000) :
    Calls Tryz.prog 5 #[.string s, .int .i64 ways] w fun e w' => e = .returned (.bool true) ∧ Below w.heap.size w w' := by
  have hok := play_ok s s.size 0 st0 (Nat.zero_le _) (by simpa using st0_ok)
  have r0 := hok.work0
  have hplay := Play_in s w (by omega)
  have hst := fun w' (h : Tab w') => steps_in False s ways w' (by omega) (fun i hi => h i hi) (fun e => e.elim)
  have HPl : Hid (∀ w' : World, Calls Tryz.prog 16 #[.string s] w' fun e w'' => ∃ s' : ByteArray, e = .returned (.string s') ∧ s'.size = s.size ∧ Hid (Alike s s' s.size 0 ∧ zeroFrom s' s.size 0) ∧ Below w'.heap.size w' w'') := fun w' => by
    refine (Plain_z s w' (by omega)).mono ?_
    rintro e w'' ⟨s', rfl, h1, h2, h3, h4⟩
    exact ⟨s', rfl, h1, ⟨h2, h3⟩, h4⟩
  have HS2 : Hid (∀ (s' : ByteArray) (w' : World), Tab w' → s'.size = s.size → Hid (Alike s s' s.size 0 ∧ zeroFrom s' s.size 0) → Calls Tryz.prog 15 #[.string s', .int .i64 0] w' fun e w'' => e = .returned (.int .i64 (playFrom s s.size 0 st0).work) ∧ Below w'.heap.size w' w'') := by
    intro s' w' h hsz hal
    have := steps_in True s' 0 w' (by omega) (fun i hi => h i hi) (fun _ => ⟨by decide, by rw [hsz]; exact hal.2⟩)
    rw [hsz, alike_play s s' hsz s.size 0 st0 hal.1] at this
    refine this.mono ?_
    rintro e w'' ⟨n, rfl, _, _, hn, hb⟩
    exact ⟨by rw [hn trivial], hb⟩
  clear hok
  generalize playFrom s s.size 0 st0 = R at *
  have HT : Hid (Tab w) := ht
  have HP : Hid (Calls Tryz.prog 12 #[.string s] w fun e w'' => e = .returned (.pointer (some ⟨w.heap.size, 0, none⟩)) ∧ ∃ dB qB shV outV, PaneO w.heap.size w'' w.heap.size dB qB shV outV R ∧ Below w.heap.size w w'') := hplay
  have HS1 : Hid (∀ w' : World, Tab w' → Calls Tryz.prog 15 #[.string s, .int .i64 ways] w' fun e w'' => ∃ n : Int, e = .returned (.int .i64 n) ∧ 0 ≤ n ∧ n ≤ R.work ∧ (False → n = R.work) ∧ Below w'.heap.size w' w'') := hst
  clear ht hplay hst
  go_enter Tryz.func5, Tryz.ntmps5
  go_wp2_with fail
  refine HP.out.mono ?_
  rintro e w1 ⟨rfl, dB, qB, shV, outV, hP1, hb1⟩
  have HB1 : Hid (w1.heap[w.heap.size]? = some (.cells (pcells R dB qB shV outV) 38 (0, 0))) := hP1.pin.bp
  have HT1 : Hid (Tab w1) := HT.out.keep hb1.block
  clear hP1
  go_wp2_with fail
  refine (HS1.out _ HT1.out).mono ?_
  rintro e w2 ⟨n, rfl, n0, n1, _, hb2⟩
  have HT2 : Hid (Tab w2) := HT1.out.keep hb2.block
  have hb12 := hb1.trans (hb2.mono hb1.size)
  go_wp2_with fail
  refine (HPl.out _).mono ?_
  rintro e w3 ⟨s', rfl, hs', hal, hb3⟩
  have HT3 : Hid (Tab w3) := HT2.out.keep hb3.block
  have HAl : Hid (Hid (Alike s s' s.size 0 ∧ zeroFrom s' s.size 0)) := hal
  have hb13 := hb12.trans (hb3.mono hb12.size)
  clear hal
  go_wp2_with fail
  refine (HS2.out _ _ HT3.out hs' HAl.out).mono ?_
  rintro e w4 ⟨rfl, hb4⟩
  have hb14 := hb13.trans (hb4.mono hb13.size)
  have l1 := lt_of_heap HB1.out
  have l2 := hb2.size
  have l3 := hb3.size
  have hbk : w4.heap[w.heap.size]? = some (.cells (pcells R dB qB shV outV) 38 (0, 0)) := (hb4.block _ (by omega)).trans ((hb3.block _ (by omega)).trans ((hb2.block _ l1).trans HB1.out))
  have cw : w4.cell? ⟨w.heap.size, 20, none⟩ = some (.int .i64 R.work) := cell_of hbk 20
  clear hbk hs'
  go_wp2_with fail
  go_ret
  exact ⟨rfl, hb14⟩
end Go.Proofs.YthcikinkicpicaaGreatDoor
