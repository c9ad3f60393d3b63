import Derived.Test.YthcikinkicpicaaGreatDoorC06
import Derived.Test.YthcikinkicpicaaGreatDoorD02
import Derived.Test.YthcikinkicpicaaGreatDoorD14

namespace Go.Proofs.YthcikinkicpicaaGreatDoor
open Go.RowKit

/-- A slice of integers, as it came in. -/
def IntsAt (w : World) (a : Option Addr) (len : Nat) : Prop := len ≤ maxLen ∧ ((a = none ∧ len = 0) ∨ ∃ x, a = some x ∧ ∀ k, k < len → ∃ z, w.cell? (x.add k) = some (.int .i64 z))

theorem IntsAt.at {w wr : World} {x : Addr} {len k : Nat} (h : IntsAt w (some x) len) (hk : k < len) (hb : Below w.heap.size w wr) : ∃ z, wr.cell? (x.add k) = some (.int .i64 z) := by
  rcases h.2 with ⟨h, _⟩ | ⟨y, hy, hc⟩
  · cases h
  · cases hy
    obtain ⟨z, hz⟩ := hc k hk
    refine ⟨z, ?_⟩
    have hlt : (x.add k).block < w.heap.size := by
      rcases Nat.lt_or_ge (x.add k).block w.heap.size with h | h
      · exact h
      · have : w.heap[(x.add k).block]? = none := by simp; exact h
        simp [World.cell?, this] at hz
    exact (World.cell?_of_block (hb.block _ hlt)).trans hz

set_option maxRecDepth 100000 in
set_option maxHeartbeats 1000000 in
theorem other_in (s : ByteArray) (a : Option Addr) (len cap : Nat) (w : World) (hs : s.size ≤ 100000000000) (hI : IntsAt w a len) :
    Calls Tryz.prog 18 #[.string s, .slice a len cap] w fun e w' => ∃ s' : ByteArray, e = .returned (.string s') ∧ s'.size = s.size ∧ playFrom s' s'.size 0 st0 = playFrom s s.size 0 st0 ∧ Below w.heap.size w w' := by
  have HPl : Hid (Calls Tryz.prog 16 #[.string s] w fun e w' => ∃ s' : ByteArray, e = .returned (.string s') ∧ s'.size = s.size ∧ Alike s s' s.size 0 ∧ Below w.heap.size w w') := Plain_in s w hs
  have hml : len ≤ 9223372036854775807 := by have := hI.1; unfold maxLen at this; omega
  go_enter Tryz.func18, Tryz.ntmps18
  go_wp2_with fail
  with_reducible refine HPl.out.mono ?_
  rintro e w1 ⟨p, rfl, hsz, hal, hb1⟩
  have hp : p.size ≤ 100000000000 := by omega
  have hcv := fun w s => run_bytes_of_string (P := Tryz.prog) w 9 99 5 s Tryz.underlying9 Tryz.underlying99 Tryz.underlying5
  have HBk : Hid (∀ (wr : World) (C : Nat) (L : List UInt8), Byt w1 C L wr → (convert 99 9 (.slice (some ⟨w1.heap.size, 0, none⟩) L.length C)).run Tryz.prog wr = .ok (.string ⟨L.toArray⟩) wr) := fun wr C L h => run_convert_bytes_back (P := Tryz.prog) wr 99 9 5 ⟨w1.heap.size, 0, none⟩ C L Tryz.underlying99 Tryz.underlying5 Tryz.underlying9 h.back
  have hge := grownCap_ge w1 p.size 0 5
  have hst := byt_start w1 p (grownCap w1 p.size 0 5) hge
  obtain ⟨C, hC⟩ : ∃ C, grownCap w1 p.size 0 5 = C := ⟨_, rfl⟩
  rw [hC] at hst hge
  have hcv' := hcv w1 p
  rw [hC] at hcv'
  have HST : Hid (Byt w1 C p.data.toList (w1.drew.alloc (.cells (bytesRow p C) 5 ((bytesRow p C).size, (bytesRow p C).size + 1)))) := hst
  have HLn : Hid (∀ (i : Nat) (W : World), i < p.size → Calls Tryz.prog 20 #[.agg #[.string p, .int .i64 i, .slice none 0 0]] W fun e w' => e = .returned (.int .i64 (lenAt p i)) ∧ Below W.heap.size W w') := fun i W hi => Length_any p i _ W hi (by unfold maxLen; omega)
  have HF : Hid (∀ (i : Nat) (L : List UInt8) (wr : World), Byt w1 C L wr → PlainI p i L → i ≤ p.size → (p.size ≤ i ∨ lenAt p i < 0 ∨ (p.size : Int) < i + 1 + lenAt p i) → ∃ s' : ByteArray, Ending.returned (.string ⟨L.toArray⟩) = .returned (.string s') ∧ s'.size = s.size ∧ playFrom s' s'.size 0 st0 = playFrom s s.size 0 st0 ∧ Below w.heap.size w wr) := by
    intro i L wr hB hP hi hb
    have hz : (⟨L.toArray⟩ : ByteArray).size = p.size := by show L.toArray.size = p.size; rw [List.size_toArray]; exact hP.len
    refine ⟨⟨L.toArray⟩, rfl, hz.trans hsz, ?_, hb1.trans (hB.bel.mono hb1.size)⟩
    rw [hz, alike_play p ⟨L.toArray⟩ hz p.size 0 st0 (hP.done hi hb), hsz, alike_play s p hsz s.size 0 st0 hal]
  have HI : Hid (IntsAt w a len) := hI
  have HW1 : Hid (Below w.heap.size w w1) := hb1
  clear hst hcv hC hI HPl hal hb1 hsz
  go_wp2_with fail
  go_loopg [7, 8] p.size (fun f kv iv wr => ∃ (i k : Nat) (L : List UInt8), i ≤ p.size ∧ k ≤ i ∧ p.size ≤ i + f ∧ iv = .int .i64 i ∧ kv = .int .i64 k ∧ Hid (PlainI p i L) ∧ Hid (Byt w1 C L wr))
  case atStart => exact ⟨0, 0, p.data.toList, by omega, by omega, by omega, rfl, rfl, PlainI.start p, HST⟩
  case round =>
    obtain ⟨i, k, L, hi, hki, hif, rfl, rfl, hP, hB⟩ := hrel
    clear HST hcv'
    have hLs : L.length = p.size := hP.out.len
    have HBk' := HBk.out wr C L hB.out
    rw [hLs] at HBk'
    by_cases hlt : i < p.size
    · obtain ⟨f', rfl⟩ : ∃ f', gk = f' + 1 := ⟨gk - 1, by omega⟩
      have d1 : (i : Int) < (p.size : Int) := by omega
      have hlb := lenAt_bd p i
      have hfin := HF.out i L
      have hnx := fun (n : Nat) (L' : List UInt8) => hP.out.next (n := n) (L' := L') hlt
      obtain ⟨nn, hnn⟩ : ∃ nn, lenAt p i = nn := ⟨_, rfl⟩
      have hone := fun (j : Nat) (h : lenAt p i = (j : Int)) => (lenOk_of h).2
      have HL1 : Hid (∀ W : World, Calls Tryz.prog 20 #[.agg #[.string p, .int .i64 i, .slice none 0 0]] W fun e w' => e = .returned (.int .i64 nn) ∧ Below W.heap.size W w') := fun W => by have := HLn.out i W hlt; rwa [hnn] at this
      rw [hnn] at hfin hnx hlb hone
      have HFi : Hid (∀ wr, Byt w1 C L wr → (nn < 0 ∨ (p.size : Int) < i + 1 + nn) → ∃ s' : ByteArray, Ending.returned (.string ⟨L.toArray⟩) = .returned (.string s') ∧ s'.size = s.size ∧ playFrom s' s'.size 0 st0 = playFrom s s.size 0 st0 ∧ Below w.heap.size w wr) := fun wr hB h => hfin wr hB hP.out hi (.inr h)
      clear hfin hnn HLn HF
      by_cases hneg : nn < 0
      · clear hnx hone
        go_wp2_with (go_at_call 20; refine (HL1.out _).mono ?_; rintro e w2 ⟨rfl, hb1⟩; have hB1 := hB.out.below hb1; have HBk1 := HBk.out w2 C L hB1; rw [hLs] at HBk1)
        go_ret
        exact HFi.out _ hB1 (.inl hneg)
      · have k1 : wrap64 ((i : Int) + 1 + nn) = (i : Int) + 1 + nn := w64 (by omega)
        by_cases hov : (p.size : Int) < i + 1 + nn
        · clear hnx hone
          go_wp2_with (go_at_call 20; refine (HL1.out _).mono ?_; rintro e w2 ⟨rfl, hb1⟩; have hB1 := hB.out.below hb1; have HBk1 := HBk.out w2 C L hB1; rw [hLs] at HBk1)
          go_ret
          exact HFi.out _ hB1 (.inr hov)
        · obtain ⟨n, rfl⟩ := Int.eq_ofNat_of_zero_le (show 0 ≤ nn by omega)
          have n1 := hone n rfl
          have hx : ((L.getD i 0).toNat : Int) = byteAt p i := hP.out.rest i (Nat.le_refl _)
          have HNx : Hid (∀ L', L'.length = L.length → (∀ j, ¬ (byteAt p i = 12 ∧ j = i + 1) → L'.getD j 0 = L.getD j 0) → PlainI p (i + 1 + n) L') := fun L' h1 h2 => hnx n L' rfl (by omega) n1 h1 h2
          have HCi : Hid (∀ W, Byt w1 C L W → W.cell? ⟨w1.heap.size, i, none⟩ = some (.int .u8 (byteAt p i)) ∧ (∃ v, W.cell? ⟨w1.heap.size, i + 1, none⟩ = some v) ∧ W.frozen? ⟨w1.heap.size, i + 1, none⟩ = false) := by
            rintro W ⟨⟨cur, f, hc, h1, h2⟩, _, _⟩
            exact ⟨by rw [cell_of hc, h1 i (by omega), hx], ⟨_, by rw [cell_of hc]; exact h1 (i + 1) (by omega)⟩, h2 (i + 1) (by omega)⟩
          clear hnx hone hx HFi
          generalize byteAt p i = x at *
          have zi : (i : Int) + 1 < (p.size : Int) := by omega
          by_cases h12 : x = 12
          · subst h12
            by_cases hkl : k < len
            · rcases HI.out.2 with ⟨_, h0⟩ | ⟨ad, rfl, _⟩
              · omega
              · have hkl' : (k : Int) < (len : Int) := by omega
                have hk0 : (0 : Int) ≤ (k : Int) := by omega
                go_wp2_with (go_at_call 20; refine (HL1.out _).mono ?_; rintro e w2 ⟨rfl, hb1⟩; have hB1 := hB.out.below hb1; have HB1 : Hid (Byt w1 C L w2) := hB1; obtain ⟨ci, ⟨v1, ci1⟩, fi1⟩ := HCi.out w2 hB1; obtain ⟨z, hz⟩ := HI.out.at hkl (HW1.out.trans (hB1.bel.mono HW1.out.size)); have az := and255 z; have z0 := Int.emod_nonneg z (show (256 : Int) ≠ 0 by decide); have z1 := Int.emod_lt_of_pos z (show (0 : Int) < 256 by decide); have cz : IntKind.u8.wrap (z % 256) = z % 256 := (by rw [IntKind.wrap_u8]; omega); clear hB1)
                go_roundg f'
                case rel =>
                  have eb : ((UInt8.ofNat (z % 256).toNat).toNat : Int) = z % 256 := by simp; omega
                  have hS := HB1.out.set (i + 1) (by omega) (UInt8.ofNat (z % 256).toNat)
                  rw [eb] at hS
                  refine ⟨i + 1 + n, k + 1, L.set (i + 1) (UInt8.ofNat (z % 256).toNat), by omega, by omega, by omega, by go_num, by go_num, HNx.out _ (by simp) (fun j hj => ?_), hS⟩
                  rw [List.getD_eq_getElem?_getD, List.getD_eq_getElem?_getD, List.getElem?_set_ne (fun e => by first | exact hj ⟨rfl, e.symm⟩ | exact hj ⟨trivial, e.symm⟩)]
                case measure => omega
            · have hkl' : (len : Int) ≤ (k : Int) := by omega
              go_wp2_with (go_at_call 20; refine (HL1.out _).mono ?_; rintro e w2 ⟨rfl, hb1⟩; have hB1 := hB.out.below hb1; have HB1 : Hid (Byt w1 C L w2) := hB1; obtain ⟨ci, _, _⟩ := HCi.out w2 hB1; clear hB1)
              go_roundg f'
              case rel => exact ⟨i + 1 + n, k, L, by omega, by omega, by omega, by go_num, rfl, HNx.out _ rfl (fun j _ => rfl), HB1⟩
              case measure => omega
          · have b12 : (x == 12) = false := by simpa using h12
            have HH12 : Hid (¬ x = 12) := h12
            clear h12
            go_wp2_with (go_at_call 20; refine (HL1.out _).mono ?_; rintro e w2 ⟨rfl, hb1⟩; have hB1 := hB.out.below hb1; have HB1 : Hid (Byt w1 C L w2) := hB1; obtain ⟨ci, _, _⟩ := HCi.out w2 hB1; clear hB1)
            go_roundg f'
            case rel => exact ⟨i + 1 + n, k, L, by omega, by omega, by omega, by go_num, rfl, HNx.out _ rfl (fun j _ => rfl), HB1⟩
            case measure => omega
    · obtain rfl : i = p.size := by omega
      have d1 : ¬ ((p.size : Int) < (p.size : Int)) := by omega
      go_wp2_with fail
      go_ret
      exact HF.out _ L _ hB.out hP.out (Nat.le_refl _) (.inl (Nat.le_refl _))
end Go.Proofs.YthcikinkicpicaaGreatDoor

namespace Go.Proofs.YthcikinkicpicaaGreatDoor
open Go.RowKit

set_option maxRecDepth 100000 in
set_option maxHeartbeats 2000000 in
theorem Ways_true (hcor : CornersAll) (s : ByteArray) (one two : Int) (a : Option Addr) (len cap : Nat) (w : World) (hs : s.size ≤ 1000000000) (ht : TabW w) (hI : IntsAt w a len) :
    Calls Tryz.prog 6 #[.string s, .int .i64 one, .int .i64 two, .slice a len cap] w fun e w' => e = .returned (.bool true) ∧ Below w.heap.size w w' := by
  have HAl : Hid (Calls Tryz.prog 17 #[] w fun e w' => e = .returned (.bool true) ∧ Below w.heap.size w w') := alive_in hcor w ht
  have hn := play_out_len s s.size 0 st0
  have hn0 : st0.out.length = 0 := rfl
  have HD1 : Hid (∀ W : World, Below w.heap.size w W → Calls Tryz.prog 11 #[.string s, .int .i64 one] W fun e w' => ∃ v, e = .returned v ∧ Hid (RepsAt w' v (playFrom s s.size 0 st0).out) ∧ Hid (Below w.heap.size w w')) := by
    intro W hB
    refine (draw_in s one W (by omega) (ht.low hB ht.pos)).mono ?_
    rintro e w' ⟨v, rfl, ho, hbb⟩
    exact ⟨v, rfl, repsAt_own ho, hB.trans (hbb.mono hB.size)⟩
  have HO : Hid (∀ (va : Value) (W : World), Below w.heap.size w W → RepsAt W va (playFrom s s.size 0 st0).out → Calls Tryz.prog 18 #[.string s, .slice a len cap] W fun e w' => ∃ s' : ByteArray, e = .returned (.string s') ∧ Hid (s'.size = s.size) ∧ Hid (playFrom s' s'.size 0 st0 = playFrom s s.size 0 st0) ∧ Hid (Below w.heap.size w w') ∧ Hid (RepsAt w' va (playFrom s s.size 0 st0).out)) := by
    intro va W hB hR
    have hI' : IntsAt W a len := by
      refine ⟨hI.1, ?_⟩
      rcases hI.2 with h | ⟨x, rfl, _⟩
      · exact .inl h
      · exact .inr ⟨x, rfl, fun k hk => hI.at hk hB⟩
    refine (other_in s a len cap W (by omega) hI').mono ?_
    rintro e w' ⟨s', rfl, h1, h2, h3⟩
    exact ⟨s', rfl, h1, h2, hB.trans (h3.mono hB.size), hR.below h3⟩
  have HD2 : Hid (∀ (s' : ByteArray) (va : Value) (W : World), s'.size = s.size → playFrom s' s'.size 0 st0 = playFrom s s.size 0 st0 → Below w.heap.size w W → RepsAt W va (playFrom s s.size 0 st0).out → Calls Tryz.prog 11 #[.string s', .int .i64 two] W fun e w' => ∃ v, e = .returned v ∧ Hid (RepsAt w' va (playFrom s s.size 0 st0).out) ∧ Hid (RepsAt w' v (playFrom s s.size 0 st0).out) ∧ Hid (Below w.heap.size w w')) := by
    intro s' va W hz hp hB hR
    refine (draw_in s' two W (by omega) (ht.low hB ht.pos)).mono ?_
    rintro e w' ⟨v, rfl, ho, hbb⟩
    rw [hp] at ho
    exact ⟨v, rfl, hR.below hbb, repsAt_own ho, hB.trans (hbb.mono hB.size)⟩
  have HR : Hid (∀ (W : World) (va vb : Value), RepsAt W va (playFrom s s.size 0 st0).out → RepsAt W vb (playFrom s s.size 0 st0).out → Calls Tryz.prog 19 #[va, vb] W fun e w' => e = .returned (.bool true) ∧ Below W.heap.size W w') := fun W va vb h1 h2 => replies_true va vb _ W h1 h2 (by omega)
  generalize (playFrom s s.size 0 st0).out = o at *
  clear hcor ht hn hn0 hI
  go_enter Tryz.func6, Tryz.ntmps6
  go_wp2_with fail
  with_reducible refine HAl.out.mono ?_
  rintro e w1 ⟨rfl, hb1⟩
  go_wp2_with fail
  refine (HD1.out _ hb1).mono ?_
  rintro e w2 ⟨va, rfl, hRa, hB2⟩
  go_wp2_with fail
  refine (HO.out va _ hB2.out hRa.out).mono ?_
  rintro e w3 ⟨s', rfl, hz, hp, hB3, hRa3⟩
  go_wp2_with fail
  refine (HD2.out s' va _ hz.out hp.out hB3.out hRa3.out).mono ?_
  rintro e w4 ⟨vb, rfl, hRa4, hRb4, hB4⟩
  go_wp2_with fail
  refine (HR.out _ va vb hRa4.out hRb4.out).mono ?_
  rintro e w5 ⟨rfl, hb5⟩
  go_wp2_with fail
  go_ret
  exact ⟨rfl, hB4.out.trans (hb5.mono hB4.out.size)⟩
end Go.Proofs.YthcikinkicpicaaGreatDoor
