import Derived.Test.YthcikinkicpicaaGreatDoorB12
import Derived.Test.YthcikinkicpicaaGreatDoorB01
import Derived.BigQuiet
import Derived.Deep.QuietTactic
import Derived.Deep.RegionHeld
import Derived.Test.YthcikinkicpicaaGreatDoorB03
import Derived.Deep.LoopGhost
import Derived.Deep.RegionLaw

namespace Go.Proofs.YthcikinkicpicaaGreatDoor
open Go.RowKit


set_option maxRecDepth 100000 in
set_option maxHeartbeats 400000 in
theorem signed_any (s : ByteArray) (fr : Int) (g cap : Nat) (l : List Int) (i : Nat) (w : World) (hg : g < w.heap.size) (hcell : ∀ j, j < l.length → w.cell? ⟨g, j, none⟩ = some (.int .i64 (l.getD j 0)))
    (hl : i + 1 < l.length) (hlen : l.length ≤ 2000) (hb : bytesOk l) :
    Calls Tryz.prog 72 #[curV s fr (.slice (some ⟨g, 0, none⟩) l.length cap), .int .i64 i] w fun e w' => e = .returned (.int .i64 (sgn l i)) ∧ Below w.heap.size w w' := by
  have c0 := hcell i (by omega)
  have c1 := hcell (i + 1) (by omega)
  obtain ⟨a0, a1⟩ := hb.at i
  obtain ⟨b0, b1⟩ := hb.at (i + 1)
  have hfin : Hid (sgn l i = if 32767 < 256 * l.getD i 0 + l.getD (i + 1) 0 then 256 * l.getD i 0 + l.getD (i + 1) 0 - 65536 else 256 * l.getD i 0 + l.getD (i + 1) 0) := rfl
  generalize l.getD i 0 = p at *
  generalize l.getD (i + 1) 0 = q at *
  generalize sgn l i = R at *
  unfold curV
  clear hcell hb
  go_enter Tryz.func72, Tryz.ntmps72
  go_wp2_with fail
  have i1 : (i : Int) < (l.length : Int) := by omega
  have i2 : (i : Int) + 1 < (l.length : Int) := by omega
  have i3 : (0 : Int) ≤ (i : Int) := by omega
  have i4 : (0 : Int) ≤ (i : Int) + 1 := by omega
  have i5 : IntKind.i64.wrap ((i : Int) + 1) = (i : Int) + 1 := k64 (by omega)
  have i6 : ((i : Int) + 1).toNat = i + 1 := by omega
  have i7 : IntKind.i64.wrap (256 * p) = 256 * p := k64 (by omega)
  have i8 : IntKind.i64.wrap (256 * p + q) = 256 * p + q := k64 (by omega)
  go_quiet (fail)
  clear i1 i2 i3 i4 i5 i6 i7 i8
  by_cases hlt : 32767 < 256 * p + q
  · go_wp2
    go_ret
    exact ⟨ret_int (by rw [hfin.out, if_pos hlt]), below1.drewN' _⟩
  · go_wp2
    go_ret
    exact ⟨ret_int (by rw [hfin.out, if_neg (by omega)]), below1.drewN' _⟩

theorem signed_int (s : ByteArray) (fr : Int) (g cap : Nat) (l : List Int) (i : Int) (w : World) (h0 : 0 ≤ i) (hg : g < w.heap.size) (hcell : ∀ j, j < l.length → w.cell? ⟨g, j, none⟩ = some (.int .i64 (l.getD j 0)))
    (hl : i + 1 < l.length) (hlen : l.length ≤ 2000) (hb : bytesOk l) :
    Calls Tryz.prog 72 #[curV s fr (.slice (some ⟨g, 0, none⟩) l.length cap), .int .i64 i] w fun e w' => e = .returned (.int .i64 (sgn l i.toNat)) ∧ Below w.heap.size w w' := by
  obtain ⟨n, rfl⟩ := Int.eq_ofNat_of_zero_le h0
  exact signed_any s fr g cap l n w hg hcell (by omega) hlen hb

set_option maxRecDepth 100000 in
set_option maxHeartbeats 1000000 in
theorem corner_any (s : ByteArray) (fr : Int) (g cap : Nat) (l : List Int) (i : Int) (w : World) (h0 : 0 ≤ i) (hg : g < w.heap.size) (hcell : ∀ j, j < l.length → w.cell? ⟨g, j, none⟩ = some (.int .i64 (l.getD j 0)))
    (hl : i + 8 < l.length) (hlen : l.length ≤ 2000) (hb : bytesOk l) :
    Calls Tryz.prog 44 #[curV s fr (.slice (some ⟨g, 0, none⟩) l.length cap), .int .i64 i] w fun e w' => e = .returned ((cornerOf l i.toNat).v) ∧ Below w.heap.size w w' := by
  obtain ⟨n, rfl⟩ := Int.eq_ofNat_of_zero_le h0
  have hg1 : g < w.heap.size + 1 := by omega
  unfold curV
  go_enter Tryz.func44, Tryz.ntmps44
  go_wp2_with fail
  refine (signed_int s fr g cap l n _ (by omega) (by simp; omega) (fun j hj => ?_) (by omega) hlen hb).mono ?_
  · rw [World.cell?_alloc_past _ _ _ (by simp; omega), World.cell?_alloc_past _ _ _ (by omega)]; exact hcell j hj
  rintro e w1 ⟨rfl, hb1⟩
  obtain ⟨hc1, hf1⟩ := bcell hb1
  have hs1 := hb1.size
  simp at hs1
  have hcell1 : ∀ j, j < l.length → w1.cell? ⟨g, j, none⟩ = some (.int .i64 (l.getD j 0)) := fun j hj => by
    rw [hc1 _ _ (by simp; omega), World.cell?_alloc_past _ _ _ (by simp; omega), World.cell?_alloc_past _ _ _ (by omega)]; exact hcell j hj
  have HC : Hid _ := hcell1
  clear hcell1
  go_wp2_with fail
  refine (signed_int s fr g cap l _ w1 (by omega) (by omega) HC.out (by omega) hlen hb).mono ?_
  rintro e w2 ⟨rfl, hb2⟩
  replace hb2 := hb1.trans (hb2.mono hb1.size)
  clear hc1 hf1 hb1 HC
  obtain ⟨hc2, hf2⟩ := bcell hb2
  have hcell2 : ∀ j, j < l.length → w2.cell? ⟨g, j, none⟩ = some (.int .i64 (l.getD j 0)) := fun j hj => by
    rw [hc2 _ _ (by simp; omega), World.cell?_alloc_past _ _ _ (by simp; omega), World.cell?_alloc_past _ _ _ (by omega)]; exact hcell j hj
  have k4 := hcell2 (n + 4) (by omega)
  have k5 := hcell2 (n + 5) (by omega)
  have k6 := hcell2 (n + 6) (by omega)
  have k7 := hcell2 (n + 7) (by omega)
  have k8 := hcell2 (n + 8) (by omega)
  obtain ⟨b40, b41⟩ := hb.at (n + 4)
  obtain ⟨b50, b51⟩ := hb.at (n + 5)
  have e2 : ((n : Int) + 2).toNat = n + 2 := by omega
  rw [e2]
  have hfin : Hid ((cornerOf l n).v = .agg #[.int .i64 (sgn l n), .int .i64 (sgn l (n + 2)), .int .i64 (256 * l.getD (n + 4) 0 + l.getD (n + 5) 0), .int .i64 (l.getD (n + 6) 0), .int .i64 (l.getD (n + 7) 0), .int .i64 (l.getD (n + 8) 0)]) := rfl
  generalize l.getD (n + 4) 0 = v4 at *
  generalize l.getD (n + 5) 0 = v5 at *
  generalize l.getD (n + 6) 0 = v6 at *
  generalize l.getD (n + 7) 0 = v7 at *
  generalize l.getD (n + 8) 0 = v8 at *
  generalize sgn l n = sx at *
  generalize sgn l (n + 2) = sy at *
  clear hcell2 hcell hb
  go_wp2_with fail
  have i4 : IntKind.i64.wrap ((n : Int) + 4) = (n : Int) + 4 := k64 (by omega)
  have i5 : IntKind.i64.wrap ((n : Int) + 5) = (n : Int) + 5 := k64 (by omega)
  have i6 : IntKind.i64.wrap ((n : Int) + 6) = (n : Int) + 6 := k64 (by omega)
  have i7 : IntKind.i64.wrap ((n : Int) + 7) = (n : Int) + 7 := k64 (by omega)
  have i8 : IntKind.i64.wrap ((n : Int) + 8) = (n : Int) + 8 := k64 (by omega)
  have t4 : ((n : Int) + 4).toNat = n + 4 := by omega
  have t5 : ((n : Int) + 5).toNat = n + 5 := by omega
  have t6 : ((n : Int) + 6).toNat = n + 6 := by omega
  have t7 : ((n : Int) + 7).toNat = n + 7 := by omega
  have t8 : ((n : Int) + 8).toNat = n + 8 := by omega
  have z4 : (0 : Int) ≤ (n : Int) + 4 := by omega
  have z5 : (0 : Int) ≤ (n : Int) + 5 := by omega
  have z6 : (0 : Int) ≤ (n : Int) + 6 := by omega
  have z7 : (0 : Int) ≤ (n : Int) + 7 := by omega
  have z8 : (0 : Int) ≤ (n : Int) + 8 := by omega
  have y4 : (n : Int) + 4 < (l.length : Int) := by omega
  have y5 : (n : Int) + 5 < (l.length : Int) := by omega
  have y6 : (n : Int) + 6 < (l.length : Int) := by omega
  have y7 : (n : Int) + 7 < (l.length : Int) := by omega
  have y8 : (n : Int) + 8 < (l.length : Int) := by omega
  have m1 : IntKind.i64.wrap (256 * v4) = 256 * v4 := k64 (by omega)
  have m2 : IntKind.i64.wrap (256 * v4 + v5) = 256 * v4 + v5 := k64 (by omega)
  have hgB : w.heap.size + 1 ≠ g := by omega
  have kb : w2.cell? ⟨w.heap.size, 2, none⟩ = some (.slice (some ⟨g, 0, none⟩) l.length cap) := by rw [hc2 _ _ (by simp; omega)]; simp
  go_region_held (fun w' => w'.cell? ⟨w.heap.size, 2, none⟩ = some (.slice (some ⟨g, 0, none⟩) l.length cap) ∧ w'.cell? ⟨g, n + 4, none⟩ = some (.int .i64 v4) ∧ w'.cell? ⟨g, n + 5, none⟩ = some (.int .i64 v5) ∧ w'.cell? ⟨g, n + 6, none⟩ = some (.int .i64 v6) ∧ w'.cell? ⟨g, n + 7, none⟩ = some (.int .i64 v7) ∧ w'.cell? ⟨g, n + 8, none⟩ = some (.int .i64 v8)) (go_keep) (fail)
  go_wp2_with fail
  refine bodyPost_ret (v := .agg #[.int .i64 sx, .int .i64 sy, .int .i64 (256 * v4 + v5), .int .i64 v6, .int .i64 v7, .int .i64 v8]) (by simp [results, Tryz.results44, go_sem, hc2]) rfl ?_
  go_light
  have hB : Below w.heap.size w w2 := below2.trans (hb2.mono (by simp; omega))
  exact ⟨(congrArg Ending.returned hfin.out).symm, ((((((hB.setCell (by show w.heap.size ≤ w.heap.size + 1; omega) _).setCell (by show w.heap.size ≤ w.heap.size + 1; omega) _).setCell (by show w.heap.size ≤ w.heap.size + 1; omega) _).setCell (by show w.heap.size ≤ w.heap.size + 1; omega) _).setCell (by show w.heap.size ≤ w.heap.size + 1; omega) _).setCell (by show w.heap.size ≤ w.heap.size + 1; omega) _).drew⟩

end Go.Proofs.YthcikinkicpicaaGreatDoor

namespace Go.Proofs.YthcikinkicpicaaGreatDoor
open Go.RowKit

/-- The first k of a list are done. -/
def doneTo {α : Type} (f : α → α) (l : List α) (k : Nat) : List α := (l.take k).map f ++ l.drop k
theorem doneTo_len {α : Type} (f : α → α) (l : List α) (k : Nat) : (doneTo f l k).length = l.length := by
  unfold doneTo; simp; omega
theorem doneTo_at {α : Type} (f : α → α) (l : List α) (k : Nat) (h : k < l.length) : (doneTo f l k)[k]'(by rw [doneTo_len]; exact h) = l[k] := by
  unfold doneTo
  rw [List.getElem_append_right (by simp; omega)]
  simp [Nat.min_eq_left (Nat.le_of_lt h)]
theorem doneTo_succ {α : Type} (f : α → α) (l : List α) (k : Nat) (h : k < l.length) : doneTo f l (k + 1) = (doneTo f l k).set k (f l[k]) := by
  unfold doneTo
  rw [List.set_append_right _ _ (by simp; omega)]
  have e : k - (List.map f (List.take k l)).length = 0 := by simp; omega
  rw [e, List.drop_eq_getElem_cons h, List.set_cons_zero, List.take_succ_eq_append_getElem h, List.map_append, List.append_assoc]
  rfl
theorem doneTo_zero {α : Type} (f : α → α) (l : List α) : doneTo f l 0 = l := by simp [doneTo]
theorem doneTo_end {α : Type} (f : α → α) (l : List α) (k : Nat) (h : l.length ≤ k) : doneTo f l k = l.map f := by
  unfold doneTo; rw [List.take_of_length_le h, List.drop_of_length_le h]; simp

set_option maxRecDepth 100000 in
set_option maxHeartbeats 4000000 in
theorem clear_in (p dB qB : Nat) (shV outV : Value) (st : St) (g cap : Nat) (a : List Int) (w : World) (h : PaneIn w p dB qB shV outV st) (hn : st.dots.length ≤ 576)
    (hg : g < w.heap.size) (hgd : g ≠ dB) (hcell : ∀ j, j < a.length → w.cell? ⟨g, j, none⟩ = some (.int .i64 (a.getD j 0))) (hl : a.length = 7) (hb : bytesOk a) :
    Calls Tryz.prog 42 #[.pointer (some ⟨p, 0, none⟩), .slice (some ⟨g, 0, none⟩) 7 cap] w fun e w' =>
      e = .returned (.tuple #[]) ∧ PaneIn w' p dB qB shV outV (st.clear a) ∧ Kept (· = dB) w w' := by
  have c0 := hcell 0 (by omega)
  have c1 := hcell 1 (by omega)
  have c2 := hcell 2 (by omega)
  have c3 := hcell 3 (by omega)
  have c4 := hcell 4 (by omega)
  have c5 := hcell 5 (by omega)
  have c6 := hcell 6 (by omega)
  obtain ⟨b00, b01⟩ := hb.at 0
  obtain ⟨b40, b41⟩ := hb.at 4
  obtain ⟨b50, b51⟩ := hb.at 5
  have n1 := i64_and (a.getD 0 0) 1 b00 (by omega) (by omega) (by omega)
  have n2 := i64_and (a.getD 0 0) 2 b00 (by omega) (by omega) (by omega)
  have n3 := i64_and (a.getD 0 0) 4 b00 (by omega) (by omega) (by omega)
  have hcd : ∀ d : Dot, Hid (clearDot a d = { r := if iand (a.getD 0 0) 1 = 0 then d.r else a.getD 1 0, g := if iand (a.getD 0 0) 1 = 0 then d.g else a.getD 2 0, b := if iand (a.getD 0 0) 1 = 0 then d.b else a.getD 3 0, d := if iand (a.getD 0 0) 2 = 0 then d.d else 256 * a.getD 4 0 + a.getD 5 0, s := if iand (a.getD 0 0) 4 = 0 then d.s else a.getD 6 0 }) := fun _ => rfl
  generalize a.getD 0 0 = a0 at *
  generalize a.getD 1 0 = a1 at *
  generalize a.getD 2 0 = a2 at *
  generalize a.getD 3 0 = a3 at *
  generalize a.getD 4 0 = a4 at *
  generalize a.getD 5 0 = a5 at *
  generalize a.getD 6 0 = a6 at *
  have HC : Hid _ := hcd
  clear hcd hcell hb
  have e1 : (iand a0 1 != 0) = true ∨ (iand a0 1 != 0) = false := by cases (iand a0 1 != 0) <;> simp
  have e2 : (iand a0 2 != 0) = true ∨ (iand a0 2 != 0) = false := by cases (iand a0 2 != 0) <;> simp
  have e3 : (iand a0 4 != 0) = true ∨ (iand a0 4 != 0) = false := by cases (iand a0 4 != 0) <;> simp
  go_enter Tryz.func42, Tryz.ntmps42
  go_wp2_with fail
  go_loopg [4] st.dots.length (fun n i wr => ∃ k : Nat, k + n = st.dots.length ∧ i = .int .i64 k ∧ PaneIn wr p dB qB shV outV { st with dots := doneTo (clearDot a) st.dots k } ∧ Kept (· = dB) w wr)
  case atStart => exact ⟨0, by omega, rfl, by rw [doneTo_zero]; exact h, Kept.refl _ _⟩
  case round =>
    obtain ⟨k, hkn, rfl, hP, hK⟩ := hrel
    have cp := cell_of hP.bp
    simp only [pcells, doneTo_len] at cp
    by_cases hlt : k < st.dots.length
    · obtain ⟨n', rfl⟩ : ∃ n', gk = n' + 1 := ⟨gk - 1, by omega⟩
      have hlt' : k < (doneTo (clearDot a) st.dots k).length := by rw [doneTo_len]; exact hlt
      obtain ⟨g0, g1, g2, g3, g4⟩ := dcells_get _ k hlt'
      rw [doneTo_at _ _ _ hlt] at g0 g1 g2 g3 g4
      have cd := cell_of hP.bd
      have cd0 := (cd (k * 5)).trans g0
      have cd1 := (cd (k * 5 + 1)).trans g1
      have cd2 := (cd (k * 5 + 2)).trans g2
      have cd3 := (cd (k * 5 + 3)).trans g3
      have cd4 := (cd (k * 5 + 4)).trans g4
      have fd := frozen_of hP.bd
      have hs := doneTo_succ (clearDot a) st.dots k hlt
      have HS : Hid _ := hs
      have hbk := hK.block g hg hgd
      have x0 : wr.cell? ⟨g, 0, none⟩ = _ := (World.cell?_of_block (w := w) (a := ⟨g, 0, none⟩) hbk).trans c0
      have x1 : wr.cell? ⟨g, 1, none⟩ = _ := (World.cell?_of_block (w := w) (a := ⟨g, 1, none⟩) hbk).trans c1
      have x2 : wr.cell? ⟨g, 2, none⟩ = _ := (World.cell?_of_block (w := w) (a := ⟨g, 2, none⟩) hbk).trans c2
      have x3 : wr.cell? ⟨g, 3, none⟩ = _ := (World.cell?_of_block (w := w) (a := ⟨g, 3, none⟩) hbk).trans c3
      have x4 : wr.cell? ⟨g, 4, none⟩ = _ := (World.cell?_of_block (w := w) (a := ⟨g, 4, none⟩) hbk).trans c4
      have x5 : wr.cell? ⟨g, 5, none⟩ = _ := (World.cell?_of_block (w := w) (a := ⟨g, 5, none⟩) hbk).trans c5
      have x6 : wr.cell? ⟨g, 6, none⟩ = _ := (World.cell?_of_block (w := w) (a := ⟨g, 6, none⟩) hbk).trans c6
      obtain ⟨lp, ld, lq⟩ := hP.lt
      have lg : g < wr.heap.size := Nat.lt_of_lt_of_le hg hK.size
      have hgB : wr.heap.size ≠ g := by omega
      have hdB : wr.heap.size ≠ dB := by omega
      have hpB : wr.heap.size ≠ p := by omega
      have m1 : IntKind.i64.wrap (256 * a4) = 256 * a4 := k64 (by omega)
      have m2 : IntKind.i64.wrap (256 * a4 + a5) = 256 * a4 + a5 := k64 (by omega)
      have q1 : (k : Int) < (st.dots.length : Int) := by omega
      have q2 : (0 : Int) ≤ (k : Int) := by omega
      generalize hd : st.dots[k] = d at *
      have HD : Hid _ := hd
      clear hs g0 g1 g2 g3 g4 cd hd hbk c0 c1 c2 c3 c4 c5 c6
      rcases e1 with e1 | e1 <;> rcases e2 with e2 | e2 <;> rcases e3 with e3 | e3
      · go_wp2_with fail
        go_region
        go_wp2_with fail
        go_region
        go_wp2_with fail
        go_roundg n'
        case rel =>
          go_light
          have hcd : clearDot a d = ⟨a1, a2, a3, 256 * a4 + a5, a6⟩ := by
            rw [(HC.out d).out]
            simp at e1 e2 e3
            simp [e1, e2, e3]
          have P := hP.put (idx := k) (by show k < (doneTo (clearDot a) st.dots k).length; exact hlt') ⟨a1, a2, a3, 256 * a4 + a5, a6⟩
          refine ⟨k + 1, by omega, by go_num, ?_, ((hK.trans P.2).alloc _).drew.drew⟩
          rw [HS.out, hcd]
          exact (P.1.frame below1).drew.drew
        case measure => omega
      · go_wp2_with fail
        go_region
        go_wp2_with fail
        go_region
        go_wp2_with fail
        go_roundg n'
        case rel =>
          go_light
          have hcd : clearDot a d = ⟨a1, a2, a3, 256 * a4 + a5, d.s⟩ := by
            rw [(HC.out d).out]
            simp at e1 e2 e3
            simp [e1, e2, e3]
          have P := hP.put (idx := k) (by show k < (doneTo (clearDot a) st.dots k).length; exact hlt') ⟨a1, a2, a3, 256 * a4 + a5, d.s⟩
          refine ⟨k + 1, by omega, by go_num, ?_, ((hK.trans P.2).alloc _).drew.drew⟩
          rw [HS.out, hcd]
          exact (P.1.frame below1).drew.drew
        case measure => omega
      · go_wp2_with fail
        go_region
        go_wp2_with fail
        go_roundg n'
        case rel =>
          go_light
          have hcd : clearDot a d = ⟨a1, a2, a3, d.d, a6⟩ := by
            rw [(HC.out d).out]
            simp at e1 e2 e3
            simp [e1, e2, e3]
          have P := hP.put (idx := k) (by show k < (doneTo (clearDot a) st.dots k).length; exact hlt') ⟨a1, a2, a3, d.d, a6⟩
          refine ⟨k + 1, by omega, by go_num, ?_, ((hK.trans P.2).alloc _).drew⟩
          rw [HS.out, hcd]
          exact (P.1.frame below1).drew
        case measure => omega
      · go_wp2_with fail
        go_region
        go_wp2_with fail
        go_roundg n'
        case rel =>
          go_light
          have hcd : clearDot a d = ⟨a1, a2, a3, d.d, d.s⟩ := by
            rw [(HC.out d).out]
            simp at e1 e2 e3
            simp [e1, e2, e3]
          have P := hP.put (idx := k) (by show k < (doneTo (clearDot a) st.dots k).length; exact hlt') ⟨a1, a2, a3, d.d, d.s⟩
          refine ⟨k + 1, by omega, by go_num, ?_, ((hK.trans P.2).alloc _).drew⟩
          rw [HS.out, hcd]
          exact (P.1.frame below1).drew
        case measure => omega
      · go_wp2_with fail
        go_region
        go_wp2_with fail
        go_region
        go_wp2_with fail
        go_roundg n'
        case rel =>
          go_light
          have hcd : clearDot a d = ⟨d.r, d.g, d.b, 256 * a4 + a5, a6⟩ := by
            rw [(HC.out d).out]
            simp at e1 e2 e3
            simp [e1, e2, e3]
          have P := hP.put (idx := k) (by show k < (doneTo (clearDot a) st.dots k).length; exact hlt') ⟨d.r, d.g, d.b, 256 * a4 + a5, a6⟩
          refine ⟨k + 1, by omega, by go_num, ?_, ((hK.trans P.2).alloc _).drew.drew⟩
          rw [HS.out, hcd]
          exact (P.1.frame below1).drew.drew
        case measure => omega
      · go_wp2_with fail
        go_region
        go_wp2_with fail
        go_region
        go_wp2_with fail
        go_roundg n'
        case rel =>
          go_light
          have hcd : clearDot a d = ⟨d.r, d.g, d.b, 256 * a4 + a5, d.s⟩ := by
            rw [(HC.out d).out]
            simp at e1 e2 e3
            simp [e1, e2, e3]
          have P := hP.put (idx := k) (by show k < (doneTo (clearDot a) st.dots k).length; exact hlt') ⟨d.r, d.g, d.b, 256 * a4 + a5, d.s⟩
          refine ⟨k + 1, by omega, by go_num, ?_, ((hK.trans P.2).alloc _).drew.drew⟩
          rw [HS.out, hcd]
          exact (P.1.frame below1).drew.drew
        case measure => omega
      · go_wp2_with fail
        go_region
        go_wp2_with fail
        go_roundg n'
        case rel =>
          go_light
          have hcd : clearDot a d = ⟨d.r, d.g, d.b, d.d, a6⟩ := by
            rw [(HC.out d).out]
            simp at e1 e2 e3
            simp [e1, e2, e3]
          have P := hP.put (idx := k) (by show k < (doneTo (clearDot a) st.dots k).length; exact hlt') ⟨d.r, d.g, d.b, d.d, a6⟩
          refine ⟨k + 1, by omega, by go_num, ?_, ((hK.trans P.2).alloc _).drew⟩
          rw [HS.out, hcd]
          exact (P.1.frame below1).drew
        case measure => omega
      · go_wp2_with fail
        go_region
        go_wp2_with fail
        go_roundg n'
        case rel =>
          go_light
          have hcd : clearDot a d = ⟨d.r, d.g, d.b, d.d, d.s⟩ := by
            rw [(HC.out d).out]
            simp at e1 e2 e3
            simp [e1, e2, e3]
          have P := hP.put (idx := k) (by show k < (doneTo (clearDot a) st.dots k).length; exact hlt') ⟨d.r, d.g, d.b, d.d, d.s⟩
          refine ⟨k + 1, by omega, by go_num, ?_, ((hK.trans P.2).alloc _).drew⟩
          rw [HS.out, hcd]
          exact (P.1.frame below1).drew
        case measure => omega
    · have hk0 : gk = 0 := by omega
      subst hk0
      go_wp2_with fail
      go_end0
      go_light
      refine ⟨rfl, ?_, hK⟩
      have e : st.clear a = { st with dots := doneTo (clearDot a) st.dots k } := by unfold St.clear; rw [doneTo_end _ _ _ (by omega)]
      rw [e]; exact hP

end Go.Proofs.YthcikinkicpicaaGreatDoor

namespace Go.Proofs.YthcikinkicpicaaGreatDoor
open Go.RowKit

theorem set_d (l : List Dot) (i : Nat) (h : i < l.length) (v : Int) : (dcells l).setIfInBounds (i * 5 + 3) (.int .i64 v) = dcells (l.set i { l[i] with d := v }) := by
  have hl := flat_len (fun o : Dot => [Value.int .i64 o.r, .int .i64 o.g, .int .i64 o.b, .int .i64 o.d, .int .i64 o.s]) 5 (fun _ => rfl) l
  have hs := flat_set (fun o : Dot => [Value.int .i64 o.r, .int .i64 o.g, .int .i64 o.b, .int .i64 o.d, .int .i64 o.s]) 5 (fun _ => rfl) l i { l[i] with d := v } h
  have hg := dcells_get l i h
  unfold dcells at hg
  apply Array.ext_getElem?
  intro j
  unfold dcells
  simp only [List.setIfInBounds_toArray, List.getElem?_toArray, List.getElem?_set] at hg ⊢
  rw [hs j]
  simp only [hl]
  by_cases hj : i * 5 ≤ j ∧ j < i * 5 + 5
  · rw [if_pos hj]
    obtain ⟨h1, h2⟩ := hj
    have : j = i * 5 ∨ j = i * 5 + 1 ∨ j = i * 5 + 2 ∨ j = i * 5 + 3 ∨ j = i * 5 + 4 := by omega
    rcases this with rfl | rfl | rfl | rfl | rfl
    · rw [if_neg (by omega), hg.1]; simp
    · rw [if_neg (by omega), hg.2.1]; simp
    · rw [if_neg (by omega), hg.2.2.1]; simp
    · rw [if_pos rfl, if_pos (by omega)]; simp
    · rw [if_neg (by omega), hg.2.2.2.2]; simp
  · rw [if_neg hj, if_neg (by omega)]

theorem made_dots (n : Nat) : (madeCells #[Value.int .i64 0, .int .i64 0, .int .i64 0, .int .i64 0, .int .i64 0] (n * 5)).toList = (dcells (List.replicate n dot0)).toList := by
  apply List.ext_getElem?
  intro j
  have hl := flat_len (fun o : Dot => [Value.int .i64 o.r, .int .i64 o.g, .int .i64 o.b, .int .i64 o.d, .int .i64 o.s]) 5 (fun _ => rfl) (List.replicate n dot0)
  rw [List.length_replicate] at hl
  by_cases hj : j < n * 5
  · have hi : j / 5 < n := by omega
    have hg := dcells_get (List.replicate n dot0) (j / 5) (by simpa using hi)
    simp only [List.getElem_replicate] at hg
    unfold dcells at hg ⊢
    have hj' : j = j / 5 * 5 + j % 5 := by omega
    have h5 : j % 5 = 0 ∨ j % 5 = 1 ∨ j % 5 = 2 ∨ j % 5 = 3 ∨ j % 5 = 4 := by omega
    have hm : (madeCells #[Value.int .i64 0, .int .i64 0, .int .i64 0, .int .i64 0, .int .i64 0] (n * 5)).toList[j]? = some (.int .i64 0) := by
      simp [madeCells, hj]
      rcases h5 with h | h | h | h | h <;> simp [h]
    rw [hm]
    rcases h5 with h | h | h | h | h
    · rw [show j = j / 5 * 5 from by omega]; simpa [dot0] using hg.1.symm
    · rw [show j = j / 5 * 5 + 1 from by omega]; simpa [dot0] using hg.2.1.symm
    · rw [show j = j / 5 * 5 + 2 from by omega]; simpa [dot0] using hg.2.2.1.symm
    · rw [show j = j / 5 * 5 + 3 from by omega]; simpa [dot0] using hg.2.2.2.1.symm
    · rw [show j = j / 5 * 5 + 4 from by omega]; simpa [dot0] using hg.2.2.2.2.symm
  · rw [List.getElem?_eq_none (by simp [madeCells]; omega), List.getElem?_eq_none (by unfold dcells; simp only [hl]; omega)]

theorem owned_block {w : World} {base B n : Nat} {e : TypeId} {size : Nat} {xs : List Value} (h : w.ownsRow base e size (.slice (some ⟨B, 0, none⟩) n n) n xs) : w.heap[B]? = some (.cells xs.toArray e (0, 0)) := by
  obtain ⟨h1, h2⟩ := h
  rcases h2 with ⟨h2, _⟩ | ⟨g, cap, cur, hv, _, hh, _, _, hs, ht⟩
  · cases h2
  · have hv' := hv
    injection hv' with e1 e2 e3
    injection e1 with e1
    injection e1 with e1
    subst e1 e3
    rw [hh]
    rw [List.take_of_length_le (by simp [hs])] at ht
    rw [← ht]

theorem Tryz.infoDot : (Tryz.prog.info? 135).map (fun i => (i.zero, i.size, i.bytes)) = some (some (.agg #[.int .i64 0, .int .i64 0, .int .i64 0, .int .i64 0, .int .i64 0]), 5, 40) := by kernel_rfl

theorem size_p {p : Nat} {v0 v1 v2 v3 v4 v5 v6 v7 v8 v9 v10 v11 v12 v13 v14 v15 v16 v17 v18 v19 v20 v21 a b : Value} {w w1 : World}
    (hp : w.heap[p]? = some (.cells #[v0, v1, v2, v3, v4, v5, v6, v7, v8, v9, v10, v11, v12, v13, v14, v15, v16, v17, v18, v19, v20, v21] 38 (0, 0)))
    (hg : ((w.setCell ⟨p, 0, none⟩ a).setCell ⟨p, 1, none⟩ b).grownBy w1 none) :
    w1.heap[p]? = some (.cells #[a, b, v2, v3, v4, v5, v6, v7, v8, v9, v10, v11, v12, v13, v14, v15, v16, v17, v18, v19, v20, v21] 38 (0, 0)) := by
  have lp := lt_of_heap hp
  rw [hg.block p (by rw [size_setCell', size_setCell']; exact lp) (by simp)]
  exact heap_set_same (heap_set_same hp _ _) _ _

theorem size_k {p : Nat} {a b : Value} {w w1 : World} (hg : ((w.setCell ⟨p, 0, none⟩ a).setCell ⟨p, 1, none⟩ b).grownBy w1 none) : Kept (· = p) w w1 := by
  refine ⟨hg.os, hg.tape, hg.output, by simpa [size_setCell'] using hg.size, fun k hk hne => ?_⟩
  rw [hg.block k (by rw [size_setCell', size_setCell']; exact hk) (by simp), heap_set_ne hne, heap_set_ne hne]

theorem size_d {p n : Nat} {a b : Value} {w w1 : World} (h : w1.ownsRow 0 135 5 (.slice (some ⟨((w.setCell ⟨p, 0, none⟩ a).setCell ⟨p, 1, none⟩ b).heap.size, 0, none⟩) n n) n
      (madeCells (Value.agg #[.int .i64 0, .int .i64 0, .int .i64 0, .int .i64 0, .int .i64 0]).cells (n * 5)).toList) :
    w1.heap[w.heap.size]? = some (.cells (dcells (List.replicate n dot0)) 135 (0, 0)) := by
  have h1 := owned_block h
  rw [size_setCell', size_setCell'] at h1
  rw [h1]
  have := made_dots n
  simp only [Value.cells]
  rw [this]

structure SizeInv (p n : Nat) (v3 v4 v5 v6 v7 v8 v9 v10 v11 v12 v13 v14 v15 v16 v17 v18 v19 v20 v21 : Value) (W H : Int) (w : World) (k : Nat) (wr : World) : Prop where
  bp : wr.heap[p]? = some (.cells #[.int .i64 W, .int .i64 H, .slice (some ⟨w.heap.size, 0, none⟩) n n, v3, v4, v5, v6, v7, v8, v9, v10, v11, v12, v13, v14, v15, v16, v17, v18, v19, v20, v21] 38 (0, 0))
  bd : wr.heap[w.heap.size]? = some (.cells (dcells (doneTo (fun d => { d with d := 65535 }) (List.replicate n dot0) k)) 135 (0, 0))
  kept : Kept (· = p) w wr

set_option maxRecDepth 100000 in
set_option maxHeartbeats 1000000 in
theorem size_any (p : Nat) (v0 v1 v2 v3 v4 v5 v6 v7 v8 v9 v10 v11 v12 v13 v14 v15 v16 v17 v18 v19 v20 v21 : Value) (W H : Int) (w : World)
    (hp : w.heap[p]? = some (.cells #[v0, v1, v2, v3, v4, v5, v6, v7, v8, v9, v10, v11, v12, v13, v14, v15, v16, v17, v18, v19, v20, v21] 38 (0, 0)))
    (hW0 : 1 ≤ W) (hW1 : W ≤ 24) (hH0 : 1 ≤ H) (hH1 : H ≤ 24) :
    Calls Tryz.prog 39 #[.pointer (some ⟨p, 0, none⟩), .int .i64 W, .int .i64 H] w fun e w' =>
      e = .returned (.tuple #[]) ∧ w'.heap[p]? = some (.cells #[.int .i64 W, .int .i64 H, .slice (some ⟨w.heap.size, 0, none⟩) (W * H).toNat (W * H).toNat, v3, v4, v5, v6, v7, v8, v9, v10, v11, v12, v13, .int .i64 0, .int .i64 0, .int .i64 W, .int .i64 H, v18, v19, v20, v21] 38 (0, 0)) ∧
      w'.heap[w.heap.size]? = some (.cells (dcells (List.replicate (W * H).toNat dot1)) 135 (0, 0)) ∧ Kept (· = p) w w' := by
  have hmul := mul_abs_le W H 24 24 (by omega) (by omega) (by omega) (by omega)
  have hpos : 0 < W * H := Int.mul_pos (by omega) (by omega)
  obtain ⟨n, hn⟩ := Int.eq_ofNat_of_zero_le (Int.le_of_lt hpos)
  have hn9 : n ≤ 576 := by omega
  rw [hn]
  have ent : (n : Int).toNat = n := rfl
  rw [ent]
  have lp := lt_of_heap hp
  have cp := cell_of hp
  have fp := frozen_of hp
  obtain ⟨i0, hi, hz0, hz1, hz2⟩ := info_parts Tryz.infoDot
  have HN : Hid _ := hn
  have hwr : wrap64 (W * H) = (n : Int) := by rw [hn]; exact w64 (by omega)
  clear hn ent hmul hpos
  go_enter Tryz.func39, Tryz.ntmps39
  go_wp2_with (at_make; refine wpList_make_full _ rfl (.tmp 18) (.tmp 18) 29 rfl 0 135 i0 _ 5 Tryz.underlying29 hi hz0 hz1 .i64 .i64 _ _ n rfl rfl hwr hwr (by rw [hz2]; omega) (by unfold maxLen; omega) (Nat.zero_le _) ?_; intro w1 hown hgrow; have hp1 := size_p hp hgrow; have hk1 := size_k hgrow; have hd1 := size_d hown; clear hown hgrow cp fp; have cp1 := cell_of hp1; have fp1 := frozen_of hp1)
  go_loopg [6] n (fun m i wr => ∃ k : Nat, k + m = n ∧ i = .int .i64 k ∧ SizeInv p n v3 v4 v5 v6 v7 v8 v9 v10 v11 v12 v13 v14 v15 v16 v17 v18 v19 v20 v21 W H w k wr)
  case atStart =>
    refine ⟨0, by omega, rfl, ⟨heap_set_same hp1 _ _, ?_, hk1.set (.inl rfl) _ _⟩⟩
    rw [doneTo_zero, heap_set_ne (by omega)]; exact hd1
  case round =>
    obtain ⟨k, hkn, rfl, hI⟩ := hrel
    have cp := cell_of hI.bp
    have fp := frozen_of hI.bp
    have fd := frozen_of hI.bd
    by_cases hlt : k < n
    · obtain ⟨m', rfl⟩ : ∃ m', gk = m' + 1 := ⟨gk - 1, by omega⟩
      have hlt' : k < (doneTo (fun d => { d with d := 65535 }) (List.replicate n dot0) k).length := by rw [doneTo_len]; simpa using hlt
      obtain ⟨_, _, _, g3, _⟩ := dcells_get _ k hlt'
      have cd3 := (cell_of hI.bd (k * 5 + 3)).trans g3
      clear g3
      generalize (doneTo (fun d => { d with d := 65535 }) (List.replicate n dot0) k)[k].d = dd at cd3
      go_wp2_with fail
      go_roundg m'
      case rel =>
        go_light
        refine ⟨k + 1, by omega, by go_num, ⟨?_, ?_, hI.kept.set (.inr (Nat.le_refl _)) _ _⟩⟩
        · rw [heap_set_ne (by omega)]; exact hI.bp
        · rw [heap_set_same hI.bd, set_d _ _ hlt', doneTo_succ _ _ _ (by simpa using hlt)]
          congr 3
          rw [doneTo_at _ _ _ (by simpa using hlt)]
      case measure => omega
    · have hm0 : gk = 0 := by omega
      subst hm0
      have hkn' : k = n := by omega
      subst hkn'
      go_wp2_with fail
      go_end0
      go_light
      refine ⟨rfl, heap_set_same (heap_set_same (heap_set_same (heap_set_same hI.bp _ _) _ _) _ _) _ _, ?_, (((hI.kept.set (.inl rfl) _ _).set (.inl rfl) _ _).set (.inl rfl) _ _).set (.inl rfl) _ _⟩
      rw [heap_set_ne (by omega), heap_set_ne (by omega), heap_set_ne (by omega), heap_set_ne (by omega), hI.bd, doneTo_end _ _ _ (by simp), List.map_replicate]
      rfl

end Go.Proofs.YthcikinkicpicaaGreatDoor

namespace Go.Proofs.YthcikinkicpicaaGreatDoor
open Go.RowKit

structure PaneO (base : Nat) (w : World) (p dB qB : Nat) (shV outV : Value) (st : St) : Prop where
  pin : PaneIn w p dB qB shV outV st
  out : w.ownsRow base 96 4 outV st.out.length (rcells st.out)
  sb : ∀ k, shV.ownBlock = some k → ∃ c f, w.heap[k]? = some (.cells c 3 f)
  bp0 : base ≤ p
  bd0 : base ≤ dB
  bq0 : base ≤ qB

section
variable {base : Nat} {w w' : World} {p dB qB : Nat} {shV outV : Value} {st : St}

theorem PaneO.ob (h : PaneO base w p dB qB shV outV st) : ∀ k, outV.ownBlock = some k → k ≠ p ∧ k ≠ dB ∧ k ≠ qB ∧ shV.ownBlock ≠ some k := by
  intro k hk
  obtain ⟨cur, hc⟩ := owns_block h.out k hk
  refine ⟨?_, ?_, ?_, ?_⟩
  · rintro rfl; rw [h.pin.bp] at hc; simp at hc
  · rintro rfl; rw [h.pin.bd] at hc; simp at hc
  · rintro rfl; rw [h.pin.bq] at hc; simp at hc
  · intro hs
    obtain ⟨c, f, h1⟩ := h.sb k hs
    rw [h1] at hc
    simp at hc

theorem PaneO.push (h : PaneO base w p dB qB shV outV st) {v' : Value} {r : Rep} (hg : w.grownBy w' outV.ownBlock)
    (ho : w'.ownsRow base 96 4 v' (st.out.length + 1) (rcells st.out ++ [Value.int .i64 r.k, .int .i64 r.a, .int .i64 r.b, .int .i64 r.c])) :
    PaneO base (w'.setCell ⟨p, 21, none⟩ v') p dB qB shV v' { st with out := st.out ++ [r] } ∧ Kept (fun k => k = p ∨ outV.ownBlock = some k) w (w'.setCell ⟨p, 21, none⟩ v') := by
  obtain ⟨lp, ld, lq⟩ := h.pin.lt
  have hob := h.ob
  have n1 : some p ≠ outV.ownBlock := fun e => (hob p e.symm).1 rfl
  have n2 : some dB ≠ outV.ownBlock := fun e => (hob dB e.symm).2.1 rfl
  have n3 : some qB ≠ outV.ownBlock := fun e => (hob qB e.symm).2.2.1 rfl
  have hp' : w'.heap[p]? = _ := (hg.block p lp n1).trans h.pin.bp
  have hkept : Kept (fun k => k = p ∨ outV.ownBlock = some k) w (w'.setCell ⟨p, 21, none⟩ v') := by
    refine ⟨hg.os, hg.tape, hg.output, by rw [size_setCell']; exact hg.size, fun k hk hn => ?_⟩
    rw [heap_set_ne (fun e => hn (.inl e)), hg.block k hk (fun e => hn (.inr e.symm))]
  have hsz : ∀ k, shV.ownBlock = some k → k < w.heap.size := fun k hk => by obtain ⟨c, f, h1⟩ := h.sb k hk; exact lt_of_heap h1
  have hsame : ∀ k, shV.ownBlock = some k → k ≠ p → (w'.setCell ⟨p, 21, none⟩ v').heap[k]? = w.heap[k]? := fun k hk hne =>
    hkept.block k (hsz k hk) (fun e => by
      rcases e with e | e
      · exact hne e
      · exact (hob k e).2.2.2 hk)
  refine ⟨⟨⟨?_, ?_, ?_, ?_, h.pin.pd, h.pin.pq, h.pin.dq⟩, ?_, ?_, h.bp0, h.bd0, h.bq0⟩, hkept⟩
  · rw [heap_set_same hp']; rfl
  · rw [heap_set_ne (fun e => h.pin.pd e.symm), hg.block dB ld n2]; exact h.pin.bd
  · rw [heap_set_ne (fun e => h.pin.pq e.symm), hg.block qB lq n3]; exact h.pin.bq
  · rcases h.pin.sh with h1 | ⟨s, so, cap, hv, hc, hs, hn, hcell⟩
    · exact .inl h1
    · have hsb : shV.ownBlock = some s := by rw [hv]; rfl
      refine .inr ⟨s, so, cap, hv, hc, by rw [size_setCell']; exact Nat.lt_of_lt_of_le hs hg.size, hn, fun j hj => ?_⟩
      rw [World.cell?_of_block (w := w) (a := ⟨s, so + j, none⟩) (hsame s hsb (fun e => hn (.inl e)))]
      exact hcell j hj
  · show (w'.setCell ⟨p, 21, none⟩ v').ownsRow base _ 4 v' (st.out ++ [r]).length (rcells (st.out ++ [r]))
    rw [rcells_snoc, List.length_append]
    obtain ⟨o1, o2⟩ := ho
    refine ⟨by simpa using o1, ?_⟩
    rcases o2 with o2 | ⟨g, cap, cur, hv, hge, hh, r1⟩
    · exact absurd o2.2 (by omega)
    · refine .inr ⟨g, cap, cur, by simpa using hv, hge, ?_, by simpa using r1⟩
      rw [heap_set_ne]
      · exact hh
      · rintro rfl
        rw [hp'] at hh
        simp at hh
  · intro k hk
    obtain ⟨c, f, h1⟩ := h.sb k hk
    by_cases hkp : k = p
    · subst hkp; rw [h.pin.bp] at h1; simp at h1
    · exact ⟨c, f, by rw [hsame k hk hkp]; exact h1⟩

/-- What works on the pane's own blocks leaves the replies as they were. -/
theorem PaneO.step {st' : St} (h : PaneO base w p dB qB shV outV st) (hp : PaneIn w' p dB qB shV outV st') (ho : st'.out = st.out) (hk : Kept (fun k => k = p ∨ k = dB ∨ k = qB) w w') : PaneO base w' p dB qB shV outV st' := by
  refine ⟨hp, ?_, ?_, h.bp0, h.bd0, h.bq0⟩
  · rw [ho]
    obtain ⟨o1, o2⟩ := h.out
    refine ⟨o1, ?_⟩
    rcases o2 with o2 | ⟨g, cap, cur, hv, hge, hh, r⟩
    · exact .inl o2
    · refine .inr ⟨g, cap, cur, hv, hge, ?_, r⟩
      have hb := h.ob g (by rw [hv]; rfl)
      rw [hk.block g (lt_of_heap hh) (by rintro (e | e | e); exact hb.1 e; exact hb.2.1 e; exact hb.2.2.1 e)]
      exact hh
  · intro k hk'
    obtain ⟨c, f, h1⟩ := h.sb k hk'
    refine ⟨c, f, ?_⟩
    rw [hk.block k (lt_of_heap h1)]
    · exact h1
    · rintro (e | e | e)
      · subst e; rw [h.pin.bp] at h1; simp at h1
      · subst e; rw [h.pin.bd] at h1; simp at h1
      · subst e; rw [h.pin.bq] at h1; simp at h1
theorem PaneO.frame (h : PaneO base w p dB qB shV outV st) (hb : Below w.heap.size w w') : PaneO base w' p dB qB shV outV st :=
  h.step (h.pin.frame hb) rfl ((Kept.refl _ _).below hb)

/-- What turns the pane's own blocks alone turns nothing below them. -/
theorem PaneO.low (h : PaneO base w p dB qB shV outV st) (hk : Kept (fun k => k = p ∨ k = dB ∨ k = qB ∨ outV.ownBlock = some k) w w') : Below base w w' := by
  have h1 := h.bp0; have h2 := h.bd0; have h3 := h.bq0
  have hlt := h.pin.lt
  refine ⟨hk.os, hk.tape, hk.output, hk.size, fun k hb => hk.block k (by omega) ?_⟩
  rintro (e | e | e | e)
  · omega
  · omega
  · omega
  · have := (h.out.lt k e).1; omega

theorem PaneO.pcell (h : PaneO base w p dB qB shV outV st) (hg : w.grownBy w' outV.ownBlock) : w'.heap[p]? = some (.cells (pcells st dB qB shV outV) 38 (0, 0)) :=
  (hg.block p h.pin.lt.1 (fun e => (h.ob p e.symm).1 rfl)).trans h.pin.bp
end

theorem Tryz.infoRep : (Tryz.prog.info? 96).map (fun i => (i.zero, i.size, i.bytes)) = some (some (.agg #[.int .i64 0, .int .i64 0, .int .i64 0, .int .i64 0]), 4, 32) := by kernel_rfl

end Go.Proofs.YthcikinkicpicaaGreatDoor

namespace Go.Proofs.YthcikinkicpicaaGreatDoor
open Go.RowKit

theorem aboveB_snoc (l : List Int) (k : Nat) (h : k < l.length) (most : Int) : aboveB (l.take (k + 1)) most = (aboveB (l.take k) most || decide (most < l.getD k 0)) := by
  unfold aboveB
  rw [List.take_succ_eq_append_getElem h, List.any_append]
  simp [h]

theorem aboveB_true (l : List Int) (k : Nat) (h : k < l.length) (most : Int) (hm : most < l.getD k 0) : aboveB l most = true := by
  unfold aboveB
  rw [List.any_eq_true]
  refine ⟨l[k], List.getElem_mem _, ?_⟩
  rw [List.getD_eq_getElem?_getD, List.getElem?_eq_getElem h] at hm
  simpa using hm

set_option maxHeartbeats 400000 in
theorem above_any (g so cap : Nat) (l : List Int) (most : Int) (w : World) (hcell : ∀ j, j < l.length → w.cell? ⟨g, so + j, none⟩ = some (.int .i64 (l.getD j 0))) (hlen : l.length ≤ 2000) :
    Calls Tryz.prog 40 #[.slice (some ⟨g, so, none⟩) l.length cap, .int .i64 most] w fun e w' => e = .returned (.bool (aboveB l most)) ∧ w' = w := by
  go_enter Tryz.func40, Tryz.ntmps40
  go_wp2
  go_loop [5] (fun i => ∃ k : Nat, k ≤ l.length ∧ i = .int .i64 k ∧ aboveB (l.take k) most = false) (fun i => l.length - (intOf i).toNat)
  case atStart => exact ⟨0, Nat.zero_le _, rfl, rfl⟩
  case round =>
    obtain ⟨k, hk, rfl, hf⟩ := hrel
    have HF : Hid _ := hf
    clear hf
    by_cases hlt : k < l.length
    · have hc := hcell k hlt
      have hs := aboveB_snoc l k hlt most
      have ht := aboveB_true l k hlt most
      have HS : Hid _ := hs
      have HT : Hid _ := ht
      clear hs ht hcell
      generalize hv : l.getD k 0 = v at *
      have HV : Hid _ := hv
      clear hv
      by_cases hm : most < v
      · go_wp2
        go_ret
        exact ⟨ret_bool (HT.out hm).symm, rfl⟩
      · go_wp2
        go_round
        case rel => exact ⟨k + 1, by omega, by go_num, by rw [HS.out, HF.out]; simp; omega⟩
        case measure => simp [intOf]; omega
    · go_wp2
      go_ret
      exact ⟨ret_bool (by rw [← HF.out, List.take_of_length_le (by omega)]), rfl⟩

theorem above3 (g so cap : Nat) (b c e most : Int) (w : World) (h1 : w.cell? ⟨g, so, none⟩ = some (.int .i64 b))
    (h2 : w.cell? ⟨g, so + 1, none⟩ = some (.int .i64 c)) (h3 : w.cell? ⟨g, so + 2, none⟩ = some (.int .i64 e)) :
    Calls Tryz.prog 40 #[.slice (some ⟨g, so, none⟩) 3 cap, .int .i64 most] w fun r w' => r = .returned (.bool (aboveB [b, c, e] most)) ∧ w' = w :=
  above_any g so cap [b, c, e] most w (fun j hj => by
    have : j = 0 ∨ j = 1 ∨ j = 2 := by simp at hj; omega
    rcases this with rfl | rfl | rfl
    · exact h1
    · exact h2
    · exact h3) (by simp)

set_option maxRecDepth 100000 in
set_option maxHeartbeats 1000000 in
theorem wrong_any (g so cap : Nat) (a b c e : Int) (w : World) (h0 : w.cell? ⟨g, so, none⟩ = some (.int .i64 a)) (h1 : w.cell? ⟨g, so + 1, none⟩ = some (.int .i64 b))
    (h2 : w.cell? ⟨g, so + 2, none⟩ = some (.int .i64 c)) (h3 : w.cell? ⟨g, so + 3, none⟩ = some (.int .i64 e)) (hcap : 4 ≤ cap) :
    Calls Tryz.prog 41 #[.slice (some ⟨g, so, none⟩) 4 cap] w fun r w' => r = .returned (.bool (wrongB a b c e)) ∧ w' = w := by
  by_cases ha6 : a = 6
  · subst ha6
    go_enter Tryz.func41, Tryz.ntmps41
    go_wp2
    go_ret
    exact ⟨ret_bool (by simp [wrongB]), rfl⟩
  by_cases ha7 : a = 7
  · subst ha7
    by_cases hc : 7 < c
    · go_enter Tryz.func41, Tryz.ntmps41
      go_wp2
      go_ret
      exact ⟨ret_bool (by simp [wrongB, hc]), rfl⟩
    · go_enter Tryz.func41, Tryz.ntmps41
      go_wp2
      go_ret
      exact ⟨ret_bool (by simp [wrongB]; omega), rfl⟩
  by_cases ha8 : a = 8
  · subst ha8
    go_enter Tryz.func41, Tryz.ntmps41
    go_wp2
    go_ret
    exact ⟨ret_bool (by simp [wrongB]), rfl⟩
  have b6 : (a == 6) = false := by simpa using ha6
  have b7 : (a == 7) = false := by simpa using ha7
  have b8 : (a == 8) = false := by simpa using ha8
  have hfin : Hid (wrongB a b c e = (decide (8 < a) || aboveB [b, c, e] 7)) := by unfold wrongB; rw [if_neg ha6, if_neg ha7, if_neg ha8]; exact rfl
  clear ha6 ha7 ha8
  by_cases hgt : 8 < a
  · go_enter Tryz.func41, Tryz.ntmps41
    go_wp2
    go_ret
    exact ⟨ret_bool (by rw [hfin.out]; simp [hgt]), rfl⟩
  · go_enter Tryz.func41, Tryz.ntmps41
    go_wp2_with fail
    refine (above3 g (so + 1) (cap - 1) b c e 7 w h1 h2 h3).mono ?_
    rintro r w' ⟨rfl, rfl⟩
    go_wp2_with fail
    go_ret
    exact ⟨ret_bool (by rw [hfin.out]; simp; omega), rfl⟩

end Go.Proofs.YthcikinkicpicaaGreatDoor
