import Derived.Test.YtifloehpdkfchaaGreatDoorA01
import Derived.TacticsInMore
import Derived.Test.YtifloehpdkfchaaGreatDoorB01
import Derived.BigQuiet
import Derived.Deep.QuietTactic
import Derived.Deep.RegionHeld

namespace Go.Proofs.YtifloehpdkfchaaGreatDoor
open Go.RowKit

@[reducible] def curV (s : ByteArray) (from_ : Int) (v : Value) : Value := .agg #[.string s, .int .i64 from_, v]

theorem wrap_byte (s : ByteArray) (i : Nat) (h : i < s.size) : wrap64 (s[i].toNat : Int) = byteAt s i := by
  have h1 := byteAt_eq s i h
  have h2 := byteAt_bd s i
  rw [← h1]; exact w64 (by omega)

theorem table_at (k : Int) (h0 : 0 ≤ k) (h1 : k < 15) (h8 : k ≠ 8) :
    (#[.int .i64 (-1), .int .i64 2, .int .i64 7, .int .i64 2, .int .i64 7, .int .i64 4, .int .i64 1, .int .i64 1, .int .i64 1, .int .i64 27, .int .i64 1, .int .i64 1, .int .i64 1, .int .i64 3, .int .i64 1] : Array Value)[k.toNat]? = some (.int .i64 (kindLen k)) := by
  have : k = 0 ∨ k = 1 ∨ k = 2 ∨ k = 3 ∨ k = 4 ∨ k = 5 ∨ k = 6 ∨ k = 7 ∨ k = 9 ∨ k = 10 ∨ k = 11 ∨ k = 12 ∨ k = 13 ∨ k = 14 := by omega
  rcases this with rfl | rfl | rfl | rfl | rfl | rfl | rfl | rfl | rfl | rfl | rfl | rfl | rfl | rfl <;> rfl

theorem kindLen_none (k : Int) (h : 15 ≤ k) : kindLen k = -1 := by
  unfold kindLen
  rw [if_neg (by omega), if_neg (by omega), if_neg (by omega), if_neg (by omega), if_neg (by omega), if_neg (by omega), if_neg (by omega), if_neg (by omega), if_neg (by omega), if_neg (by omega), if_neg (by omega), if_neg (by omega), if_neg (by omega), if_neg (by omega)]

set_option maxRecDepth 100000 in
set_option maxHeartbeats 1000000 in
theorem Length_any (s : ByteArray) (i : Nat) (v : Value) (w : World) (hi : i < s.size) (hs : s.size ≤ maxLen) :
    Calls Tryz.prog 15 #[curV s i v] w fun e w' => e = .returned (.int .i64 (lenAt s i)) ∧ Below w.heap.size w w' := by
  unfold maxLen at hs
  have hk := wrap_byte s i hi
  obtain ⟨k0, k1⟩ := byteAt_bd s i
  have hfin : Hid (lenAt s i = if byteAt s i = 8 then (if s.size ≤ i + 1 then -2 else 1 + 4 * byteAt s (i + 1)) else kindLen (byteAt s i)) := rfl
  have htab := table_at (byteAt s i) k0
  generalize byteAt s i = k at *
  unfold curV
  by_cases h15 : 15 ≤ k
  · clear htab
    go_enter Tryz.func15, Tryz.ntmps15
    go_wp2
    go_ret
    exact ⟨ret_int (by rw [hfin.out, if_neg (by omega), kindLen_none k h15]), below2⟩
  by_cases h8 : k = 8
  · clear htab
    subst h8
    by_cases hl : s.size ≤ i + 1
    · go_enter Tryz.func15, Tryz.ntmps15
      go_wp2
      go_ret
      exact ⟨ret_int (by rw [hfin.out, if_pos (by first | trivial | rfl), if_pos hl]), below2⟩
    · have hk' := wrap_byte s (i + 1) (by omega)
      obtain ⟨j0, j1⟩ := byteAt_bd s (i + 1)
      generalize byteAt s (i + 1) = m at *
      go_enter Tryz.func15, Tryz.ntmps15
      go_wp2
      go_ret
      exact ⟨ret_int (by rw [hfin.out, if_pos (by first | trivial | rfl), if_neg (by omega)]), below2⟩
  · have ht := htab (by omega) h8
    have b8 : (k == 8) = false := by simpa using h8
    have hk15 : k < 15 := by omega
    clear htab
    have ht' := ht
    simp only [List.getElem?_toArray] at ht'
    have HT : Hid _ := ht'
    clear ht'
    have H8 : Hid _ := h8
    clear h8 h15
    go_enter Tryz.func15, Tryz.ntmps15
    go_wp2
    go_ret
    refine ⟨?_, below2⟩
    rw [hfin.out, if_neg H8.out]
    have e : ([.int .i64 (-1), .int .i64 2, .int .i64 7, .int .i64 2, .int .i64 7, .int .i64 4, .int .i64 1, .int .i64 1, .int .i64 1, .int .i64 27, .int .i64 1, .int .i64 1, .int .i64 1, .int .i64 3, .int .i64 1] : List Value)[k.toNat]'(by simp; omega) = .int .i64 (kindLen k) :=
      Option.some.inj ((List.getElem?_eq_getElem _).symm.trans HT.out)
    exact congrArg Ending.returned e

end Go.Proofs.YtifloehpdkfchaaGreatDoor

namespace Go.Proofs.YtifloehpdkfchaaGreatDoor
open Go.RowKit


set_option maxRecDepth 100000 in
set_option maxHeartbeats 400000 in
theorem signed_any (s : ByteArray) (fr : Int) (g cap : Nat) (l : List Int) (i : Nat) (w : World) (hg : g < w.heap.size) (hcell : ∀ j, j < l.length → w.cell? ⟨g, j, none⟩ = some (.int .i64 (l.getD j 0)))
    (hl : i + 1 < l.length) (hlen : l.length ≤ 2000) (hb : bytesOk l) :
    Calls Tryz.prog 54 #[curV s fr (.slice (some ⟨g, 0, none⟩) l.length cap), .int .i64 i] w fun e w' => e = .returned (.int .i64 (sgn l i)) ∧ Below w.heap.size w w' := by
  have c0 := hcell i (by omega)
  have c1 := hcell (i + 1) (by omega)
  obtain ⟨a0, a1⟩ := hb.at i
  obtain ⟨b0, b1⟩ := hb.at (i + 1)
  have hfin : Hid (sgn l i = if 32767 < 256 * l.getD i 0 + l.getD (i + 1) 0 then 256 * l.getD i 0 + l.getD (i + 1) 0 - 65536 else 256 * l.getD i 0 + l.getD (i + 1) 0) := rfl
  generalize l.getD i 0 = p at *
  generalize l.getD (i + 1) 0 = q at *
  generalize sgn l i = R at *
  unfold curV
  clear hcell hb
  go_enter Tryz.func54, Tryz.ntmps54
  go_wp2_with fail
  have i1 : (i : Int) < (l.length : Int) := by omega
  have i2 : (i : Int) + 1 < (l.length : Int) := by omega
  have i3 : (0 : Int) ≤ (i : Int) := by omega
  have i4 : (0 : Int) ≤ (i : Int) + 1 := by omega
  have i5 : IntKind.i64.wrap ((i : Int) + 1) = (i : Int) + 1 := k64 (by omega)
  have i6 : ((i : Int) + 1).toNat = i + 1 := by omega
  have i7 : IntKind.i64.wrap (256 * p) = 256 * p := k64 (by omega)
  have i8 : IntKind.i64.wrap (256 * p + q) = 256 * p + q := k64 (by omega)
  go_quiet (fail)
  clear i1 i2 i3 i4 i5 i6 i7 i8
  by_cases hlt : 32767 < 256 * p + q
  · go_wp2
    go_ret
    exact ⟨ret_int (by rw [hfin.out, if_pos hlt]), below1.drewN' _⟩
  · go_wp2
    go_ret
    exact ⟨ret_int (by rw [hfin.out, if_neg (by omega)]), below1.drewN' _⟩

theorem signed_int (s : ByteArray) (fr : Int) (g cap : Nat) (l : List Int) (i : Int) (w : World) (h0 : 0 ≤ i) (hg : g < w.heap.size) (hcell : ∀ j, j < l.length → w.cell? ⟨g, j, none⟩ = some (.int .i64 (l.getD j 0)))
    (hl : i + 1 < l.length) (hlen : l.length ≤ 2000) (hb : bytesOk l) :
    Calls Tryz.prog 54 #[curV s fr (.slice (some ⟨g, 0, none⟩) l.length cap), .int .i64 i] w fun e w' => e = .returned (.int .i64 (sgn l i.toNat)) ∧ Below w.heap.size w w' := by
  obtain ⟨n, rfl⟩ := Int.eq_ofNat_of_zero_le h0
  exact signed_any s fr g cap l n w hg hcell (by omega) hlen hb

set_option maxRecDepth 100000 in
set_option maxHeartbeats 1000000 in
theorem corner_any (s : ByteArray) (fr : Int) (g cap : Nat) (l : List Int) (i : Int) (w : World) (h0 : 0 ≤ i) (hg : g < w.heap.size) (hcell : ∀ j, j < l.length → w.cell? ⟨g, j, none⟩ = some (.int .i64 (l.getD j 0)))
    (hl : i + 8 < l.length) (hlen : l.length ≤ 2000) (hb : bytesOk l) :
    Calls Tryz.prog 29 #[curV s fr (.slice (some ⟨g, 0, none⟩) l.length cap), .int .i64 i] w fun e w' => e = .returned ((cornerOf l i.toNat).v) ∧ Below w.heap.size w w' := by
  obtain ⟨n, rfl⟩ := Int.eq_ofNat_of_zero_le h0
  have hg1 : g < w.heap.size + 1 := by omega
  unfold curV
  go_enter Tryz.func29, Tryz.ntmps29
  go_wp2_with fail
  refine (signed_int s fr g cap l n _ (by omega) (by simp; omega) (fun j hj => ?_) (by omega) hlen hb).mono ?_
  · rw [World.cell?_alloc_past _ _ _ (by simp; omega), World.cell?_alloc_past _ _ _ (by omega)]; exact hcell j hj
  rintro e w1 ⟨rfl, hb1⟩
  obtain ⟨hc1, hf1⟩ := bcell hb1
  have hs1 := hb1.size
  simp at hs1
  have hcell1 : ∀ j, j < l.length → w1.cell? ⟨g, j, none⟩ = some (.int .i64 (l.getD j 0)) := fun j hj => by
    rw [hc1 _ _ (by simp; omega), World.cell?_alloc_past _ _ _ (by simp; omega), World.cell?_alloc_past _ _ _ (by omega)]; exact hcell j hj
  have HC : Hid _ := hcell1
  clear hcell1
  go_wp2_with fail
  refine (signed_int s fr g cap l _ w1 (by omega) (by omega) HC.out (by omega) hlen hb).mono ?_
  rintro e w2 ⟨rfl, hb2⟩
  replace hb2 := hb1.trans (hb2.mono hb1.size)
  clear hc1 hf1 hb1 HC
  obtain ⟨hc2, hf2⟩ := bcell hb2
  have hcell2 : ∀ j, j < l.length → w2.cell? ⟨g, j, none⟩ = some (.int .i64 (l.getD j 0)) := fun j hj => by
    rw [hc2 _ _ (by simp; omega), World.cell?_alloc_past _ _ _ (by simp; omega), World.cell?_alloc_past _ _ _ (by omega)]; exact hcell j hj
  have k4 := hcell2 (n + 4) (by omega)
  have k5 := hcell2 (n + 5) (by omega)
  have k6 := hcell2 (n + 6) (by omega)
  have k7 := hcell2 (n + 7) (by omega)
  have k8 := hcell2 (n + 8) (by omega)
  obtain ⟨b40, b41⟩ := hb.at (n + 4)
  obtain ⟨b50, b51⟩ := hb.at (n + 5)
  have e2 : ((n : Int) + 2).toNat = n + 2 := by omega
  rw [e2]
  have hfin : Hid ((cornerOf l n).v = .agg #[.int .i64 (sgn l n), .int .i64 (sgn l (n + 2)), .int .i64 (256 * l.getD (n + 4) 0 + l.getD (n + 5) 0), .int .i64 (l.getD (n + 6) 0), .int .i64 (l.getD (n + 7) 0), .int .i64 (l.getD (n + 8) 0)]) := rfl
  generalize l.getD (n + 4) 0 = v4 at *
  generalize l.getD (n + 5) 0 = v5 at *
  generalize l.getD (n + 6) 0 = v6 at *
  generalize l.getD (n + 7) 0 = v7 at *
  generalize l.getD (n + 8) 0 = v8 at *
  generalize sgn l n = sx at *
  generalize sgn l (n + 2) = sy at *
  clear hcell2 hcell hb
  go_wp2_with fail
  have i4 : IntKind.i64.wrap ((n : Int) + 4) = (n : Int) + 4 := k64 (by omega)
  have i5 : IntKind.i64.wrap ((n : Int) + 5) = (n : Int) + 5 := k64 (by omega)
  have i6 : IntKind.i64.wrap ((n : Int) + 6) = (n : Int) + 6 := k64 (by omega)
  have i7 : IntKind.i64.wrap ((n : Int) + 7) = (n : Int) + 7 := k64 (by omega)
  have i8 : IntKind.i64.wrap ((n : Int) + 8) = (n : Int) + 8 := k64 (by omega)
  have t4 : ((n : Int) + 4).toNat = n + 4 := by omega
  have t5 : ((n : Int) + 5).toNat = n + 5 := by omega
  have t6 : ((n : Int) + 6).toNat = n + 6 := by omega
  have t7 : ((n : Int) + 7).toNat = n + 7 := by omega
  have t8 : ((n : Int) + 8).toNat = n + 8 := by omega
  have z4 : (0 : Int) ≤ (n : Int) + 4 := by omega
  have z5 : (0 : Int) ≤ (n : Int) + 5 := by omega
  have z6 : (0 : Int) ≤ (n : Int) + 6 := by omega
  have z7 : (0 : Int) ≤ (n : Int) + 7 := by omega
  have z8 : (0 : Int) ≤ (n : Int) + 8 := by omega
  have y4 : (n : Int) + 4 < (l.length : Int) := by omega
  have y5 : (n : Int) + 5 < (l.length : Int) := by omega
  have y6 : (n : Int) + 6 < (l.length : Int) := by omega
  have y7 : (n : Int) + 7 < (l.length : Int) := by omega
  have y8 : (n : Int) + 8 < (l.length : Int) := by omega
  have m1 : IntKind.i64.wrap (256 * v4) = 256 * v4 := k64 (by omega)
  have m2 : IntKind.i64.wrap (256 * v4 + v5) = 256 * v4 + v5 := k64 (by omega)
  have hgB : w.heap.size + 1 ≠ g := by omega
  have kb : w2.cell? ⟨w.heap.size, 2, none⟩ = some (.slice (some ⟨g, 0, none⟩) l.length cap) := by rw [hc2 _ _ (by simp; omega)]; simp
  go_region_held (fun w' => w'.cell? ⟨w.heap.size, 2, none⟩ = some (.slice (some ⟨g, 0, none⟩) l.length cap) ∧ w'.cell? ⟨g, n + 4, none⟩ = some (.int .i64 v4) ∧ w'.cell? ⟨g, n + 5, none⟩ = some (.int .i64 v5) ∧ w'.cell? ⟨g, n + 6, none⟩ = some (.int .i64 v6) ∧ w'.cell? ⟨g, n + 7, none⟩ = some (.int .i64 v7) ∧ w'.cell? ⟨g, n + 8, none⟩ = some (.int .i64 v8)) (go_keep) (fail)
  go_wp2_with fail
  refine bodyPost_ret (v := .agg #[.int .i64 sx, .int .i64 sy, .int .i64 (256 * v4 + v5), .int .i64 v6, .int .i64 v7, .int .i64 v8]) (by simp [results, Tryz.results29, go_sem, hc2]) rfl ?_
  go_light
  have hB : Below w.heap.size w w2 := below2.trans (hb2.mono (by simp; omega))
  exact ⟨(congrArg Ending.returned hfin.out).symm, ((((((hB.setCell (by show w.heap.size ≤ w.heap.size + 1; omega) _).setCell (by show w.heap.size ≤ w.heap.size + 1; omega) _).setCell (by show w.heap.size ≤ w.heap.size + 1; omega) _).setCell (by show w.heap.size ≤ w.heap.size + 1; omega) _).setCell (by show w.heap.size ≤ w.heap.size + 1; omega) _).setCell (by show w.heap.size ≤ w.heap.size + 1; omega) _).drew⟩

end Go.Proofs.YtifloehpdkfchaaGreatDoor
