import Derived.Test.YthcikinkicpicaaGreatDoorA01
import Derived.TacticsInMore

namespace Go.Proofs.YthcikinkicpicaaGreatDoor
open Go.RowKit

@[reducible] def curV (s : ByteArray) (from_ : Int) (v : Value) : Value := .agg #[.string s, .int .i64 from_, v]

theorem wrap_byte (s : ByteArray) (i : Nat) (h : i < s.size) : wrap64 (s[i].toNat : Int) = byteAt s i := by
  have h1 := byteAt_eq s i h
  have h2 := byteAt_bd s i
  rw [← h1]; exact w64 (by omega)

theorem table_at (k : Int) (h0 : 0 ≤ k) (h1 : k < 15) (h8 : k ≠ 8) :
    (#[.int .i64 (-1), .int .i64 2, .int .i64 7, .int .i64 2, .int .i64 7, .int .i64 4, .int .i64 1, .int .i64 1, .int .i64 1, .int .i64 27, .int .i64 1, .int .i64 1, .int .i64 1, .int .i64 3, .int .i64 1] : Array Value)[k.toNat]? = some (.int .i64 (kindLen k)) := by
  have : k = 0 ∨ k = 1 ∨ k = 2 ∨ k = 3 ∨ k = 4 ∨ k = 5 ∨ k = 6 ∨ k = 7 ∨ k = 9 ∨ k = 10 ∨ k = 11 ∨ k = 12 ∨ k = 13 ∨ k = 14 := by omega
  rcases this with rfl | rfl | rfl | rfl | rfl | rfl | rfl | rfl | rfl | rfl | rfl | rfl | rfl | rfl <;> rfl

theorem kindLen_none (k : Int) (h : 15 ≤ k) : kindLen k = -1 := by
  unfold kindLen
  rw [if_neg (by omega), if_neg (by omega), if_neg (by omega), if_neg (by omega), if_neg (by omega), if_neg (by omega), if_neg (by omega), if_neg (by omega), if_neg (by omega), if_neg (by omega), if_neg (by omega), if_neg (by omega), if_neg (by omega), if_neg (by omega)]

set_option maxRecDepth 100000 in
set_option maxHeartbeats 1000000 in
theorem Length_any (s : ByteArray) (i : Nat) (v : Value) (w : World) (hi : i < s.size) (hs : s.size ≤ maxLen) :
    Calls Tryz.prog 20 #[curV s i v] w fun e w' => e = .returned (.int .i64 (lenAt s i)) ∧ Below w.heap.size w w' := by
  unfold maxLen at hs
  have hk := wrap_byte s i hi
  obtain ⟨k0, k1⟩ := byteAt_bd s i
  have hfin : Hid (lenAt s i = if byteAt s i = 8 then (if s.size ≤ i + 1 then -2 else 1 + 4 * byteAt s (i + 1)) else kindLen (byteAt s i)) := rfl
  have htab := table_at (byteAt s i) k0
  generalize byteAt s i = k at *
  unfold curV
  by_cases h15 : 15 ≤ k
  · clear htab
    go_enter Tryz.func20, Tryz.ntmps20
    go_wp2
    go_ret
    exact ⟨ret_int (by rw [hfin.out, if_neg (by omega), kindLen_none k h15]), below2⟩
  by_cases h8 : k = 8
  · clear htab
    subst h8
    by_cases hl : s.size ≤ i + 1
    · go_enter Tryz.func20, Tryz.ntmps20
      go_wp2
      go_ret
      exact ⟨ret_int (by rw [hfin.out, if_pos (by first | trivial | rfl), if_pos hl]), below2⟩
    · have hk' := wrap_byte s (i + 1) (by omega)
      obtain ⟨j0, j1⟩ := byteAt_bd s (i + 1)
      generalize byteAt s (i + 1) = m at *
      go_enter Tryz.func20, Tryz.ntmps20
      go_wp2
      go_ret
      exact ⟨ret_int (by rw [hfin.out, if_pos (by first | trivial | rfl), if_neg (by omega)]), below2⟩
  · have ht := htab (by omega) h8
    have b8 : (k == 8) = false := by simpa using h8
    have hk15 : k < 15 := by omega
    clear htab
    have ht' := ht
    simp only [List.getElem?_toArray] at ht'
    have HT : Hid _ := ht'
    clear ht'
    have H8 : Hid _ := h8
    clear h8 h15
    go_enter Tryz.func20, Tryz.ntmps20
    go_wp2
    go_ret
    refine ⟨?_, below2⟩
    rw [hfin.out, if_neg H8.out]
    have e : ([.int .i64 (-1), .int .i64 2, .int .i64 7, .int .i64 2, .int .i64 7, .int .i64 4, .int .i64 1, .int .i64 1, .int .i64 1, .int .i64 27, .int .i64 1, .int .i64 1, .int .i64 1, .int .i64 3, .int .i64 1] : List Value)[k.toNat]'(by simp; omega) = .int .i64 (kindLen k) :=
      Option.some.inj ((List.getElem?_eq_getElem _).symm.trans HT.out)
    exact congrArg Ending.returned e

end Go.Proofs.YthcikinkicpicaaGreatDoor
