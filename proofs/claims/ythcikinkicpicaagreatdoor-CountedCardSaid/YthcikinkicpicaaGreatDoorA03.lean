import Derived.Test.YthcikinkicpicaaGreatDoorA02

namespace Go.Proofs.YthcikinkicpicaaGreatDoor
open Go.RowKit

@[reducible] def corV (c : Cor) : Value := .agg #[.int .i64 c.x, .int .i64 c.y, .int .i64 c.r, .int .i64 c.g, .int .i64 c.b, .int .i64 c.d]

theorem byteAt_extract (s : ByteArray) (i e j : Nat) (h : i + j < e) (he : e ≤ s.size) : byteAt (s.extract i e) j = byteAt s (i + j) := by
  rw [byteAt_eq _ _ (by simp; omega), byteAt_eq _ _ (by omega)]
  congr 2
  exact ByteArray.getElem_extract (by simp; omega)

/-- A signed number of two bytes, at a text's beginning. -/
def sg2 (s : ByteArray) : Int := if 32767 < 256 * byteAt s 0 + byteAt s 1 then 256 * byteAt s 0 + byteAt s 1 - 65536 else 256 * byteAt s 0 + byteAt s 1
def un2 (s : ByteArray) : Int := 256 * byteAt s 0 + byteAt s 1
theorem signed_two (s : ByteArray) (w : World) (h : 2 ≤ s.size) : Calls Tryz.prog 134 #[.string s] w fun e w' => e = .returned (.int .i64 (sg2 s)) ∧ ∃ n, w' = w.drewN n := signed_any' s w h
theorem unsigned_two (s : ByteArray) (w : World) (h : 2 ≤ s.size) : Calls Tryz.prog 83 #[.string s] w fun e w' => e = .returned (.int .i64 (un2 s)) ∧ ∃ n, w' = w.drewN n := two_any s w h

def setO (ob : Obj) (o : Nat) (v : Value) : Obj := match ob with | .cells c e f => .cells (c.setIfInBounds o v) e f | x => x
theorem hp_set (w : World) (b o k : Nat) (v : Value) : (w.setCell ⟨b, o, none⟩ v).heap[k]? = if k = b then (w.heap[k]?).map (fun ob => setO ob o v) else w.heap[k]? := by
  by_cases h : k = b
  · subst h
    rw [if_pos rfl]
    simp only [World.setCell, Array.getElem?_modify, if_true]
    cases w.heap[k]? with
    | none => rfl
    | some ob => cases ob <;> rfl
  · rw [if_neg h, heap_set_ne h]
theorem hp_alloc (w : World) (o : Obj) (k : Nat) : (w.alloc o).heap[k]? = if k = w.heap.size then some o else w.heap[k]? := by
  by_cases h : k = w.heap.size
  · rw [if_pos h, heap_alloc_at h]
  · rw [if_neg h]
    rcases Nat.lt_or_ge k w.heap.size with h1 | h1
    · exact heap_alloc_old h1 o
    · rw [Array.getElem?_eq_none (by simp; omega), Array.getElem?_eq_none h1]
theorem hp_drew (w : World) (k : Nat) : w.drew.heap[k]? = w.heap[k]? := rfl
theorem hp_drewN (w : World) (n k : Nat) : (w.drewN n).heap[k]? = w.heap[k]? := rfl
theorem hs_set (w : World) (a : Addr) (v : Value) : (w.setCell a v).heap.size = w.heap.size := by simp [World.setCell]
theorem hs_alloc (w : World) (o : Obj) : (w.alloc o).heap.size = w.heap.size + 1 := by simp
theorem hs_drew (w : World) : w.drew.heap.size = w.heap.size := rfl
theorem hs_drewN (w : World) (n : Nat) : (w.drewN n).heap.size = w.heap.size := rfl

theorem corV_eq (s : ByteArray) (h : 9 ≤ s.size) : corV (cornerOf (argsAt s 0 9) 0) = .agg #[.int .i64 (sg2 s), .int .i64 (sg2 (s.extract 2 s.size)), .int .i64 (byteAt s 6), .int .i64 (byteAt s 7), .int .i64 (byteAt s 8), .int .i64 (un2 (s.extract 4 s.size))] := by
  have g := fun j hj => argsAt_get s 0 9 j hj
  simp only [Nat.zero_add] at g
  unfold corV cornerOf sgn sg2 un2
  rw [byteAt_extract s 2 s.size 0 (by omega) (Nat.le_refl _), byteAt_extract s 2 s.size 1 (by omega) (Nat.le_refl _), byteAt_extract s 4 s.size 0 (by omega) (Nat.le_refl _), byteAt_extract s 4 s.size 1 (by omega) (Nat.le_refl _)]
  simp only [Nat.zero_add, Nat.reduceAdd, g 0 (by omega), g 1 (by omega), g 2 (by omega), g 3 (by omega), g 4 (by omega), g 5 (by omega), g 6 (by omega), g 7 (by omega), g 8 (by omega)]

theorem gen_w (Φ : World → Prop) (P : World → Prop) (W : World) (h : Φ W) (k : ∀ W, Φ W → P W) : P W := k W h

set_option maxRecDepth 100000 in
set_option maxHeartbeats 4000000 in
theorem corner_any' (s : ByteArray) (w : World) (h : 9 ≤ s.size) :
    Calls Tryz.prog 114 #[.string s] w fun e w' => e = .returned (corV (cornerOf (argsAt s 0 9) 0)) ∧ Below w.heap.size w w' := by
  have z2 : (2 : Int) ≤ (s.size : Int) := by omega
  have z4 : (4 : Int) ≤ (s.size : Int) := by omega
  have z6 : (6 : Int) < (s.size : Int) := by omega
  have z7 : (7 : Int) < (s.size : Int) := by omega
  have z8 : (8 : Int) < (s.size : Int) := by omega
  have e6 : wrap64 (s[6].toNat : Int) = byteAt s 6 := by rw [← byteAt_eq s 6 (by omega)]; exact w64 (by have := byteAt_bd s 6; omega)
  have e7 : wrap64 (s[7].toNat : Int) = byteAt s 7 := by rw [← byteAt_eq s 7 (by omega)]; exact w64 (by have := byteAt_bd s 7; omega)
  have e8 : wrap64 (s[8].toNat : Int) = byteAt s 8 := by rw [← byteAt_eq s 8 (by omega)]; exact w64 (by have := byteAt_bd s 8; omega)
  have HV : Hid (corV (cornerOf (argsAt s 0 9) 0) = .agg #[.int .i64 (sg2 s), .int .i64 (sg2 (s.extract 2 s.size)), .int .i64 (byteAt s 6), .int .i64 (byteAt s 7), .int .i64 (byteAt s 8), .int .i64 (un2 (s.extract 4 s.size))]) := corV_eq s h
  go_enter Tryz.func114, Tryz.ntmps114
  go_wp2_with fail
  go_region_with (go_at_call 134; refine (signed_two _ _ (by first | omega | (simp; omega))).mono ?_; rintro e w' ⟨rfl, n, rfl⟩)
  all_goals
    refine gen_w (fun W => W.heap[w.heap.size]? = some (.cells #[.int .i64 0, .int .i64 0, .int .i64 0, .int .i64 0, .int .i64 0, .int .i64 0] 162 (0, 0)) ∧
      W.heap[w.heap.size + 1]? = some (.cells #[.int .i64 (sg2 s), .int .i64 (sg2 (s.extract 2 s.size)), .int .i64 0, .int .i64 0, .int .i64 0, .int .i64 0] 162 (0, 0)) ∧ Below w.heap.size w W) (Exit.then _ _ Exit.normal _) _ ?_ ?_
    · refine ⟨?_, ?_, ?_⟩
      · simp only [hp_set, hp_alloc, hp_drewN, hs_alloc, hs_drewN, show w.heap.size ≠ w.heap.size + 1 from by omega, if_true, if_false, Option.map_some, setO]; try rfl
      · simp only [hp_set, hp_alloc, hp_drewN, hs_alloc, hs_drewN, show w.heap.size + 1 ≠ w.heap.size from by omega, if_true, if_false, Option.map_some, setO]; try rfl
      · repeat (first | with_reducible exact Below.refl _ _ | with_reducible apply Below.drewN' | with_reducible apply Below.drew | (with_reducible refine Below.alloc ?_ (by first | exact Nat.le_refl _ | (simp only [hs_alloc, hs_drewN]; omega)) _) | (with_reducible refine Below.setCell ?_ (by show w.heap.size ≤ w.heap.size + 1; omega) _))
    · rintro W ⟨h1, h2, h3⟩
      have c1 := cell_of h1
      have c2 := cell_of h2
      have f1 := frozen_of h1
      have f2 := frozen_of h2
      clear h1 h2
      go_wp2_with (go_at_call 83; refine (unsigned_two _ _ (by first | omega | (simp; omega))).mono ?_; rintro e w' ⟨rfl, n', rfl⟩)
      refine bodyPost_ret (v := .agg #[.int .i64 (sg2 s), .int .i64 (sg2 (s.extract 2 s.size)), .int .i64 (byteAt s 6), .int .i64 (byteAt s 7), .int .i64 (byteAt s 8), .int .i64 (un2 (s.extract 4 s.size))]) (by simp [results, Tryz.results114, go_sem, c1]) rfl ?_
      refine ⟨by rw [HV.out], ?_⟩
      repeat (first | with_reducible exact h3 | with_reducible apply Below.drewN' | with_reducible apply Below.drew | (with_reducible refine Below.setCell ?_ (by first | exact Nat.le_refl _ | (show w.heap.size ≤ w.heap.size + 1; omega)) _))
end Go.Proofs.YthcikinkicpicaaGreatDoor
