import Derived.Test.YthcikinkicpicaaGreatDoorD03
import Derived.Deep.MidRow

namespace Go.Proofs.YthcikinkicpicaaGreatDoor
open Go.RowKit

structure CorW3 (a b c : Cor) (w wr : World) : Prop where
  ba : wr.heap[w.heap.size]? = some (.cells #[.int .i64 a.x, .int .i64 a.y, .int .i64 a.d, .int .i64 a.r, .int .i64 a.g, .int .i64 a.b] 52 (0, 0))
  bb : wr.heap[w.heap.size + 1]? = some (.cells #[.int .i64 b.x, .int .i64 b.y, .int .i64 b.d, .int .i64 b.r, .int .i64 b.g, .int .i64 b.b] 52 (0, 0))
  bc : wr.heap[w.heap.size + 2]? = some (.cells #[.int .i64 c.x, .int .i64 c.y, .int .i64 c.d, .int .i64 c.r, .int .i64 c.g, .int .i64 c.b] 52 (0, 0))
  bel : Below w.heap.size w wr
theorem CorW3.below {a b c : Cor} {w wr w' : World} (h : CorW3 a b c w wr) (hb : Below wr.heap.size wr w') : CorW3 a b c w w' :=
  ⟨(hb.block _ (lt_of_heap h.ba)).trans h.ba, (hb.block _ (lt_of_heap h.bb)).trans h.bb, (hb.block _ (lt_of_heap h.bc)).trans h.bc, h.bel.trans (hb.mono h.bel.size)⟩

theorem gen_w2 (Φ : World → Prop) (P : World → Prop) (W : World) (h : Φ W) (k : ∀ W, Φ W → P W) : P W := k W h

theorem cornerL_length (c : Cor) : (cornerL c).length = 9 := rfl
theorem text9 (l : List Int) : (⟨#[9]⟩ : ByteArray) ++ textOf l = textOf (9 :: l) := textOf_append [9] l

set_option maxRecDepth 100000 in
set_option maxHeartbeats 60000000 in
theorem corners_in (a b c : Cor) (ha : a.Ok) (hb : b.Ok) (hc : c.Ok) (w : World) : Calls Tryz.prog 23 #[cv6 a, cv6 b, cv6 c] w fun e w' => e = .returned (.string (textOf (cornersL a b c))) ∧ Below w.heap.size w w' := by
  have HE : Hid (cornersL a b c = 9 :: (cornerL a ++ cornerL b ++ cornerL c)) := rfl
  have hW0 : CorW3 a b c w (((w.alloc (.cells #[.int .i64 a.x, .int .i64 a.y, .int .i64 a.d, .int .i64 a.r, .int .i64 a.g, .int .i64 a.b] 52)).alloc (.cells #[.int .i64 b.x, .int .i64 b.y, .int .i64 b.d, .int .i64 b.r, .int .i64 b.g, .int .i64 b.b] 52)).alloc (.cells #[.int .i64 c.x, .int .i64 c.y, .int .i64 c.d, .int .i64 c.r, .int .i64 c.g, .int .i64 c.b] 52)) := by
    refine ⟨?_, ?_, ?_, ((Below.refl _ _).alloc (Nat.le_refl _) _ |>.alloc (by simp) _).alloc (by simp; omega) _⟩
    · rw [heap_alloc_old (by simp; omega), heap_alloc_old (by simp)]; exact heap_alloc_new _ _
    · rw [heap_alloc_old (by simp)]; exact heap_alloc_at (by simp) _
    · exact heap_alloc_at (by simp) _
  have HT : Hid (∀ (q : Cor) (W : World), q.Ok → CorW3 a b c w W → Calls Tryz.prog 32 #[cv6 q] W fun e w' => e = .returned (.string (textOf (cornerL q))) ∧ CorW3 a b c w w') := by
    intro q W hq hW
    refine (corner_in q hq W).mono ?_
    rintro e w' ⟨rfl, hb⟩
    exact ⟨rfl, hW.below hb⟩
  have HOa : Hid a.Ok := ha
  have HOb : Hid b.Ok := hb
  have HOc : Hid c.Ok := hc
  have ka0 : ∀ w2 : World, CorW3 a b c w w2 → w2.cell? ⟨w.heap.size, 0, none⟩ = some (.int .i64 a.x) := fun w2 h => cell_of h.ba 0
  have ka1 : ∀ w2 : World, CorW3 a b c w w2 → w2.cell? ⟨w.heap.size, 1, none⟩ = some (.int .i64 a.y) := fun w2 h => cell_of h.ba 1
  have ka2 : ∀ w2 : World, CorW3 a b c w w2 → w2.cell? ⟨w.heap.size, 2, none⟩ = some (.int .i64 a.d) := fun w2 h => cell_of h.ba 2
  have ka3 : ∀ w2 : World, CorW3 a b c w w2 → w2.cell? ⟨w.heap.size, 3, none⟩ = some (.int .i64 a.r) := fun w2 h => cell_of h.ba 3
  have ka4 : ∀ w2 : World, CorW3 a b c w w2 → w2.cell? ⟨w.heap.size, 4, none⟩ = some (.int .i64 a.g) := fun w2 h => cell_of h.ba 4
  have ka5 : ∀ w2 : World, CorW3 a b c w w2 → w2.cell? ⟨w.heap.size, 5, none⟩ = some (.int .i64 a.b) := fun w2 h => cell_of h.ba 5
  have kb0 : ∀ w2 : World, CorW3 a b c w w2 → w2.cell? ⟨w.heap.size + 1, 0, none⟩ = some (.int .i64 b.x) := fun w2 h => cell_of h.bb 0
  have kb1 : ∀ w2 : World, CorW3 a b c w w2 → w2.cell? ⟨w.heap.size + 1, 1, none⟩ = some (.int .i64 b.y) := fun w2 h => cell_of h.bb 1
  have kb2 : ∀ w2 : World, CorW3 a b c w w2 → w2.cell? ⟨w.heap.size + 1, 2, none⟩ = some (.int .i64 b.d) := fun w2 h => cell_of h.bb 2
  have kb3 : ∀ w2 : World, CorW3 a b c w w2 → w2.cell? ⟨w.heap.size + 1, 3, none⟩ = some (.int .i64 b.r) := fun w2 h => cell_of h.bb 3
  have kb4 : ∀ w2 : World, CorW3 a b c w w2 → w2.cell? ⟨w.heap.size + 1, 4, none⟩ = some (.int .i64 b.g) := fun w2 h => cell_of h.bb 4
  have kb5 : ∀ w2 : World, CorW3 a b c w w2 → w2.cell? ⟨w.heap.size + 1, 5, none⟩ = some (.int .i64 b.b) := fun w2 h => cell_of h.bb 5
  have kc0 : ∀ w2 : World, CorW3 a b c w w2 → w2.cell? ⟨w.heap.size + 1 + 1, 0, none⟩ = some (.int .i64 c.x) := fun w2 h => cell_of h.bc 0
  have kc1 : ∀ w2 : World, CorW3 a b c w w2 → w2.cell? ⟨w.heap.size + 1 + 1, 1, none⟩ = some (.int .i64 c.y) := fun w2 h => cell_of h.bc 1
  have kc2 : ∀ w2 : World, CorW3 a b c w w2 → w2.cell? ⟨w.heap.size + 1 + 1, 2, none⟩ = some (.int .i64 c.d) := fun w2 h => cell_of h.bc 2
  have kc3 : ∀ w2 : World, CorW3 a b c w w2 → w2.cell? ⟨w.heap.size + 1 + 1, 3, none⟩ = some (.int .i64 c.r) := fun w2 h => cell_of h.bc 3
  have kc4 : ∀ w2 : World, CorW3 a b c w w2 → w2.cell? ⟨w.heap.size + 1 + 1, 4, none⟩ = some (.int .i64 c.g) := fun w2 h => cell_of h.bc 4
  have kc5 : ∀ w2 : World, CorW3 a b c w w2 → w2.cell? ⟨w.heap.size + 1 + 1, 5, none⟩ = some (.int .i64 c.b) := fun w2 h => cell_of h.bc 5
  have ta := textOf_append
  have t9 := text9
  have ts := textOf_size
  have cl := cornerL_length
  have HA : Hid (∀ W : World, CorW3 a b c w W → Calls Tryz.prog 32 #[.agg #[.int .i64 a.x, .int .i64 a.y, .int .i64 a.d, .int .i64 a.r, .int .i64 a.g, .int .i64 a.b]] W fun e w' => e = .returned (.string (textOf (cornerL a))) ∧ CorW3 a b c w w') := fun W hW => HT.out a W HOa.out hW
  have HB : Hid (∀ W : World, CorW3 a b c w W → Calls Tryz.prog 32 #[.agg #[.int .i64 b.x, .int .i64 b.y, .int .i64 b.d, .int .i64 b.r, .int .i64 b.g, .int .i64 b.b]] W fun e w' => e = .returned (.string (textOf (cornerL b))) ∧ CorW3 a b c w w') := fun W hW => HT.out b W HOb.out hW
  have HC : Hid (∀ W : World, CorW3 a b c w W → Calls Tryz.prog 32 #[.agg #[.int .i64 c.x, .int .i64 c.y, .int .i64 c.d, .int .i64 c.r, .int .i64 c.g, .int .i64 c.b]] W fun e w' => e = .returned (.string (textOf (cornerL c))) ∧ CorW3 a b c w w') := fun W hW => HT.out c W HOc.out hW
  clear ha hb hc
  go_enter Tryz.func23, Tryz.ntmps23
  go_wp2_with fail
  refine gen_w2 (CorW3 a b c w) (Code.wp _ _ _ _) _ hW0 ?_
  intro W1 hW1
  have hD1 : CorW3 a b c w W1.drew := hW1.below (Below.refl _ _).drew
  clear hW0 HT HOa HOb HOc
  go_region_held (fun w2 => CorW3 a b c w w2) (first | assumption | exact hD1)
    ((first
      | (go_at_call 32; with_reducible refine (HA.out _ hD1).mono ?_; rintro e w2 ⟨rfl, hW2⟩)
      | (go_at_call 32; with_reducible refine (HB.out _ hW2).mono ?_; rintro e w3 ⟨rfl, hW3⟩)
      | (go_at_call 32; with_reducible refine (HC.out _ hW3).mono ?_; rintro e w4 ⟨rfl, hW4⟩)))
  all_goals
    go_wp2_with fail
    go_ret
    exact ⟨by rw [HE.out]; first | rfl | (simp [List.append_assoc]), hW4.bel⟩
end Go.Proofs.YthcikinkicpicaaGreatDoor
