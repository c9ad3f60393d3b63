import Derived.Test.YthcikinkicpicaaGreatDoorD02

namespace Go.Proofs.YthcikinkicpicaaGreatDoor
open Go.RowKit

theorem gen_w3 (Φ : World → Prop) (P : World → Prop) (W : World) (h : Φ W) (k : ∀ W, Φ W → P W) : P W := k W h

abbrev cv6 (c : Cor) : Value := .agg #[.int .i64 c.x, .int .i64 c.y, .int .i64 c.d, .int .i64 c.r, .int .i64 c.g, .int .i64 c.b]
/-- A corner's bytes. -/
def cornerL (c : Cor) : List Int := twoL c.x ++ twoL c.y ++ twoL c.d ++ [c.r % 256, c.g % 256, c.b % 256]

structure CorW (c : Cor) (w wr : World) : Prop where
  box : wr.heap[w.heap.size]? = some (.cells #[.int .i64 c.x, .int .i64 c.y, .int .i64 c.d, .int .i64 c.r, .int .i64 c.g, .int .i64 c.b] 52 (0, 0))
  bel : Below w.heap.size w wr
theorem CorW.below {c : Cor} {w wr w' : World} (h : CorW c w wr) (hb : Below wr.heap.size wr w') : CorW c w w' :=
  ⟨(hb.block _ (lt_of_heap h.box)).trans h.box, h.bel.trans (hb.mono h.bel.size)⟩

set_option maxRecDepth 100000 in
set_option maxHeartbeats 20000000 in
theorem corner_in (c : Cor) (hc : c.Ok) (w : World) : Calls Tryz.prog 32 #[cv6 c] w fun e w' => e = .returned (.string (textOf (cornerL c))) ∧ Below w.heap.size w w' := by
  obtain ⟨x0, x1, y0, y1, d0, d1, r0, r1, g0, g1, b0, b1⟩ := hc
  have HE : Hid (cornerL c = twoL c.x ++ twoL c.y ++ twoL c.d ++ [c.r % 256, c.g % 256, c.b % 256]) := rfl
  have HW0 : Hid (CorW c w (w.alloc (.cells #[.int .i64 c.x, .int .i64 c.y, .int .i64 c.d, .int .i64 c.r, .int .i64 c.g, .int .i64 c.b] 52))) := ⟨heap_alloc_new _ _, below1⟩
  have HT : Hid (∀ (n : Int) (W : World), -9000000000000000000 ≤ n ∧ n ≤ 9000000000000000000 → CorW c w W → Calls Tryz.prog 47 #[.int .i64 n] W fun e w' => e = .returned (.string (textOf (twoL n))) ∧ CorW c w w' ∧ Below W.heap.size W w' ∧ w'.cell? ⟨w.heap.size, 0, none⟩ = some (.int .i64 c.x) ∧ w'.cell? ⟨w.heap.size, 1, none⟩ = some (.int .i64 c.y) ∧ w'.cell? ⟨w.heap.size, 2, none⟩ = some (.int .i64 c.d) ∧ w'.cell? ⟨w.heap.size, 3, none⟩ = some (.int .i64 c.r) ∧ w'.cell? ⟨w.heap.size, 4, none⟩ = some (.int .i64 c.g) ∧ w'.cell? ⟨w.heap.size, 5, none⟩ = some (.int .i64 c.b)) := by
    intro n W hn hW
    refine (two_in n W hn).mono ?_
    rintro e w' ⟨rfl, hb⟩
    have h := hW.below hb
    exact ⟨rfl, h, hb, cell_of h.box 0, cell_of h.box 1, cell_of h.box 2, cell_of h.box 3, cell_of h.box 4, cell_of h.box 5⟩
  have ar := and255 c.r
  have ag := and255 c.g
  have ab := and255 c.b
  have er : IntKind.u8.wrap (c.r % 256) = c.r % 256 := by rw [IntKind.wrap_u8]; omega
  have eg : IntKind.u8.wrap (c.g % 256) = c.g % 256 := by rw [IntKind.wrap_u8]; omega
  have eb : IntKind.u8.wrap (c.b % 256) = c.b % 256 := by rw [IntKind.wrap_u8]; omega
  have ht := fun W => text3 (P := Tryz.prog) 99 9 5 Tryz.underlying99 Tryz.underlying5 Tryz.underlying9 (c.r % 256) (c.g % 256) (c.b % 256) (by omega) (by omega) (by omega) (by omega) (by omega) (by omega) W 5
  have HCV : Hid (∀ (W : World) (g : Nat), W.heap[g]? = some (.cells #[.int .u8 (c.r % 256), .int .u8 (c.g % 256), .int .u8 (c.b % 256)] 5 (0, 0)) → (convert 99 9 (.slice (some ⟨g, 0, none⟩) 3 3)).run Tryz.prog W = .ok (.string (textOf [c.r % 256, c.g % 256, c.b % 256])) W) := fun W g hg => text3h (P := Tryz.prog) 99 9 5 Tryz.underlying99 Tryz.underlying5 Tryz.underlying9 (c.r % 256) (c.g % 256) (c.b % 256) (by omega) (by omega) (by omega) (by omega) (by omega) (by omega) hg
  have ta := textOf_append
  go_enter Tryz.func32, Tryz.ntmps32
  go_wp2_with fail
  refine gen_w3 (CorW c w) (Code.wp _ _ _ _) _ HW0.out ?_
  intro W1 hW1
  have HW1 : Hid (CorW c w W1) := hW1
  have e0 : W1.cell? ⟨w.heap.size, 0, none⟩ = some (.int .i64 c.x) := cell_of hW1.box 0
  have e1 : W1.cell? ⟨w.heap.size, 1, none⟩ = some (.int .i64 c.y) := cell_of hW1.box 1
  have e2 : W1.cell? ⟨w.heap.size, 2, none⟩ = some (.int .i64 c.d) := cell_of hW1.box 2
  have e3 : W1.cell? ⟨w.heap.size, 3, none⟩ = some (.int .i64 c.r) := cell_of hW1.box 3
  have e4 : W1.cell? ⟨w.heap.size, 4, none⟩ = some (.int .i64 c.g) := cell_of hW1.box 4
  have e5 : W1.cell? ⟨w.heap.size, 5, none⟩ = some (.int .i64 c.b) := cell_of hW1.box 5
  clear hW1 HW0
  have ht2 := fun W : World => HCV.out (W.alloc (.cells #[.int .u8 (c.r % 256), .int .u8 (c.g % 256), .int .u8 (c.b % 256)] 5)).drew W.heap.size (heap_alloc_new _ _)
  go_region_held (fun w2 => w2.cell? ⟨w.heap.size, 0, none⟩ = some (.int .i64 c.x) ∧ w2.cell? ⟨w.heap.size, 1, none⟩ = some (.int .i64 c.y) ∧ w2.cell? ⟨w.heap.size, 2, none⟩ = some (.int .i64 c.d) ∧ w2.cell? ⟨w.heap.size, 3, none⟩ = some (.int .i64 c.r) ∧ w2.cell? ⟨w.heap.size, 4, none⟩ = some (.int .i64 c.g) ∧ w2.cell? ⟨w.heap.size, 5, none⟩ = some (.int .i64 c.b)) (go_keep)
    ((first
      | (go_at_call 47; refine (HT.out _ _ (by omega) (by first | exact hW2 | exact hW2.below below1 | exact HW1.out.below (Below.refl _ _).drew | exact HW1.out.below below1.drew | exact HW1.out.below ((Below.refl _ _).drew.alloc (Nat.le_refl _) _))).mono ?_; rintro e w2 ⟨rfl, hW2, hbw, q0, q1, q2, q3, q4, q5⟩; first | (have hRG := rg_next hRG hbw; have hcv := HCV.out _ _ hRG) | (have hRG := rg_of hbw; have hcv := HCV.out _ _ hRG) | (have hRG := rg_of2 hbw; have hcv := HCV.out _ _ hRG) | skip)))
  all_goals
    go_wp2_with fail
    go_ret
    refine ⟨by rw [HE.out]; simp only [List.append_assoc]; rfl, ?_⟩
    first | exact hW2.bel | exact (hW2.below below1).bel | exact hW2.bel.alloc hW2.bel.size _
end Go.Proofs.YthcikinkicpicaaGreatDoor

namespace Go.Proofs.YthcikinkicpicaaGreatDoor
open Go.RowKit

def cornersL (a b c : Cor) : List Int := 9 :: (cornerL a ++ cornerL b ++ cornerL c)
/-- What is asked of corners. -/
def CornersAll : Prop := ∀ (a b c : Cor), a.Ok → b.Ok → c.Ok → ∀ w : World, Calls Tryz.prog 23 #[cv6 a, cv6 b, cv6 c] w fun e w' => e = .returned (.string (textOf (cornersL a b c))) ∧ Below w.heap.size w w'
end Go.Proofs.YthcikinkicpicaaGreatDoor
