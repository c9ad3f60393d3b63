import Derived.Test.YthcikinkicpicaaGreatDoorA02
import Derived.Test.YthcikinkicpicaaGreatDoorA03
import Derived.LoopN

namespace Go.Proofs.YthcikinkicpicaaGreatDoor
open Go.RowKit

/-- While the corners of a rectangle are looked at. -/
structure LvW (w : World) (a b : Cor) (o : Bx) (W : World) : Prop where
  sd : W.heap[w.heap.size]? = some (.cells #[.int .i64 a.x, .int .i64 a.y, .int .i64 b.x, .int .i64 b.y] 172 (0, 0))
  bx : W.heap[w.heap.size + 1]? = some (.cells #[.int .i64 o.x, .int .i64 o.y, .int .i64 o.c, .int .i64 o.r] 66 (0, 0))
  lo : Below w.heap.size w W
theorem LvW.next {w : World} {a b : Cor} {o : Bx} {W W' : World} (h : LvW w a b o W) (hb : Below W.heap.size W W') : LvW w a b o W' :=
  ⟨(hb.block _ (lt_of_heap h.sd)).trans h.sd, (hb.block _ (lt_of_heap h.bx)).trans h.bx, h.lo.trans (hb.mono h.lo.size)⟩

theorem ix20 (u v : Int) (w : World) : Sem.run Tryz.prog (Instr.index 211 (.agg #[.int .i64 u, .int .i64 v]) (.int .i64 0)) w = .ok (.int .i64 u) w := by kernel_rfl
theorem ix21 (u v : Int) (w : World) : Sem.run Tryz.prog (Instr.index 211 (.agg #[.int .i64 u, .int .i64 v]) (.int .i64 1)) w = .ok (.int .i64 v) w := by kernel_rfl

set_option maxRecDepth 100000 in
set_option maxHeartbeats 4000000 in
theorem leavesOut_any (a b : Cor) (o : Bx) (w : World) (ha : a.Ok) (hb : b.Ok) (x0 : 0 ≤ o.x) (x1 : o.x + o.c ≤ 100) (c1 : 1 ≤ o.c) (y0 : 0 ≤ o.y) (y1 : o.y + o.r ≤ 100) (r1 : 1 ≤ o.r) :
    Calls Tryz.prog 92 #[sideV a b, bxV o] w fun e w' => e = .returned (.bool (leavesB a b o)) ∧ Below w.heap.size w w' := by
  have HM : Hid (∀ X Y W, 0 ≤ X → X ≤ 100 → 0 ≤ Y → Y ≤ 100 → LvW w a b o W → Calls Tryz.prog 121 #[.int .i64 X, .int .i64 Y] W fun e w' => e = .returned (.agg #[.int .i64 (16 * X + 8), .int .i64 (16 * Y + 8)]) ∧ LvW w a b o w' ∧ w'.cell? ⟨w.heap.size, 0, none⟩ = some (.int .i64 a.x) ∧ w'.cell? ⟨w.heap.size, 1, none⟩ = some (.int .i64 a.y) ∧ w'.cell? ⟨w.heap.size, 2, none⟩ = some (.int .i64 b.x) ∧ w'.cell? ⟨w.heap.size, 3, none⟩ = some (.int .i64 b.y)) := by
    intro X Y W h1 h2 h3 h4 hW
    refine (middle_any X Y W (by omega) (by omega) (by omega) (by omega)).mono ?_
    rintro e w' ⟨rfl, hb'⟩
    have h' := hW.next hb'
    exact ⟨rfl, h', cell_of h'.sd 0, cell_of h'.sd 1, cell_of h'.sd 2, cell_of h'.sd 3⟩
  have HO : Hid (∀ X Y W, 0 ≤ X → X ≤ 100 → 0 ≤ Y → Y ≤ 100 → LvW w a b o W → Calls Tryz.prog 115 #[sideV a b, .agg #[.int .i64 (16 * X + 8), .int .i64 (16 * Y + 8)]] W fun e w' => e = .returned (.int .i64 (edge a b (16 * X + 8) (16 * Y + 8))) ∧ LvW w a b o w' ∧ w'.cell? ⟨w.heap.size, 0, none⟩ = some (.int .i64 a.x) ∧ w'.cell? ⟨w.heap.size, 1, none⟩ = some (.int .i64 a.y) ∧ w'.cell? ⟨w.heap.size, 2, none⟩ = some (.int .i64 b.x) ∧ w'.cell? ⟨w.heap.size, 3, none⟩ = some (.int .i64 b.y)) := by
    intro X Y W h1 h2 h3 h4 hW
    refine (of_any a b (16 * X + 8) (16 * Y + 8) W ha hb (by omega) (by omega) (by omega) (by omega)).mono ?_
    rintro e w' ⟨rfl, hb'⟩
    have h' := hW.next hb'
    exact ⟨rfl, h', cell_of h'.sd 0, cell_of h'.sd 1, cell_of h'.sd 2, cell_of h'.sd 3⟩
  have HT : Hid (∀ e W, LvW w a b o W → Calls Tryz.prog 120 #[sideV a b, .int .i64 e] W fun r w' => r = .returned (.bool (hasB a b e)) ∧ LvW w a b o w' ∧ w'.cell? ⟨w.heap.size, 0, none⟩ = some (.int .i64 a.x) ∧ w'.cell? ⟨w.heap.size, 1, none⟩ = some (.int .i64 a.y) ∧ w'.cell? ⟨w.heap.size, 2, none⟩ = some (.int .i64 b.x) ∧ w'.cell? ⟨w.heap.size, 3, none⟩ = some (.int .i64 b.y)) := by
    intro e W hW
    refine (takes_any a b e W).mono ?_
    rintro e w' ⟨rfl, hb'⟩
    have h' := hW.next hb'
    exact ⟨rfl, h', cell_of h'.sd 0, cell_of h'.sd 1, cell_of h'.sd 2, cell_of h'.sd 3⟩
  have HI : Hid (∀ k, LvW w a b o (((w.alloc (.cells #[.int .i64 a.x, .int .i64 a.y, .int .i64 b.x, .int .i64 b.y] 172)).alloc (.cells #[.int .i64 o.x, .int .i64 o.y, .int .i64 o.c, .int .i64 o.r] 66)).drewN k)) := fun k => ⟨(heap_alloc_old (by simp) _).trans (heap_alloc_new _ _), heap_alloc_at (by simp) _, below2.drewN' _⟩
  have HB : Hid (leavesB a b o = (outB a b o.x o.y && outB a b o.x (o.y + o.r - 1) && outB a b (o.x + o.c - 1) o.y && outB a b (o.x + o.c - 1) (o.y + o.r - 1))) := rfl
  obtain ⟨X, Y, c, r⟩ := o
  dsimp only at *
  rw [HB.out]
  clear HB ha hb
  have xr : X + c - 1 ≤ 100 := by omega
  have yr : Y + r - 1 ≤ 100 := by omega
  have xr0 : 0 ≤ X + c - 1 := by omega
  have yr0 : 0 ≤ Y + r - 1 := by omega
  have xx : X ≤ 100 := by omega
  have yy : Y ≤ 100 := by omega
  have i0 := ix20
  have i1 := ix21
  cases e0 : hasB a b (edge a b (16 * X + 8) (16 * Y + 8))
  case true =>
    go_enter Tryz.func92, Tryz.ntmps92
    go_wp2_with fail
    go_quiet (fail)
    go_wp2_with fail
    refine gen_w (LvW w a b ⟨X, Y, c, r⟩) (Code.wp _ _ _ _) _ (HI.out _) ?_
    intro W0 hW
    have HW : Hid (LvW w a b ⟨X, Y, c, r⟩ W0) := hW
    have cb := cell_of hW.bx
    have cs := cell_of hW.sd
    clear hW HI
    refine wp_loop_rounds 3 ?_
    rw [rounds_succ]; go_wp2_with fail
    refine wp_loop_rounds 3 ?_
    rw [rounds_succ]; go_wp2_with fail
    go_region_held (fun w' => w'.cell? ⟨w.heap.size, 0, none⟩ = some (.int .i64 a.x) ∧ w'.cell? ⟨w.heap.size, 1, none⟩ = some (.int .i64 a.y) ∧ w'.cell? ⟨w.heap.size, 2, none⟩ = some (.int .i64 b.x) ∧ w'.cell? ⟨w.heap.size, 3, none⟩ = some (.int .i64 b.y)) (go_keep)
      ((first
        | (go_at_call 121; refine (HM.out X Y _ x0 xx y0 yy (HW.out.next (Below.refl _ _).drew)).mono ?_; rintro e w1 ⟨rfl, g1, q0, q1, q2, q3⟩)
        | (go_at_call 115; refine (HO.out X Y _ x0 xx y0 yy g1).mono ?_; rintro e w2 ⟨rfl, g2, p0, p1, p2, p3⟩)
        | (go_at_call 120; refine (HT.out _ _ g2).mono ?_; rintro e w3 ⟨rfl, g3, s0, s1, s2, s3⟩)))
    have HW3 : Hid (LvW w a b ⟨X, Y, c, r⟩ w3) := g3
    clear HW cb cs q0 q1 q2 q3 p0 p1 p2 p3 s0 s1 s2 s3 g1 g2
    have HW : Hid (LvW w a b ⟨X, Y, c, r⟩ w3) := g3
    have cb := cell_of g3.bx
    have cs := cell_of g3.sd
    clear g3 HW3
    go_wp2_with fail
    go_ret
    exact ⟨ret_bool (by simp [outB, e0]), HW.out.lo⟩
  cases e1 : hasB a b (edge a b (16 * X + 8) (16 * (Y + r - 1) + 8))
  case true =>
    go_enter Tryz.func92, Tryz.ntmps92
    go_wp2_with fail
    go_quiet (fail)
    go_wp2_with fail
    refine gen_w (LvW w a b ⟨X, Y, c, r⟩) (Code.wp _ _ _ _) _ (HI.out _) ?_
    intro W0 hW
    have HW : Hid (LvW w a b ⟨X, Y, c, r⟩ W0) := hW
    have cb := cell_of hW.bx
    have cs := cell_of hW.sd
    clear hW HI
    refine wp_loop_rounds 3 ?_
    rw [rounds_succ]; go_wp2_with fail
    refine wp_loop_rounds 3 ?_
    rw [rounds_succ]; go_wp2_with fail
    go_region_held (fun w' => w'.cell? ⟨w.heap.size, 0, none⟩ = some (.int .i64 a.x) ∧ w'.cell? ⟨w.heap.size, 1, none⟩ = some (.int .i64 a.y) ∧ w'.cell? ⟨w.heap.size, 2, none⟩ = some (.int .i64 b.x) ∧ w'.cell? ⟨w.heap.size, 3, none⟩ = some (.int .i64 b.y)) (go_keep)
      ((first
        | (go_at_call 121; refine (HM.out X Y _ x0 xx y0 yy (HW.out.next (Below.refl _ _).drew)).mono ?_; rintro e w1 ⟨rfl, g1, q0, q1, q2, q3⟩)
        | (go_at_call 115; refine (HO.out X Y _ x0 xx y0 yy g1).mono ?_; rintro e w2 ⟨rfl, g2, p0, p1, p2, p3⟩)
        | (go_at_call 120; refine (HT.out _ _ g2).mono ?_; rintro e w3 ⟨rfl, g3, s0, s1, s2, s3⟩)))
    have HW3 : Hid (LvW w a b ⟨X, Y, c, r⟩ w3) := g3
    clear HW cb cs q0 q1 q2 q3 p0 p1 p2 p3 s0 s1 s2 s3 g1 g2
    have HW : Hid (LvW w a b ⟨X, Y, c, r⟩ w3) := g3
    have cb := cell_of g3.bx
    have cs := cell_of g3.sd
    clear g3 HW3
    go_wp2_with fail
    rw [rounds_succ]; go_wp2_with fail
    go_region_held (fun w' => w'.cell? ⟨w.heap.size, 0, none⟩ = some (.int .i64 a.x) ∧ w'.cell? ⟨w.heap.size, 1, none⟩ = some (.int .i64 a.y) ∧ w'.cell? ⟨w.heap.size, 2, none⟩ = some (.int .i64 b.x) ∧ w'.cell? ⟨w.heap.size, 3, none⟩ = some (.int .i64 b.y)) (go_keep)
      ((first
        | (go_at_call 121; refine (HM.out X (Y + r - 1) _ x0 xx yr0 yr (HW.out.next (Below.refl _ _).drew)).mono ?_; rintro e w1 ⟨rfl, g1, q0, q1, q2, q3⟩)
        | (go_at_call 115; refine (HO.out X (Y + r - 1) _ x0 xx yr0 yr g1).mono ?_; rintro e w2 ⟨rfl, g2, p0, p1, p2, p3⟩)
        | (go_at_call 120; refine (HT.out _ _ g2).mono ?_; rintro e w3 ⟨rfl, g3, s0, s1, s2, s3⟩)))
    have HW3 : Hid (LvW w a b ⟨X, Y, c, r⟩ w3) := g3
    clear HW cb cs q0 q1 q2 q3 p0 p1 p2 p3 s0 s1 s2 s3 g1 g2
    have HW : Hid (LvW w a b ⟨X, Y, c, r⟩ w3) := g3
    have cb := cell_of g3.bx
    have cs := cell_of g3.sd
    clear g3 HW3
    go_wp2_with fail
    go_ret
    exact ⟨ret_bool (by simp [outB, e0, e1]), HW.out.lo⟩
  cases e2 : hasB a b (edge a b (16 * (X + c - 1) + 8) (16 * Y + 8))
  case true =>
    go_enter Tryz.func92, Tryz.ntmps92
    go_wp2_with fail
    go_quiet (fail)
    go_wp2_with fail
    refine gen_w (LvW w a b ⟨X, Y, c, r⟩) (Code.wp _ _ _ _) _ (HI.out _) ?_
    intro W0 hW
    have HW : Hid (LvW w a b ⟨X, Y, c, r⟩ W0) := hW
    have cb := cell_of hW.bx
    have cs := cell_of hW.sd
    clear hW HI
    refine wp_loop_rounds 3 ?_
    rw [rounds_succ]; go_wp2_with fail
    refine wp_loop_rounds 3 ?_
    rw [rounds_succ]; go_wp2_with fail
    go_region_held (fun w' => w'.cell? ⟨w.heap.size, 0, none⟩ = some (.int .i64 a.x) ∧ w'.cell? ⟨w.heap.size, 1, none⟩ = some (.int .i64 a.y) ∧ w'.cell? ⟨w.heap.size, 2, none⟩ = some (.int .i64 b.x) ∧ w'.cell? ⟨w.heap.size, 3, none⟩ = some (.int .i64 b.y)) (go_keep)
      ((first
        | (go_at_call 121; refine (HM.out X Y _ x0 xx y0 yy (HW.out.next (Below.refl _ _).drew)).mono ?_; rintro e w1 ⟨rfl, g1, q0, q1, q2, q3⟩)
        | (go_at_call 115; refine (HO.out X Y _ x0 xx y0 yy g1).mono ?_; rintro e w2 ⟨rfl, g2, p0, p1, p2, p3⟩)
        | (go_at_call 120; refine (HT.out _ _ g2).mono ?_; rintro e w3 ⟨rfl, g3, s0, s1, s2, s3⟩)))
    have HW3 : Hid (LvW w a b ⟨X, Y, c, r⟩ w3) := g3
    clear HW cb cs q0 q1 q2 q3 p0 p1 p2 p3 s0 s1 s2 s3 g1 g2
    have HW : Hid (LvW w a b ⟨X, Y, c, r⟩ w3) := g3
    have cb := cell_of g3.bx
    have cs := cell_of g3.sd
    clear g3 HW3
    go_wp2_with fail
    rw [rounds_succ]; go_wp2_with fail
    go_region_held (fun w' => w'.cell? ⟨w.heap.size, 0, none⟩ = some (.int .i64 a.x) ∧ w'.cell? ⟨w.heap.size, 1, none⟩ = some (.int .i64 a.y) ∧ w'.cell? ⟨w.heap.size, 2, none⟩ = some (.int .i64 b.x) ∧ w'.cell? ⟨w.heap.size, 3, none⟩ = some (.int .i64 b.y)) (go_keep)
      ((first
        | (go_at_call 121; refine (HM.out X (Y + r - 1) _ x0 xx yr0 yr (HW.out.next (Below.refl _ _).drew)).mono ?_; rintro e w1 ⟨rfl, g1, q0, q1, q2, q3⟩)
        | (go_at_call 115; refine (HO.out X (Y + r - 1) _ x0 xx yr0 yr g1).mono ?_; rintro e w2 ⟨rfl, g2, p0, p1, p2, p3⟩)
        | (go_at_call 120; refine (HT.out _ _ g2).mono ?_; rintro e w3 ⟨rfl, g3, s0, s1, s2, s3⟩)))
    have HW3 : Hid (LvW w a b ⟨X, Y, c, r⟩ w3) := g3
    clear HW cb cs q0 q1 q2 q3 p0 p1 p2 p3 s0 s1 s2 s3 g1 g2
    have HW : Hid (LvW w a b ⟨X, Y, c, r⟩ w3) := g3
    have cb := cell_of g3.bx
    have cs := cell_of g3.sd
    clear g3 HW3
    go_wp2_with fail
    rw [rounds_succ]; go_wp2_with fail
    rw [rounds_succ]; go_wp2_with fail
    refine wp_loop_rounds 3 ?_
    rw [rounds_succ]; go_wp2_with fail
    go_region_held (fun w' => w'.cell? ⟨w.heap.size, 0, none⟩ = some (.int .i64 a.x) ∧ w'.cell? ⟨w.heap.size, 1, none⟩ = some (.int .i64 a.y) ∧ w'.cell? ⟨w.heap.size, 2, none⟩ = some (.int .i64 b.x) ∧ w'.cell? ⟨w.heap.size, 3, none⟩ = some (.int .i64 b.y)) (go_keep)
      ((first
        | (go_at_call 121; refine (HM.out (X + c - 1) Y _ xr0 xr y0 yy (HW.out.next (Below.refl _ _).drew)).mono ?_; rintro e w1 ⟨rfl, g1, q0, q1, q2, q3⟩)
        | (go_at_call 115; refine (HO.out (X + c - 1) Y _ xr0 xr y0 yy g1).mono ?_; rintro e w2 ⟨rfl, g2, p0, p1, p2, p3⟩)
        | (go_at_call 120; refine (HT.out _ _ g2).mono ?_; rintro e w3 ⟨rfl, g3, s0, s1, s2, s3⟩)))
    have HW3 : Hid (LvW w a b ⟨X, Y, c, r⟩ w3) := g3
    clear HW cb cs q0 q1 q2 q3 p0 p1 p2 p3 s0 s1 s2 s3 g1 g2
    have HW : Hid (LvW w a b ⟨X, Y, c, r⟩ w3) := g3
    have cb := cell_of g3.bx
    have cs := cell_of g3.sd
    clear g3 HW3
    go_wp2_with fail
    go_ret
    exact ⟨ret_bool (by simp [outB, e0, e1, e2]), HW.out.lo⟩
  cases e3 : hasB a b (edge a b (16 * (X + c - 1) + 8) (16 * (Y + r - 1) + 8))
  case true =>
    go_enter Tryz.func92, Tryz.ntmps92
    go_wp2_with fail
    go_quiet (fail)
    go_wp2_with fail
    refine gen_w (LvW w a b ⟨X, Y, c, r⟩) (Code.wp _ _ _ _) _ (HI.out _) ?_
    intro W0 hW
    have HW : Hid (LvW w a b ⟨X, Y, c, r⟩ W0) := hW
    have cb := cell_of hW.bx
    have cs := cell_of hW.sd
    clear hW HI
    refine wp_loop_rounds 3 ?_
    rw [rounds_succ]; go_wp2_with fail
    refine wp_loop_rounds 3 ?_
    rw [rounds_succ]; go_wp2_with fail
    go_region_held (fun w' => w'.cell? ⟨w.heap.size, 0, none⟩ = some (.int .i64 a.x) ∧ w'.cell? ⟨w.heap.size, 1, none⟩ = some (.int .i64 a.y) ∧ w'.cell? ⟨w.heap.size, 2, none⟩ = some (.int .i64 b.x) ∧ w'.cell? ⟨w.heap.size, 3, none⟩ = some (.int .i64 b.y)) (go_keep)
      ((first
        | (go_at_call 121; refine (HM.out X Y _ x0 xx y0 yy (HW.out.next (Below.refl _ _).drew)).mono ?_; rintro e w1 ⟨rfl, g1, q0, q1, q2, q3⟩)
        | (go_at_call 115; refine (HO.out X Y _ x0 xx y0 yy g1).mono ?_; rintro e w2 ⟨rfl, g2, p0, p1, p2, p3⟩)
        | (go_at_call 120; refine (HT.out _ _ g2).mono ?_; rintro e w3 ⟨rfl, g3, s0, s1, s2, s3⟩)))
    have HW3 : Hid (LvW w a b ⟨X, Y, c, r⟩ w3) := g3
    clear HW cb cs q0 q1 q2 q3 p0 p1 p2 p3 s0 s1 s2 s3 g1 g2
    have HW : Hid (LvW w a b ⟨X, Y, c, r⟩ w3) := g3
    have cb := cell_of g3.bx
    have cs := cell_of g3.sd
    clear g3 HW3
    go_wp2_with fail
    rw [rounds_succ]; go_wp2_with fail
    go_region_held (fun w' => w'.cell? ⟨w.heap.size, 0, none⟩ = some (.int .i64 a.x) ∧ w'.cell? ⟨w.heap.size, 1, none⟩ = some (.int .i64 a.y) ∧ w'.cell? ⟨w.heap.size, 2, none⟩ = some (.int .i64 b.x) ∧ w'.cell? ⟨w.heap.size, 3, none⟩ = some (.int .i64 b.y)) (go_keep)
      ((first
        | (go_at_call 121; refine (HM.out X (Y + r - 1) _ x0 xx yr0 yr (HW.out.next (Below.refl _ _).drew)).mono ?_; rintro e w1 ⟨rfl, g1, q0, q1, q2, q3⟩)
        | (go_at_call 115; refine (HO.out X (Y + r - 1) _ x0 xx yr0 yr g1).mono ?_; rintro e w2 ⟨rfl, g2, p0, p1, p2, p3⟩)
        | (go_at_call 120; refine (HT.out _ _ g2).mono ?_; rintro e w3 ⟨rfl, g3, s0, s1, s2, s3⟩)))
    have HW3 : Hid (LvW w a b ⟨X, Y, c, r⟩ w3) := g3
    clear HW cb cs q0 q1 q2 q3 p0 p1 p2 p3 s0 s1 s2 s3 g1 g2
    have HW : Hid (LvW w a b ⟨X, Y, c, r⟩ w3) := g3
    have cb := cell_of g3.bx
    have cs := cell_of g3.sd
    clear g3 HW3
    go_wp2_with fail
    rw [rounds_succ]; go_wp2_with fail
    rw [rounds_succ]; go_wp2_with fail
    refine wp_loop_rounds 3 ?_
    rw [rounds_succ]; go_wp2_with fail
    go_region_held (fun w' => w'.cell? ⟨w.heap.size, 0, none⟩ = some (.int .i64 a.x) ∧ w'.cell? ⟨w.heap.size, 1, none⟩ = some (.int .i64 a.y) ∧ w'.cell? ⟨w.heap.size, 2, none⟩ = some (.int .i64 b.x) ∧ w'.cell? ⟨w.heap.size, 3, none⟩ = some (.int .i64 b.y)) (go_keep)
      ((first
        | (go_at_call 121; refine (HM.out (X + c - 1) Y _ xr0 xr y0 yy (HW.out.next (Below.refl _ _).drew)).mono ?_; rintro e w1 ⟨rfl, g1, q0, q1, q2, q3⟩)
        | (go_at_call 115; refine (HO.out (X + c - 1) Y _ xr0 xr y0 yy g1).mono ?_; rintro e w2 ⟨rfl, g2, p0, p1, p2, p3⟩)
        | (go_at_call 120; refine (HT.out _ _ g2).mono ?_; rintro e w3 ⟨rfl, g3, s0, s1, s2, s3⟩)))
    have HW3 : Hid (LvW w a b ⟨X, Y, c, r⟩ w3) := g3
    clear HW cb cs q0 q1 q2 q3 p0 p1 p2 p3 s0 s1 s2 s3 g1 g2
    have HW : Hid (LvW w a b ⟨X, Y, c, r⟩ w3) := g3
    have cb := cell_of g3.bx
    have cs := cell_of g3.sd
    clear g3 HW3
    go_wp2_with fail
    rw [rounds_succ]; go_wp2_with fail
    go_region_held (fun w' => w'.cell? ⟨w.heap.size, 0, none⟩ = some (.int .i64 a.x) ∧ w'.cell? ⟨w.heap.size, 1, none⟩ = some (.int .i64 a.y) ∧ w'.cell? ⟨w.heap.size, 2, none⟩ = some (.int .i64 b.x) ∧ w'.cell? ⟨w.heap.size, 3, none⟩ = some (.int .i64 b.y)) (go_keep)
      ((first
        | (go_at_call 121; refine (HM.out (X + c - 1) (Y + r - 1) _ xr0 xr yr0 yr (HW.out.next (Below.refl _ _).drew)).mono ?_; rintro e w1 ⟨rfl, g1, q0, q1, q2, q3⟩)
        | (go_at_call 115; refine (HO.out (X + c - 1) (Y + r - 1) _ xr0 xr yr0 yr g1).mono ?_; rintro e w2 ⟨rfl, g2, p0, p1, p2, p3⟩)
        | (go_at_call 120; refine (HT.out _ _ g2).mono ?_; rintro e w3 ⟨rfl, g3, s0, s1, s2, s3⟩)))
    have HW3 : Hid (LvW w a b ⟨X, Y, c, r⟩ w3) := g3
    clear HW cb cs q0 q1 q2 q3 p0 p1 p2 p3 s0 s1 s2 s3 g1 g2
    have HW : Hid (LvW w a b ⟨X, Y, c, r⟩ w3) := g3
    have cb := cell_of g3.bx
    have cs := cell_of g3.sd
    clear g3 HW3
    go_wp2_with fail
    go_ret
    exact ⟨ret_bool (by simp [outB, e0, e1, e2, e3]), HW.out.lo⟩
  go_enter Tryz.func92, Tryz.ntmps92
  go_wp2_with fail
  go_quiet (fail)
  go_wp2_with fail
  refine gen_w (LvW w a b ⟨X, Y, c, r⟩) (Code.wp _ _ _ _) _ (HI.out _) ?_
  intro W0 hW
  have HW : Hid (LvW w a b ⟨X, Y, c, r⟩ W0) := hW
  have cb := cell_of hW.bx
  have cs := cell_of hW.sd
  clear hW HI
  refine wp_loop_rounds 3 ?_
  rw [rounds_succ]; go_wp2_with fail
  refine wp_loop_rounds 3 ?_
  rw [rounds_succ]; go_wp2_with fail
  go_region_held (fun w' => w'.cell? ⟨w.heap.size, 0, none⟩ = some (.int .i64 a.x) ∧ w'.cell? ⟨w.heap.size, 1, none⟩ = some (.int .i64 a.y) ∧ w'.cell? ⟨w.heap.size, 2, none⟩ = some (.int .i64 b.x) ∧ w'.cell? ⟨w.heap.size, 3, none⟩ = some (.int .i64 b.y)) (go_keep)
    ((first
      | (go_at_call 121; refine (HM.out X Y _ x0 xx y0 yy (HW.out.next (Below.refl _ _).drew)).mono ?_; rintro e w1 ⟨rfl, g1, q0, q1, q2, q3⟩)
      | (go_at_call 115; refine (HO.out X Y _ x0 xx y0 yy g1).mono ?_; rintro e w2 ⟨rfl, g2, p0, p1, p2, p3⟩)
      | (go_at_call 120; refine (HT.out _ _ g2).mono ?_; rintro e w3 ⟨rfl, g3, s0, s1, s2, s3⟩)))
  have HW3 : Hid (LvW w a b ⟨X, Y, c, r⟩ w3) := g3
  clear HW cb cs q0 q1 q2 q3 p0 p1 p2 p3 s0 s1 s2 s3 g1 g2
  have HW : Hid (LvW w a b ⟨X, Y, c, r⟩ w3) := g3
  have cb := cell_of g3.bx
  have cs := cell_of g3.sd
  clear g3 HW3
  go_wp2_with fail
  rw [rounds_succ]; go_wp2_with fail
  go_region_held (fun w' => w'.cell? ⟨w.heap.size, 0, none⟩ = some (.int .i64 a.x) ∧ w'.cell? ⟨w.heap.size, 1, none⟩ = some (.int .i64 a.y) ∧ w'.cell? ⟨w.heap.size, 2, none⟩ = some (.int .i64 b.x) ∧ w'.cell? ⟨w.heap.size, 3, none⟩ = some (.int .i64 b.y)) (go_keep)
    ((first
      | (go_at_call 121; refine (HM.out X (Y + r - 1) _ x0 xx yr0 yr (HW.out.next (Below.refl _ _).drew)).mono ?_; rintro e w1 ⟨rfl, g1, q0, q1, q2, q3⟩)
      | (go_at_call 115; refine (HO.out X (Y + r - 1) _ x0 xx yr0 yr g1).mono ?_; rintro e w2 ⟨rfl, g2, p0, p1, p2, p3⟩)
      | (go_at_call 120; refine (HT.out _ _ g2).mono ?_; rintro e w3 ⟨rfl, g3, s0, s1, s2, s3⟩)))
  have HW3 : Hid (LvW w a b ⟨X, Y, c, r⟩ w3) := g3
  clear HW cb cs q0 q1 q2 q3 p0 p1 p2 p3 s0 s1 s2 s3 g1 g2
  have HW : Hid (LvW w a b ⟨X, Y, c, r⟩ w3) := g3
  have cb := cell_of g3.bx
  have cs := cell_of g3.sd
  clear g3 HW3
  go_wp2_with fail
  rw [rounds_succ]; go_wp2_with fail
  rw [rounds_succ]; go_wp2_with fail
  refine wp_loop_rounds 3 ?_
  rw [rounds_succ]; go_wp2_with fail
  go_region_held (fun w' => w'.cell? ⟨w.heap.size, 0, none⟩ = some (.int .i64 a.x) ∧ w'.cell? ⟨w.heap.size, 1, none⟩ = some (.int .i64 a.y) ∧ w'.cell? ⟨w.heap.size, 2, none⟩ = some (.int .i64 b.x) ∧ w'.cell? ⟨w.heap.size, 3, none⟩ = some (.int .i64 b.y)) (go_keep)
    ((first
      | (go_at_call 121; refine (HM.out (X + c - 1) Y _ xr0 xr y0 yy (HW.out.next (Below.refl _ _).drew)).mono ?_; rintro e w1 ⟨rfl, g1, q0, q1, q2, q3⟩)
      | (go_at_call 115; refine (HO.out (X + c - 1) Y _ xr0 xr y0 yy g1).mono ?_; rintro e w2 ⟨rfl, g2, p0, p1, p2, p3⟩)
      | (go_at_call 120; refine (HT.out _ _ g2).mono ?_; rintro e w3 ⟨rfl, g3, s0, s1, s2, s3⟩)))
  have HW3 : Hid (LvW w a b ⟨X, Y, c, r⟩ w3) := g3
  clear HW cb cs q0 q1 q2 q3 p0 p1 p2 p3 s0 s1 s2 s3 g1 g2
  have HW : Hid (LvW w a b ⟨X, Y, c, r⟩ w3) := g3
  have cb := cell_of g3.bx
  have cs := cell_of g3.sd
  clear g3 HW3
  go_wp2_with fail
  rw [rounds_succ]; go_wp2_with fail
  go_region_held (fun w' => w'.cell? ⟨w.heap.size, 0, none⟩ = some (.int .i64 a.x) ∧ w'.cell? ⟨w.heap.size, 1, none⟩ = some (.int .i64 a.y) ∧ w'.cell? ⟨w.heap.size, 2, none⟩ = some (.int .i64 b.x) ∧ w'.cell? ⟨w.heap.size, 3, none⟩ = some (.int .i64 b.y)) (go_keep)
    ((first
      | (go_at_call 121; refine (HM.out (X + c - 1) (Y + r - 1) _ xr0 xr yr0 yr (HW.out.next (Below.refl _ _).drew)).mono ?_; rintro e w1 ⟨rfl, g1, q0, q1, q2, q3⟩)
      | (go_at_call 115; refine (HO.out (X + c - 1) (Y + r - 1) _ xr0 xr yr0 yr g1).mono ?_; rintro e w2 ⟨rfl, g2, p0, p1, p2, p3⟩)
      | (go_at_call 120; refine (HT.out _ _ g2).mono ?_; rintro e w3 ⟨rfl, g3, s0, s1, s2, s3⟩)))
  have HW3 : Hid (LvW w a b ⟨X, Y, c, r⟩ w3) := g3
  clear HW cb cs q0 q1 q2 q3 p0 p1 p2 p3 s0 s1 s2 s3 g1 g2
  have HW : Hid (LvW w a b ⟨X, Y, c, r⟩ w3) := g3
  have cb := cell_of g3.bx
  have cs := cell_of g3.sd
  clear g3 HW3
  go_wp2_with fail
  rw [rounds_succ]; go_wp2_with fail
  rw [rounds_succ]; go_wp2_with fail
  go_ret
  exact ⟨ret_bool (by simp [outB, e0, e1, e2, e3]), HW.out.lo⟩
end Go.Proofs.YthcikinkicpicaaGreatDoor
