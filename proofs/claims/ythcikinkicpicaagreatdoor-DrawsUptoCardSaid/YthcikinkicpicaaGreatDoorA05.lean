import Derived.Test.YthcikinkicpicaaGreatDoorA03
import Derived.Test.YthcikinkicpicaaGreatDoorA01

namespace Go.Proofs.YthcikinkicpicaaGreatDoor
open Go.RowKit

/-- Its face, and its bounds. -/
structure Fr where
  f : Bool
  b : Bx

/-- A triangle's cells. -/
def trc (a b c : Cor) (area : Int) (front : Fr) : Array Value :=
  #[.int .i64 a.x, .int .i64 a.y, .int .i64 a.r, .int .i64 a.g, .int .i64 a.b, .int .i64 a.d, .int .i64 b.x, .int .i64 b.y, .int .i64 b.r, .int .i64 b.g, .int .i64 b.b, .int .i64 b.d,
    .int .i64 c.x, .int .i64 c.y, .int .i64 c.r, .int .i64 c.g, .int .i64 c.b, .int .i64 c.d, .int .i64 area, .bool front.f, .int .i64 front.b.x, .int .i64 front.b.y, .int .i64 front.b.c, .int .i64 front.b.r]

set_option maxRecDepth 100000 in
set_option maxHeartbeats 1000000 in
theorem side0 (q : Nat) (a b c : Cor) (area : Int) (front : Fr) (w : World) (hq : w.heap[q]? = some (.cells (trc a b c area front) 165 (0, 0))) :
    Calls Tryz.prog 91 #[.pointer (some ⟨q, 0, none⟩), .int .i64 0] w fun e w' => e = .returned (sideV b c) ∧ Below w.heap.size w w' := by
  have lt := lt_of_heap hq
  have cp := cell_of hq
  simp only [trc] at cp
  have cp1 : ∀ o : Nat, (w.alloc (.cells #[.int .i64 0, .int .i64 0, .int .i64 0, .int .i64 0] 172)).cell? ⟨q, o, none⟩ = _ := fun o => (World.cell?_alloc_past _ _ _ lt).trans (cp o)
  clear cp hq
  go_enter Tryz.func91, Tryz.ntmps91
  go_wp2_with fail
  go_region
  go_wp2
  refine bodyPost_ret (v := sideV b c) (by simp [results, Tryz.results91, go_sem]) rfl ?_
  exact ⟨rfl, below1.drew⟩

set_option maxRecDepth 100000 in
set_option maxHeartbeats 1000000 in
theorem side1 (q : Nat) (a b c : Cor) (area : Int) (front : Fr) (w : World) (hq : w.heap[q]? = some (.cells (trc a b c area front) 165 (0, 0))) :
    Calls Tryz.prog 91 #[.pointer (some ⟨q, 0, none⟩), .int .i64 1] w fun e w' => e = .returned (sideV c a) ∧ Below w.heap.size w w' := by
  have lt := lt_of_heap hq
  have cp := cell_of hq
  simp only [trc] at cp
  have cp1 : ∀ o : Nat, (w.alloc (.cells #[.int .i64 0, .int .i64 0, .int .i64 0, .int .i64 0] 172)).cell? ⟨q, o, none⟩ = _ := fun o => (World.cell?_alloc_past _ _ _ lt).trans (cp o)
  clear cp hq
  go_enter Tryz.func91, Tryz.ntmps91
  go_wp2_with fail
  go_region
  go_wp2
  refine bodyPost_ret (v := sideV c a) (by simp [results, Tryz.results91, go_sem]) rfl ?_
  exact ⟨rfl, below1.drew⟩

set_option maxRecDepth 100000 in
set_option maxHeartbeats 1000000 in
theorem side2 (q : Nat) (a b c : Cor) (area : Int) (front : Fr) (w : World) (hq : w.heap[q]? = some (.cells (trc a b c area front) 165 (0, 0))) :
    Calls Tryz.prog 91 #[.pointer (some ⟨q, 0, none⟩), .int .i64 2] w fun e w' => e = .returned (sideV a b) ∧ Below w.heap.size w w' := by
  have lt := lt_of_heap hq
  have cp := cell_of hq
  simp only [trc] at cp
  have cp1 : ∀ o : Nat, (w.alloc (.cells #[.int .i64 0, .int .i64 0, .int .i64 0, .int .i64 0] 172)).cell? ⟨q, o, none⟩ = _ := fun o => (World.cell?_alloc_past _ _ _ lt).trans (cp o)
  clear cp hq
  go_enter Tryz.func91, Tryz.ntmps91
  go_wp2_with fail
  go_region
  go_wp2
  refine bodyPost_ret (v := sideV a b) (by simp [results, Tryz.results91, go_sem]) rfl ?_
  exact ⟨rfl, below1.drew⟩

/-- Ahead of the question whether the edge takes the pixel. -/
structure TkW (P S1 : Nat) (a b : Cor) (p0 p1 p2 : Int) (w0 W : World) : Prop where
  sb : W.heap[S1]? = some (.cells #[.int .i64 a.x, .int .i64 a.y, .int .i64 b.x, .int .i64 b.y] 172 (0, 0))
  pb : W.heap[P]? = some (.cells #[.int .i64 p0, .int .i64 p1, .int .i64 p2] 243 (0, 0))
  lo : Below w0.heap.size w0 W
theorem TkW.next {P S1 : Nat} {a b : Cor} {p0 p1 p2 : Int} {w0 W W' : World} (h : TkW P S1 a b p0 p1 p2 w0 W) (hb : Below W.heap.size W W') : TkW P S1 a b p0 p1 p2 w0 W' :=
  ⟨(hb.block _ (lt_of_heap h.sb)).trans h.sb, (hb.block _ (lt_of_heap h.pb)).trans h.pb, h.lo.trans (hb.mono h.lo.size)⟩

/-- What holds while the weights are reckoned: k of them are there. -/
structure WtInv (q : Nat) (a b c : Cor) (area : Int) (front : Fr) (x y : Int) (w : World) (k : Nat) (wr : World) : Prop where
  hq : wr.heap[q]? = some (.cells (trc a b c area front) 165 (0, 0))
  pl : wr.heap[w.heap.size]? = some (.cells #[.int .i64 x, .int .i64 y] 159 (0, 0))
  pt : wr.heap[w.heap.size + 1]? = some (.cells #[.int .i64 (if 0 < k then edge b c x y else 0), .int .i64 (if 1 < k then edge c a x y else 0), .int .i64 (if 2 < k then edge a b x y else 0)] 243 (0, 0))
  bel : Below w.heap.size w wr
  h0 : 0 < k → hasB b c (edge b c x y) = true
  h1 : 1 < k → hasB c a (edge c a x y) = true
  h2 : 2 < k → hasB a b (edge a b x y) = true

def WtPost (a b c : Cor) (x y : Int) (w : World) (e : Ending) (w' : World) : Prop :=
  (∃ p0 p1 p2 cov, e = .returned (.tuple #[.agg #[.int .i64 p0, .int .i64 p1, .int .i64 p2], .bool cov]) ∧ cov = (hasB b c (edge b c x y) && (hasB c a (edge c a x y) && hasB a b (edge a b x y))) ∧
    (cov = true → p0 = edge b c x y ∧ p1 = edge c a x y ∧ p2 = edge a b x y)) ∧ Below w.heap.size w w'

set_option maxRecDepth 100000 in
set_option maxHeartbeats 1000000 in
theorem weights_any (q : Nat) (a b c : Cor) (area : Int) (front : Fr) (x y : Int) (w : World) (hq : w.heap[q]? = some (.cells (trc a b c area front) 165 (0, 0)))
    (ha : a.Ok) (hb : b.Ok) (hc : c.Ok) (hx : -32768 ≤ x) (hx' : x ≤ 32767) (hy : -32768 ≤ y) (hy' : y ≤ 32767) :
    Calls Tryz.prog 143 #[.pointer (some ⟨q, 0, none⟩), .agg #[.int .i64 x, .int .i64 y]] w (WtPost a b c x y w) := by
  have lt := lt_of_heap hq
  have hI0 : Hid (WtInv q a b c area front x y w 0 ((w.alloc (.cells #[.int .i64 x, .int .i64 y] 159)).alloc (.cells #[.int .i64 0, .int .i64 0, .int .i64 0] 243))) := by
    refine ⟨?_, ?_, ?_, below2, fun h => by omega, fun h => by omega, fun h => by omega⟩
    · rw [heap_alloc_old (by simp; omega), heap_alloc_old lt]; exact hq
    · rw [heap_alloc_old (by simp)]; exact heap_alloc_new _ _
    · exact heap_alloc_at (by simp) _
  clear hq
  go_enter Tryz.func143, Tryz.ntmps143
  go_wp2_with fail
  go_loopg [8] 3 (fun m i wr => ∃ k : Nat, k + m = 3 ∧ i = .int .i64 k ∧ WtInv q a b c area front x y w k wr)
  case atStart => exact ⟨0, rfl, rfl, hI0.out⟩
  case round =>
    obtain ⟨k, hk, rfl, hI⟩ := hrel
    clear hI0
    have hk' : k = 0 ∨ k = 1 ∨ k = 2 ∨ k = 3 := by omega
    rcases hk' with rfl | rfl | rfl | rfl
    · obtain rfl : gk = 3 := by omega
      have hbel := hI.bel
      have hQ := hI.hq
      have hpl := hI.pl
      have hpt := hI.pt
      simp only [Nat.lt_irrefl, Nat.not_lt_zero, if_false] at hpt
      have hsd := side0 q a b c area front wr hQ
      have HS : Hid (Calls Tryz.prog 91 #[.pointer (some ⟨q, 0, none⟩), .int .i64 0] wr fun e w' => e = .returned (sideV b c) ∧ Below wr.heap.size wr w') := hsd
      clear hsd
      have lp := lt_of_heap hpt
      have HI : Hid (WtInv q a b c area front x y w 0 wr) := hI
      clear hI
      go_wp2_with fail
      refine HS.out.mono ?_
      rintro e w1 ⟨rfl, hb1⟩
      have k1 := cell_of ((hb1.block _ (by omega)).trans hpl)
      have k2 := cell_of ((hb1.block _ lp).trans hpt)
      have k3 := frozen_of ((hb1.block _ lp).trans hpt)
      have lw := hb1.size
      have n1 : w.heap.size + 1 < w1.heap.size := by omega
      have n2 : w.heap.size < w1.heap.size := by omega
      have HB1 : Hid (Below wr.heap.size wr w1) := hb1
      clear hb1
      go_wp2_with fail
      refine (of_any b c x y _ hb hc hx hx' hy hy').mono ?_
      rintro e w2 ⟨rfl, hb2⟩
      have B2 : w2.heap[w.heap.size + 1]? = some (.cells #[.int .i64 0, .int .i64 0, .int .i64 0] 243 (0, 0)) := (hb2.block _ (by simp; omega)).trans ((heap_alloc_old n1 _).trans ((HB1.out.block _ lp).trans hpt))
      have S2 : w2.heap[w1.heap.size]? = some (.cells #[.int .i64 b.x, .int .i64 b.y, .int .i64 c.x, .int .i64 c.y] 172 (0, 0)) := (hb2.block _ (by simp)).trans (heap_alloc_new _ _)
      have L2 : w2.heap[w.heap.size]? = some (.cells #[.int .i64 x, .int .i64 y] 159 (0, 0)) := (hb2.block _ (by simp; omega)).trans ((heap_alloc_old n2 _).trans ((HB1.out.block _ (by omega)).trans hpl))
      have Q2 : w2.heap[q]? = some (.cells (trc a b c area front) 165 (0, 0)) := (hb2.block _ (by simp; omega)).trans ((heap_alloc_old (by omega) _).trans ((HB1.out.block _ (by omega)).trans hQ))
      have bel2 : Below w.heap.size w w2 := (hbel.trans (HB1.out.mono hbel.size)).trans ((Below.refl _ w1).alloc (by omega) _ |>.trans (hb2.mono (by simp; omega)))
      have sz2 : w.heap.size + 1 < w2.heap.size := lt_of_heap B2
      have HN : Hid (∀ w3, Below w2.heap.size (w2.setCell ⟨w.heap.size + 1, 0, none⟩ (.int .i64 (edge b c x y))) w3 → hasB b c (edge b c x y) = true → WtInv q a b c area front x y w 1 w3) := by
        intro w3 hb3 hH
        refine ⟨?_, ?_, ?_, ?_, fun _ => hH, fun h => by omega, fun h => by omega⟩
        · rw [hb3.block q (by omega), heap_set_ne (by omega)]; exact Q2
        · rw [hb3.block _ (by omega), heap_set_ne (by omega)]; exact L2
        · rw [hb3.block _ (by omega), heap_set_same B2]; rfl
        · exact (bel2.setCell (p := ⟨w.heap.size + 1, 0, none⟩) (by show w.heap.size ≤ w.heap.size + 1; omega) _).trans (hb3.mono (by omega))
      have HX : Hid (∀ w3 p0 p1 p2, Below w.heap.size w2 w3 → hasB b c (edge b c x y) = false → WtPost a b c x y w (.returned (.tuple #[.agg #[.int .i64 p0, .int .i64 p1, .int .i64 p2], .bool false])) w3) := by
        intro w3 p0 p1 p2 hb3 hH
        refine ⟨⟨p0, p1, p2, false, rfl, ?_, fun h => by simp at h⟩, bel2.trans hb3⟩
        rw [hH]; simp
      have cc := cell_of B2
      have ff := frozen_of B2
      have cs := cell_of S2
      have l1 := lt_of_heap S2
      have n3 : w.heap.size + 1 ≠ w1.heap.size := by omega
      generalize hE : edge b c x y = E at *
      have HU : Hid (TkW (w.heap.size + 1) w1.heap.size b c E 0 0 (w2.setCell ⟨w.heap.size + 1, 0, none⟩ (.int .i64 E)) (w2.setCell ⟨w.heap.size + 1, 0, none⟩ (.int .i64 E))) := ⟨(heap_set_ne (by omega) _ _).trans S2, (heap_set_same B2 _ _).trans rfl, Below.refl _ _⟩
      have HC : Hid (∀ W, TkW (w.heap.size + 1) w1.heap.size b c E 0 0 (w2.setCell ⟨w.heap.size + 1, 0, none⟩ (.int .i64 E)) W → Calls Tryz.prog 120 #[sideV b c, .int .i64 E] W fun e w'' => e = .returned (.bool (hasB b c E)) ∧ TkW (w.heap.size + 1) w1.heap.size b c E 0 0 (w2.setCell ⟨w.heap.size + 1, 0, none⟩ (.int .i64 E)) w'' ∧
          w''.cell? ⟨w1.heap.size, 0, none⟩ = some (.int .i64 b.x) ∧ w''.cell? ⟨w1.heap.size, 1, none⟩ = some (.int .i64 b.y) ∧ w''.cell? ⟨w1.heap.size, 2, none⟩ = some (.int .i64 c.x) ∧ w''.cell? ⟨w1.heap.size, 3, none⟩ = some (.int .i64 c.y) ∧ w''.cell? ⟨w.heap.size + 1, 0, none⟩ = some (.int .i64 E)) := by
        intro W hW
        refine (takes_any b c E W).mono ?_
        rintro e w' ⟨rfl, hb'⟩
        have h' := hW.next hb'
        exact ⟨rfl, h', cell_of h'.sb 0, cell_of h'.sb 1, cell_of h'.sb 2, cell_of h'.sb 3, cell_of h'.pb 0⟩
      have hsz2 : (w2.setCell ⟨w.heap.size + 1, 0, none⟩ (.int .i64 E)).heap.size = w2.heap.size := hs_set _ _ _
      clear B2 S2 L2 Q2 hb2 HI hpl hpt hQ k1 k2 k3 HS hE
      go_wp2_with fail
      refine gen_w (TkW (w.heap.size + 1) w1.heap.size b c E 0 0 (w2.setCell ⟨w.heap.size + 1, 0, none⟩ (.int .i64 E))) (Code.wp _ _ _ _) _ HU.out ?_
      intro W hW
      have cW := cell_of hW.sb
      have cP := cell_of hW.pb
      have HW : Hid (TkW (w.heap.size + 1) w1.heap.size b c E 0 0 (w2.setCell ⟨w.heap.size + 1, 0, none⟩ (.int .i64 E)) W) := hW
      clear hW HU cc ff cs
      cases hbd : hasB b c E
      · have HF : Hid (hasB b c E = false) := hbd
        rw [hbd] at HC
        clear HN hbd
        go_region_held (fun w2 => w2.cell? ⟨w1.heap.size, 0, none⟩ = some (.int .i64 b.x) ∧ w2.cell? ⟨w1.heap.size, 1, none⟩ = some (.int .i64 b.y) ∧ w2.cell? ⟨w1.heap.size, 2, none⟩ = some (.int .i64 c.x) ∧ w2.cell? ⟨w1.heap.size, 3, none⟩ = some (.int .i64 c.y) ∧ w2.cell? ⟨w.heap.size + 1, 0, none⟩ = some (.int .i64 E)) (go_keep)
          ((go_at_call 120; refine (HC.out _ (HW.out.next (Below.refl _ _).drew)).mono ?_; rintro e w3 ⟨rfl, hb3, r0, r1, r2, r3, r4⟩))
        all_goals
          have c3 := cell_of hb3.pb
          have f3 := frozen_of hb3.pb
          have hl3 : Below w.heap.size w2 w3 := ((Below.refl _ w2).setCell (p := ⟨w.heap.size + 1, 0, none⟩) (by show w.heap.size ≤ w.heap.size + 1; omega) _).trans (hb3.lo.mono (by rw [hsz2]; omega))
          clear r0 r1 r2 r3 r4 hb3
          go_wp2_with fail
          refine bodyPost_ret (v := .tuple #[.agg #[.int .i64 E, .int .i64 0, .int .i64 0], .bool false]) (by simp [results, Tryz.results143, go_sem, c3]) rfl ?_
          exact HX.out _ _ _ _ (((hl3.setCell (by show w.heap.size ≤ w.heap.size + 1; omega) _).setCell (by show w.heap.size ≤ w.heap.size + 1; omega) _).setCell (by show w.heap.size ≤ w.heap.size + 1; omega) _) HF.out
      · have HF : Hid (hasB b c E = true) := hbd
        rw [hbd] at HC
        clear HX hbd
        go_region_held (fun w2 => w2.cell? ⟨w1.heap.size, 0, none⟩ = some (.int .i64 b.x) ∧ w2.cell? ⟨w1.heap.size, 1, none⟩ = some (.int .i64 b.y) ∧ w2.cell? ⟨w1.heap.size, 2, none⟩ = some (.int .i64 c.x) ∧ w2.cell? ⟨w1.heap.size, 3, none⟩ = some (.int .i64 c.y) ∧ w2.cell? ⟨w.heap.size + 1, 0, none⟩ = some (.int .i64 E)) (go_keep)
          ((go_at_call 120; refine (HC.out _ (HW.out.next (Below.refl _ _).drew)).mono ?_; rintro e w3 ⟨rfl, hb3, r0, r1, r2, r3, r4⟩))
        all_goals
          go_wp2_with fail
          go_roundg 2
          case rel => exact ⟨1, by omega, by go_num, HN.out _ (hb3.lo.mono (by rw [hsz2]; exact Nat.le_refl _)) HF.out⟩
          case measure => omega
    · obtain rfl : gk = 2 := by omega
      have hbel := hI.bel
      have hQ := hI.hq
      have hpl := hI.pl
      have hpt := hI.pt
      simp only [Nat.lt_irrefl, Nat.zero_lt_succ, Nat.reduceLT, if_true, if_false] at hpt
      have hsd := side1 q a b c area front wr hQ
      have HS : Hid (Calls Tryz.prog 91 #[.pointer (some ⟨q, 0, none⟩), .int .i64 1] wr fun e w' => e = .returned (sideV c a) ∧ Below wr.heap.size wr w') := hsd
      clear hsd
      have lp := lt_of_heap hpt
      have HI : Hid (WtInv q a b c area front x y w 1 wr) := hI
      clear hI
      go_wp2_with fail
      refine HS.out.mono ?_
      rintro e w1 ⟨rfl, hb1⟩
      have k1 := cell_of ((hb1.block _ (by omega)).trans hpl)
      have k2 := cell_of ((hb1.block _ lp).trans hpt)
      have k3 := frozen_of ((hb1.block _ lp).trans hpt)
      have lw := hb1.size
      have n1 : w.heap.size + 1 < w1.heap.size := by omega
      have n2 : w.heap.size < w1.heap.size := by omega
      have HB1 : Hid (Below wr.heap.size wr w1) := hb1
      clear hb1
      go_wp2_with fail
      refine (of_any c a x y _ hc ha hx hx' hy hy').mono ?_
      rintro e w2 ⟨rfl, hb2⟩
      have B2 : w2.heap[w.heap.size + 1]? = some (.cells #[.int .i64 (edge b c x y), .int .i64 0, .int .i64 0] 243 (0, 0)) := (hb2.block _ (by simp; omega)).trans ((heap_alloc_old n1 _).trans ((HB1.out.block _ lp).trans hpt))
      have S2 : w2.heap[w1.heap.size]? = some (.cells #[.int .i64 c.x, .int .i64 c.y, .int .i64 a.x, .int .i64 a.y] 172 (0, 0)) := (hb2.block _ (by simp)).trans (heap_alloc_new _ _)
      have L2 : w2.heap[w.heap.size]? = some (.cells #[.int .i64 x, .int .i64 y] 159 (0, 0)) := (hb2.block _ (by simp; omega)).trans ((heap_alloc_old n2 _).trans ((HB1.out.block _ (by omega)).trans hpl))
      have Q2 : w2.heap[q]? = some (.cells (trc a b c area front) 165 (0, 0)) := (hb2.block _ (by simp; omega)).trans ((heap_alloc_old (by omega) _).trans ((HB1.out.block _ (by omega)).trans hQ))
      have bel2 : Below w.heap.size w w2 := (hbel.trans (HB1.out.mono hbel.size)).trans ((Below.refl _ w1).alloc (by omega) _ |>.trans (hb2.mono (by simp; omega)))
      have sz2 : w.heap.size + 1 < w2.heap.size := lt_of_heap B2
      have HN : Hid (∀ w3, Below w2.heap.size (w2.setCell ⟨w.heap.size + 1, 1, none⟩ (.int .i64 (edge c a x y))) w3 → hasB c a (edge c a x y) = true → WtInv q a b c area front x y w 2 w3) := by
        intro w3 hb3 hH
        refine ⟨?_, ?_, ?_, ?_, fun _ => HI.out.h0 (by omega), fun _ => hH, fun h => by omega⟩
        · rw [hb3.block q (by omega), heap_set_ne (by omega)]; exact Q2
        · rw [hb3.block _ (by omega), heap_set_ne (by omega)]; exact L2
        · rw [hb3.block _ (by omega), heap_set_same B2]; rfl
        · exact (bel2.setCell (p := ⟨w.heap.size + 1, 1, none⟩) (by show w.heap.size ≤ w.heap.size + 1; omega) _).trans (hb3.mono (by omega))
      have HX : Hid (∀ w3 p0 p1 p2, Below w.heap.size w2 w3 → hasB c a (edge c a x y) = false → WtPost a b c x y w (.returned (.tuple #[.agg #[.int .i64 p0, .int .i64 p1, .int .i64 p2], .bool false])) w3) := by
        intro w3 p0 p1 p2 hb3 hH
        refine ⟨⟨p0, p1, p2, false, rfl, ?_, fun h => by simp at h⟩, bel2.trans hb3⟩
        rw [hH]; simp
      have cc := cell_of B2
      have ff := frozen_of B2
      have cs := cell_of S2
      have l1 := lt_of_heap S2
      have n3 : w.heap.size + 1 ≠ w1.heap.size := by omega
      generalize hE : edge c a x y = E at *
      have HU : Hid (TkW (w.heap.size + 1) w1.heap.size c a (edge b c x y) E 0 (w2.setCell ⟨w.heap.size + 1, 1, none⟩ (.int .i64 E)) (w2.setCell ⟨w.heap.size + 1, 1, none⟩ (.int .i64 E))) := ⟨(heap_set_ne (by omega) _ _).trans S2, (heap_set_same B2 _ _).trans rfl, Below.refl _ _⟩
      have HC : Hid (∀ W, TkW (w.heap.size + 1) w1.heap.size c a (edge b c x y) E 0 (w2.setCell ⟨w.heap.size + 1, 1, none⟩ (.int .i64 E)) W → Calls Tryz.prog 120 #[sideV c a, .int .i64 E] W fun e w'' => e = .returned (.bool (hasB c a E)) ∧ TkW (w.heap.size + 1) w1.heap.size c a (edge b c x y) E 0 (w2.setCell ⟨w.heap.size + 1, 1, none⟩ (.int .i64 E)) w'' ∧
          w''.cell? ⟨w1.heap.size, 0, none⟩ = some (.int .i64 c.x) ∧ w''.cell? ⟨w1.heap.size, 1, none⟩ = some (.int .i64 c.y) ∧ w''.cell? ⟨w1.heap.size, 2, none⟩ = some (.int .i64 a.x) ∧ w''.cell? ⟨w1.heap.size, 3, none⟩ = some (.int .i64 a.y) ∧ w''.cell? ⟨w.heap.size + 1, 1, none⟩ = some (.int .i64 E)) := by
        intro W hW
        refine (takes_any c a E W).mono ?_
        rintro e w' ⟨rfl, hb'⟩
        have h' := hW.next hb'
        exact ⟨rfl, h', cell_of h'.sb 0, cell_of h'.sb 1, cell_of h'.sb 2, cell_of h'.sb 3, cell_of h'.pb 1⟩
      have hsz2 : (w2.setCell ⟨w.heap.size + 1, 1, none⟩ (.int .i64 E)).heap.size = w2.heap.size := hs_set _ _ _
      clear B2 S2 L2 Q2 hb2 HI hpl hpt hQ k1 k2 k3 HS hE
      go_wp2_with fail
      refine gen_w (TkW (w.heap.size + 1) w1.heap.size c a (edge b c x y) E 0 (w2.setCell ⟨w.heap.size + 1, 1, none⟩ (.int .i64 E))) (Code.wp _ _ _ _) _ HU.out ?_
      intro W hW
      have cW := cell_of hW.sb
      have cP := cell_of hW.pb
      have HW : Hid (TkW (w.heap.size + 1) w1.heap.size c a (edge b c x y) E 0 (w2.setCell ⟨w.heap.size + 1, 1, none⟩ (.int .i64 E)) W) := hW
      clear hW HU cc ff cs
      cases hbd : hasB c a E
      · have HF : Hid (hasB c a E = false) := hbd
        rw [hbd] at HC
        clear HN hbd
        go_region_held (fun w2 => w2.cell? ⟨w1.heap.size, 0, none⟩ = some (.int .i64 c.x) ∧ w2.cell? ⟨w1.heap.size, 1, none⟩ = some (.int .i64 c.y) ∧ w2.cell? ⟨w1.heap.size, 2, none⟩ = some (.int .i64 a.x) ∧ w2.cell? ⟨w1.heap.size, 3, none⟩ = some (.int .i64 a.y) ∧ w2.cell? ⟨w.heap.size + 1, 1, none⟩ = some (.int .i64 E)) (go_keep)
          ((go_at_call 120; refine (HC.out _ (HW.out.next (Below.refl _ _).drew)).mono ?_; rintro e w3 ⟨rfl, hb3, r0, r1, r2, r3, r4⟩))
        all_goals
          have c3 := cell_of hb3.pb
          have f3 := frozen_of hb3.pb
          have hl3 : Below w.heap.size w2 w3 := ((Below.refl _ w2).setCell (p := ⟨w.heap.size + 1, 1, none⟩) (by show w.heap.size ≤ w.heap.size + 1; omega) _).trans (hb3.lo.mono (by rw [hsz2]; omega))
          clear r0 r1 r2 r3 r4 hb3
          go_wp2_with fail
          refine bodyPost_ret (v := .tuple #[.agg #[.int .i64 (edge b c x y), .int .i64 E, .int .i64 0], .bool false]) (by simp [results, Tryz.results143, go_sem, c3]) rfl ?_
          exact HX.out _ _ _ _ (((hl3.setCell (by show w.heap.size ≤ w.heap.size + 1; omega) _).setCell (by show w.heap.size ≤ w.heap.size + 1; omega) _).setCell (by show w.heap.size ≤ w.heap.size + 1; omega) _) HF.out
      · have HF : Hid (hasB c a E = true) := hbd
        rw [hbd] at HC
        clear HX hbd
        go_region_held (fun w2 => w2.cell? ⟨w1.heap.size, 0, none⟩ = some (.int .i64 c.x) ∧ w2.cell? ⟨w1.heap.size, 1, none⟩ = some (.int .i64 c.y) ∧ w2.cell? ⟨w1.heap.size, 2, none⟩ = some (.int .i64 a.x) ∧ w2.cell? ⟨w1.heap.size, 3, none⟩ = some (.int .i64 a.y) ∧ w2.cell? ⟨w.heap.size + 1, 1, none⟩ = some (.int .i64 E)) (go_keep)
          ((go_at_call 120; refine (HC.out _ (HW.out.next (Below.refl _ _).drew)).mono ?_; rintro e w3 ⟨rfl, hb3, r0, r1, r2, r3, r4⟩))
        all_goals
          go_wp2_with fail
          go_roundg 1
          case rel => exact ⟨2, by omega, by go_num, HN.out _ (hb3.lo.mono (by rw [hsz2]; exact Nat.le_refl _)) HF.out⟩
          case measure => omega
    · obtain rfl : gk = 1 := by omega
      have hbel := hI.bel
      have hQ := hI.hq
      have hpl := hI.pl
      have hpt := hI.pt
      simp only [Nat.lt_irrefl, Nat.zero_lt_succ, Nat.reduceLT, if_true, if_false] at hpt
      have hsd := side2 q a b c area front wr hQ
      have HS : Hid (Calls Tryz.prog 91 #[.pointer (some ⟨q, 0, none⟩), .int .i64 2] wr fun e w' => e = .returned (sideV a b) ∧ Below wr.heap.size wr w') := hsd
      clear hsd
      have lp := lt_of_heap hpt
      have HI : Hid (WtInv q a b c area front x y w 2 wr) := hI
      clear hI
      go_wp2_with fail
      refine HS.out.mono ?_
      rintro e w1 ⟨rfl, hb1⟩
      have k1 := cell_of ((hb1.block _ (by omega)).trans hpl)
      have k2 := cell_of ((hb1.block _ lp).trans hpt)
      have k3 := frozen_of ((hb1.block _ lp).trans hpt)
      have lw := hb1.size
      have n1 : w.heap.size + 1 < w1.heap.size := by omega
      have n2 : w.heap.size < w1.heap.size := by omega
      have HB1 : Hid (Below wr.heap.size wr w1) := hb1
      clear hb1
      go_wp2_with fail
      refine (of_any a b x y _ ha hb hx hx' hy hy').mono ?_
      rintro e w2 ⟨rfl, hb2⟩
      have B2 : w2.heap[w.heap.size + 1]? = some (.cells #[.int .i64 (edge b c x y), .int .i64 (edge c a x y), .int .i64 0] 243 (0, 0)) := (hb2.block _ (by simp; omega)).trans ((heap_alloc_old n1 _).trans ((HB1.out.block _ lp).trans hpt))
      have S2 : w2.heap[w1.heap.size]? = some (.cells #[.int .i64 a.x, .int .i64 a.y, .int .i64 b.x, .int .i64 b.y] 172 (0, 0)) := (hb2.block _ (by simp)).trans (heap_alloc_new _ _)
      have L2 : w2.heap[w.heap.size]? = some (.cells #[.int .i64 x, .int .i64 y] 159 (0, 0)) := (hb2.block _ (by simp; omega)).trans ((heap_alloc_old n2 _).trans ((HB1.out.block _ (by omega)).trans hpl))
      have Q2 : w2.heap[q]? = some (.cells (trc a b c area front) 165 (0, 0)) := (hb2.block _ (by simp; omega)).trans ((heap_alloc_old (by omega) _).trans ((HB1.out.block _ (by omega)).trans hQ))
      have bel2 : Below w.heap.size w w2 := (hbel.trans (HB1.out.mono hbel.size)).trans ((Below.refl _ w1).alloc (by omega) _ |>.trans (hb2.mono (by simp; omega)))
      have sz2 : w.heap.size + 1 < w2.heap.size := lt_of_heap B2
      have HN : Hid (∀ w3, Below w2.heap.size (w2.setCell ⟨w.heap.size + 1, 2, none⟩ (.int .i64 (edge a b x y))) w3 → hasB a b (edge a b x y) = true → WtInv q a b c area front x y w 3 w3) := by
        intro w3 hb3 hH
        refine ⟨?_, ?_, ?_, ?_, fun _ => HI.out.h0 (by omega), fun _ => HI.out.h1 (by omega), fun _ => hH⟩
        · rw [hb3.block q (by omega), heap_set_ne (by omega)]; exact Q2
        · rw [hb3.block _ (by omega), heap_set_ne (by omega)]; exact L2
        · rw [hb3.block _ (by omega), heap_set_same B2]; rfl
        · exact (bel2.setCell (p := ⟨w.heap.size + 1, 2, none⟩) (by show w.heap.size ≤ w.heap.size + 1; omega) _).trans (hb3.mono (by omega))
      have HX : Hid (∀ w3 p0 p1 p2, Below w.heap.size w2 w3 → hasB a b (edge a b x y) = false → WtPost a b c x y w (.returned (.tuple #[.agg #[.int .i64 p0, .int .i64 p1, .int .i64 p2], .bool false])) w3) := by
        intro w3 p0 p1 p2 hb3 hH
        refine ⟨⟨p0, p1, p2, false, rfl, ?_, fun h => by simp at h⟩, bel2.trans hb3⟩
        rw [hH]; simp
      have cc := cell_of B2
      have ff := frozen_of B2
      have cs := cell_of S2
      have l1 := lt_of_heap S2
      have n3 : w.heap.size + 1 ≠ w1.heap.size := by omega
      generalize hE : edge a b x y = E at *
      have HU : Hid (TkW (w.heap.size + 1) w1.heap.size a b (edge b c x y) (edge c a x y) E (w2.setCell ⟨w.heap.size + 1, 2, none⟩ (.int .i64 E)) (w2.setCell ⟨w.heap.size + 1, 2, none⟩ (.int .i64 E))) := ⟨(heap_set_ne (by omega) _ _).trans S2, (heap_set_same B2 _ _).trans rfl, Below.refl _ _⟩
      have HC : Hid (∀ W, TkW (w.heap.size + 1) w1.heap.size a b (edge b c x y) (edge c a x y) E (w2.setCell ⟨w.heap.size + 1, 2, none⟩ (.int .i64 E)) W → Calls Tryz.prog 120 #[sideV a b, .int .i64 E] W fun e w'' => e = .returned (.bool (hasB a b E)) ∧ TkW (w.heap.size + 1) w1.heap.size a b (edge b c x y) (edge c a x y) E (w2.setCell ⟨w.heap.size + 1, 2, none⟩ (.int .i64 E)) w'' ∧
          w''.cell? ⟨w1.heap.size, 0, none⟩ = some (.int .i64 a.x) ∧ w''.cell? ⟨w1.heap.size, 1, none⟩ = some (.int .i64 a.y) ∧ w''.cell? ⟨w1.heap.size, 2, none⟩ = some (.int .i64 b.x) ∧ w''.cell? ⟨w1.heap.size, 3, none⟩ = some (.int .i64 b.y) ∧ w''.cell? ⟨w.heap.size + 1, 2, none⟩ = some (.int .i64 E)) := by
        intro W hW
        refine (takes_any a b E W).mono ?_
        rintro e w' ⟨rfl, hb'⟩
        have h' := hW.next hb'
        exact ⟨rfl, h', cell_of h'.sb 0, cell_of h'.sb 1, cell_of h'.sb 2, cell_of h'.sb 3, cell_of h'.pb 2⟩
      have hsz2 : (w2.setCell ⟨w.heap.size + 1, 2, none⟩ (.int .i64 E)).heap.size = w2.heap.size := hs_set _ _ _
      clear B2 S2 L2 Q2 hb2 HI hpl hpt hQ k1 k2 k3 HS hE
      go_wp2_with fail
      refine gen_w (TkW (w.heap.size + 1) w1.heap.size a b (edge b c x y) (edge c a x y) E (w2.setCell ⟨w.heap.size + 1, 2, none⟩ (.int .i64 E))) (Code.wp _ _ _ _) _ HU.out ?_
      intro W hW
      have cW := cell_of hW.sb
      have cP := cell_of hW.pb
      have HW : Hid (TkW (w.heap.size + 1) w1.heap.size a b (edge b c x y) (edge c a x y) E (w2.setCell ⟨w.heap.size + 1, 2, none⟩ (.int .i64 E)) W) := hW
      clear hW HU cc ff cs
      cases hbd : hasB a b E
      · have HF : Hid (hasB a b E = false) := hbd
        rw [hbd] at HC
        clear HN hbd
        go_region_held (fun w2 => w2.cell? ⟨w1.heap.size, 0, none⟩ = some (.int .i64 a.x) ∧ w2.cell? ⟨w1.heap.size, 1, none⟩ = some (.int .i64 a.y) ∧ w2.cell? ⟨w1.heap.size, 2, none⟩ = some (.int .i64 b.x) ∧ w2.cell? ⟨w1.heap.size, 3, none⟩ = some (.int .i64 b.y) ∧ w2.cell? ⟨w.heap.size + 1, 2, none⟩ = some (.int .i64 E)) (go_keep)
          ((go_at_call 120; refine (HC.out _ (HW.out.next (Below.refl _ _).drew)).mono ?_; rintro e w3 ⟨rfl, hb3, r0, r1, r2, r3, r4⟩))
        all_goals
          have c3 := cell_of hb3.pb
          have f3 := frozen_of hb3.pb
          have hl3 : Below w.heap.size w2 w3 := ((Below.refl _ w2).setCell (p := ⟨w.heap.size + 1, 2, none⟩) (by show w.heap.size ≤ w.heap.size + 1; omega) _).trans (hb3.lo.mono (by rw [hsz2]; omega))
          clear r0 r1 r2 r3 r4 hb3
          go_wp2_with fail
          refine bodyPost_ret (v := .tuple #[.agg #[.int .i64 (edge b c x y), .int .i64 (edge c a x y), .int .i64 E], .bool false]) (by simp [results, Tryz.results143, go_sem, c3]) rfl ?_
          exact HX.out _ _ _ _ (((hl3.setCell (by show w.heap.size ≤ w.heap.size + 1; omega) _).setCell (by show w.heap.size ≤ w.heap.size + 1; omega) _).setCell (by show w.heap.size ≤ w.heap.size + 1; omega) _) HF.out
      · have HF : Hid (hasB a b E = true) := hbd
        rw [hbd] at HC
        clear HX hbd
        go_region_held (fun w2 => w2.cell? ⟨w1.heap.size, 0, none⟩ = some (.int .i64 a.x) ∧ w2.cell? ⟨w1.heap.size, 1, none⟩ = some (.int .i64 a.y) ∧ w2.cell? ⟨w1.heap.size, 2, none⟩ = some (.int .i64 b.x) ∧ w2.cell? ⟨w1.heap.size, 3, none⟩ = some (.int .i64 b.y) ∧ w2.cell? ⟨w.heap.size + 1, 2, none⟩ = some (.int .i64 E)) (go_keep)
          ((go_at_call 120; refine (HC.out _ (HW.out.next (Below.refl _ _).drew)).mono ?_; rintro e w3 ⟨rfl, hb3, r0, r1, r2, r3, r4⟩))
        all_goals
          go_wp2_with fail
          go_roundg 0
          case rel => exact ⟨3, by omega, by go_num, HN.out _ (hb3.lo.mono (by rw [hsz2]; exact Nat.le_refl _)) HF.out⟩
          case measure => omega
    · obtain rfl : gk = 0 := by omega
      have cp := cell_of hI.pt
      have fz := frozen_of hI.pt
      have hbel := hI.bel
      have HV : Hid (true = (hasB b c (edge b c x y) && (hasB c a (edge c a x y) && hasB a b (edge a b x y)))) := by show true = _; rw [hI.h0 (by omega), hI.h1 (by omega), hI.h2 (by omega)]; rfl
      simp at cp
      clear hI
      go_wp2_with fail
      refine bodyPost_ret (v := .tuple #[.agg #[.int .i64 (edge b c x y), .int .i64 (edge c a x y), .int .i64 (edge a b x y)], .bool true]) (by simp [results, Tryz.results143, go_sem, cp]) rfl ?_
      refine ⟨⟨_, _, _, true, rfl, HV.out, fun _ => ⟨rfl, rfl, rfl⟩⟩, ?_⟩
      exact ((hbel.setCell (by show w.heap.size ≤ w.heap.size + 1; omega) _).setCell (by show w.heap.size ≤ w.heap.size + 1; omega) _).setCell (by show w.heap.size ≤ w.heap.size + 1; omega) _
end Go.Proofs.YthcikinkicpicaaGreatDoor
