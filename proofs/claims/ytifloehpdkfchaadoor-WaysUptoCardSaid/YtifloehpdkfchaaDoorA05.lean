import Derived.Test.YtifloehpdkfchaaDoorA03
import Derived.Test.YtifloehpdkfchaaDoorA04
import Derived.Deep.MidRow

namespace Go.Proofs.YtifloehpdkfchaaDoor
open Go.RowKit

/-- A triangle's cells. -/
def trc (a b c : Cor) (area : Int) (front : Bool) : Array Value :=
  #[.int .i64 a.x, .int .i64 a.y, .int .i64 a.r, .int .i64 a.g, .int .i64 a.b, .int .i64 a.d, .int .i64 b.x, .int .i64 b.y, .int .i64 b.r, .int .i64 b.g, .int .i64 b.b, .int .i64 b.d,
    .int .i64 c.x, .int .i64 c.y, .int .i64 c.r, .int .i64 c.g, .int .i64 c.b, .int .i64 c.d, .int .i64 area, .bool front]

set_option maxRecDepth 100000 in
set_option maxHeartbeats 1000000 in
theorem side0 (q : Nat) (a b c : Cor) (area : Int) (front : Bool) (w : World) (hq : w.heap[q]? = some (.cells (trc a b c area front) 124 (0, 0))) :
    Calls Tryd.prog 74 #[.pointer (some ⟨q, 0, none⟩), .int .i64 0] w fun e w' => e = .returned (sideV b c) ∧ Below w.heap.size w w' := by
  have lt := lt_of_heap hq
  have cp := cell_of hq
  simp only [trc] at cp
  have cp1 : ∀ o : Nat, (w.alloc (.cells #[.int .i64 0, .int .i64 0, .int .i64 0, .int .i64 0] 155)).cell? ⟨q, o, none⟩ = _ := fun o => (World.cell?_alloc_past _ _ _ lt).trans (cp o)
  clear cp hq
  go_enter Tryd.func74, Tryd.ntmps74
  go_wp2_with fail
  go_region
  go_wp2
  refine bodyPost_ret (v := sideV b c) (by simp [results, Tryd.results74, go_sem]) rfl ?_
  exact ⟨rfl, below1.drew⟩

set_option maxRecDepth 100000 in
set_option maxHeartbeats 1000000 in
theorem side1 (q : Nat) (a b c : Cor) (area : Int) (front : Bool) (w : World) (hq : w.heap[q]? = some (.cells (trc a b c area front) 124 (0, 0))) :
    Calls Tryd.prog 74 #[.pointer (some ⟨q, 0, none⟩), .int .i64 1] w fun e w' => e = .returned (sideV c a) ∧ Below w.heap.size w w' := by
  have lt := lt_of_heap hq
  have cp := cell_of hq
  simp only [trc] at cp
  have cp1 : ∀ o : Nat, (w.alloc (.cells #[.int .i64 0, .int .i64 0, .int .i64 0, .int .i64 0] 155)).cell? ⟨q, o, none⟩ = _ := fun o => (World.cell?_alloc_past _ _ _ lt).trans (cp o)
  clear cp hq
  go_enter Tryd.func74, Tryd.ntmps74
  go_wp2_with fail
  go_region
  go_wp2
  refine bodyPost_ret (v := sideV c a) (by simp [results, Tryd.results74, go_sem]) rfl ?_
  exact ⟨rfl, below1.drew⟩

set_option maxRecDepth 100000 in
set_option maxHeartbeats 1000000 in
theorem side2 (q : Nat) (a b c : Cor) (area : Int) (front : Bool) (w : World) (hq : w.heap[q]? = some (.cells (trc a b c area front) 124 (0, 0))) :
    Calls Tryd.prog 74 #[.pointer (some ⟨q, 0, none⟩), .int .i64 2] w fun e w' => e = .returned (sideV a b) ∧ Below w.heap.size w w' := by
  have lt := lt_of_heap hq
  have cp := cell_of hq
  simp only [trc] at cp
  have cp1 : ∀ o : Nat, (w.alloc (.cells #[.int .i64 0, .int .i64 0, .int .i64 0, .int .i64 0] 155)).cell? ⟨q, o, none⟩ = _ := fun o => (World.cell?_alloc_past _ _ _ lt).trans (cp o)
  clear cp hq
  go_enter Tryd.func74, Tryd.ntmps74
  go_wp2_with fail
  go_region
  go_wp2
  refine bodyPost_ret (v := sideV a b) (by simp [results, Tryd.results74, go_sem]) rfl ?_
  exact ⟨rfl, below1.drew⟩

/-- What holds while the weights are reckoned: k of them are there. -/
structure WtInv (q : Nat) (a b c : Cor) (area : Int) (front : Bool) (x y : Int) (w : World) (k : Nat) (wr : World) : Prop where
  hq : wr.heap[q]? = some (.cells (trc a b c area front) 124 (0, 0))
  pl : wr.heap[w.heap.size]? = some (.cells #[.int .i64 x, .int .i64 y] 118 (0, 0))
  pt : wr.heap[w.heap.size + 1]? = some (.cells #[.int .i64 (if 0 < k then edge b c x y else 0), .int .i64 (if 1 < k then edge c a x y else 0), .int .i64 (if 2 < k then edge a b x y else 0)] 174 (0, 0))
  bel : Below w.heap.size w wr
  h0 : 0 < k → hasB b c (edge b c x y) = true
  h1 : 1 < k → hasB c a (edge c a x y) = true
  h2 : 2 < k → hasB a b (edge a b x y) = true

def WtPost (a b c : Cor) (x y : Int) (w : World) (e : Ending) (w' : World) : Prop :=
  (∃ p0 p1 p2 cov, e = .returned (.tuple #[.agg #[.int .i64 p0, .int .i64 p1, .int .i64 p2], .bool cov]) ∧ cov = (hasB b c (edge b c x y) && (hasB c a (edge c a x y) && hasB a b (edge a b x y))) ∧
    (cov = true → p0 = edge b c x y ∧ p1 = edge c a x y ∧ p2 = edge a b x y)) ∧ Below w.heap.size w w'

set_option maxRecDepth 100000 in
set_option maxHeartbeats 1000000 in
theorem weights_any (q : Nat) (a b c : Cor) (area : Int) (front : Bool) (x y : Int) (w : World) (hq : w.heap[q]? = some (.cells (trc a b c area front) 124 (0, 0)))
    (ha : a.Ok) (hb : b.Ok) (hc : c.Ok) (hx : -32768 ≤ x) (hx' : x ≤ 32767) (hy : -32768 ≤ y) (hy' : y ≤ 32767) :
    Calls Tryd.prog 85 #[.pointer (some ⟨q, 0, none⟩), .agg #[.int .i64 x, .int .i64 y]] w (WtPost a b c x y w) := by
  have lt := lt_of_heap hq
  have hI0 : Hid (WtInv q a b c area front x y w 0 ((w.alloc (.cells #[.int .i64 x, .int .i64 y] 118)).alloc (.cells #[.int .i64 0, .int .i64 0, .int .i64 0] 174))) := by
    refine ⟨?_, ?_, ?_, below2, fun h => by omega, fun h => by omega, fun h => by omega⟩
    · rw [heap_alloc_old (by simp; omega), heap_alloc_old lt]; exact hq
    · rw [heap_alloc_old (by simp)]; exact heap_alloc_new _ _
    · exact heap_alloc_at (by simp) _
  clear hq
  go_enter Tryd.func85, Tryd.ntmps85
  go_wp2_with fail
  go_loopg [8] 3 (fun m i wr => ∃ k : Nat, k + m = 3 ∧ i = .int .i64 k ∧ WtInv q a b c area front x y w k wr)
  case atStart => exact ⟨0, rfl, rfl, hI0.out⟩
  case round =>
    obtain ⟨k, hk, rfl, hI⟩ := hrel
    clear hI0
    have hk' : k = 0 ∨ k = 1 ∨ k = 2 ∨ k = 3 := by omega
    rcases hk' with rfl | rfl | rfl | rfl
    · obtain rfl : gk = 3 := by omega
      have hbel := hI.bel
      have hQ := hI.hq
      have hpl := hI.pl
      have hpt := hI.pt
      simp only [Nat.lt_irrefl, Nat.not_lt_zero, if_false] at hpt
      have hsd := side0 q a b c area front wr hQ
      have HS : Hid (Calls Tryd.prog 74 #[.pointer (some ⟨q, 0, none⟩), .int .i64 0] wr fun e w' => e = .returned (sideV b c) ∧ Below wr.heap.size wr w') := hsd
      clear hsd
      have lp := lt_of_heap hpt
      have HI : Hid (WtInv q a b c area front x y w 0 wr) := hI
      clear hI
      go_wp2_with fail
      refine HS.out.mono ?_
      rintro e w1 ⟨rfl, hb1⟩
      have k1 := cell_of ((hb1.block _ (by omega)).trans hpl)
      have k2 := cell_of ((hb1.block _ lp).trans hpt)
      have k3 := frozen_of ((hb1.block _ lp).trans hpt)
      have lw := hb1.size
      have n1 : w.heap.size + 1 < w1.heap.size := by omega
      have n2 : w.heap.size < w1.heap.size := by omega
      have HB1 : Hid (Below wr.heap.size wr w1) := hb1
      clear hb1
      go_wp2_with fail
      refine (of_any b c x y _ hb hc hx hx' hy hy').mono ?_
      rintro e w2 ⟨rfl, hb2⟩
      have B2 : w2.heap[w.heap.size + 1]? = some (.cells #[.int .i64 0, .int .i64 0, .int .i64 0] 174 (0, 0)) := (hb2.block _ (by simp; omega)).trans ((heap_alloc_old n1 _).trans ((HB1.out.block _ lp).trans hpt))
      have S2 : w2.heap[w1.heap.size]? = some (.cells #[.int .i64 b.x, .int .i64 b.y, .int .i64 c.x, .int .i64 c.y] 155 (0, 0)) := (hb2.block _ (by simp)).trans (heap_alloc_new _ _)
      have L2 : w2.heap[w.heap.size]? = some (.cells #[.int .i64 x, .int .i64 y] 118 (0, 0)) := (hb2.block _ (by simp; omega)).trans ((heap_alloc_old n2 _).trans ((HB1.out.block _ (by omega)).trans hpl))
      have Q2 : w2.heap[q]? = some (.cells (trc a b c area front) 124 (0, 0)) := (hb2.block _ (by simp; omega)).trans ((heap_alloc_old (by omega) _).trans ((HB1.out.block _ (by omega)).trans hQ))
      have bel2 : Below w.heap.size w w2 := (hbel.trans (HB1.out.mono hbel.size)).trans ((Below.refl _ w1).alloc (by omega) _ |>.trans (hb2.mono (by simp; omega)))
      have sz2 : w.heap.size + 1 < w2.heap.size := lt_of_heap B2
      have HN : Hid (∀ w3, Below w2.heap.size (w2.setCell ⟨w.heap.size + 1, 0, none⟩ (.int .i64 (edge b c x y))) w3 → hasB b c (edge b c x y) = true → WtInv q a b c area front x y w 1 w3) := by
        intro w3 hb3 hH
        refine ⟨?_, ?_, ?_, ?_, fun _ => hH, fun h => by omega, fun h => by omega⟩
        · rw [hb3.block q (by omega), heap_set_ne (by omega)]; exact Q2
        · rw [hb3.block _ (by omega), heap_set_ne (by omega)]; exact L2
        · rw [hb3.block _ (by omega), heap_set_same B2]; rfl
        · exact (bel2.setCell (p := ⟨w.heap.size + 1, 0, none⟩) (by show w.heap.size ≤ w.heap.size + 1; omega) _).trans (hb3.mono (by omega))
      have HX : Hid (∀ w3 p0 p1 p2, Below w.heap.size w2 w3 → hasB b c (edge b c x y) = false → WtPost a b c x y w (.returned (.tuple #[.agg #[.int .i64 p0, .int .i64 p1, .int .i64 p2], .bool false])) w3) := by
        intro w3 p0 p1 p2 hb3 hH
        refine ⟨⟨p0, p1, p2, false, rfl, ?_, fun h => by simp at h⟩, bel2.trans hb3⟩
        rw [hH]; simp
      have cc := cell_of B2
      have ff := frozen_of B2
      have cs := cell_of S2
      have l1 := lt_of_heap S2
      have n3 : w.heap.size + 1 ≠ w1.heap.size := by omega
      have HH : Hid (hasB b c (edge b c x y) = if edge b c x y = 0 then decide (c.y < b.y) || (decide (c.y = b.y) && decide (b.x < c.x)) else decide (0 < edge b c x y)) := rfl
      generalize edge b c x y = E at *
      have HB2 : Hid (w2.heap[w.heap.size + 1]? = some (.cells #[.int .i64 0, .int .i64 0, .int .i64 0] 174 (0, 0))) := B2
      clear B2 S2 L2 Q2 hb2 HI hpl hpt hQ k1 k2 k3 HS
      rcases Int.lt_trichotomy E 0 with h | h | h
      · have hF : Hid (hasB b c E = false) := by show _ = _; rw [HH.out, if_neg (by omega)]; simp; omega
        clear HN HH
        go_wp2_with fail
        refine bodyPost_ret (v := .tuple #[.agg #[.int .i64 E, .int .i64 0, .int .i64 0], .bool false]) (by simp [results, Tryd.results85, go_sem, cc]) rfl ?_
        exact HX.out _ _ _ _ (((((Below.refl _ w2).setCell (by show w.heap.size ≤ w.heap.size + 1; omega) _).setCell (by show w.heap.size ≤ w.heap.size + 1; omega) _).setCell (by show w.heap.size ≤ w.heap.size + 1; omega) _).setCell (by show w.heap.size ≤ w.heap.size + 1; omega) _) hF.out
      · subst h
        cases hbd : (decide (c.y < b.y) || (decide (c.y = b.y) && decide (b.x < c.x)))
        · have hF : Hid (hasB b c 0 = false) := by show _ = _; rw [HH.out, if_pos rfl]; exact hbd
          have hcall := fun w' => border_any b c w'
          rw [hbd] at hcall
          have HC : Hid (∀ w', Calls Tryd.prog 95 #[sideV b c] w' fun e w'' => e = .returned (.bool false) ∧ Below w'.heap.size w' w'') := hcall
          clear HN HH hcall hbd
          go_wp2_with fail
          refine (HC.out _).mono ?_
          rintro e w3 ⟨rfl, hb3⟩
          have B3 : w3.heap[w.heap.size + 1]? = some (.cells #[.int .i64 0, .int .i64 0, .int .i64 0] 174 (0, 0)) := by rw [hb3.block _ (by rw [hs_set]; omega), heap_set_same HB2.out]; rfl
          have c3 := cell_of B3
          have f3 := frozen_of B3
          have bel3 : Below w.heap.size w2 w3 := ((Below.refl _ w2).setCell (p := ⟨w.heap.size + 1, 0, none⟩) (by show w.heap.size ≤ w.heap.size + 1; omega) _).trans (hb3.mono (by rw [hs_set]; omega))
          clear hb3
          go_wp2_with fail
          refine bodyPost_ret (v := .tuple #[.agg #[.int .i64 0, .int .i64 0, .int .i64 0], .bool false]) (by simp [results, Tryd.results85, go_sem, c3]) rfl ?_
          exact HX.out _ _ _ _ (((bel3.setCell (by show w.heap.size ≤ w.heap.size + 1; omega) _).setCell (by show w.heap.size ≤ w.heap.size + 1; omega) _).setCell (by show w.heap.size ≤ w.heap.size + 1; omega) _) hF.out
        · have hF : Hid (hasB b c 0 = true) := by show _ = _; rw [HH.out, if_pos rfl]; exact hbd
          have hcall := fun w' => border_any b c w'
          rw [hbd] at hcall
          have HC : Hid (∀ w', Calls Tryd.prog 95 #[sideV b c] w' fun e w'' => e = .returned (.bool true) ∧ Below w'.heap.size w' w'') := hcall
          clear HX HH hcall hbd
          go_wp2_with fail
          refine (HC.out _).mono ?_
          rintro e w3 ⟨rfl, hb3⟩
          go_wp2_with fail
          go_roundg 2
          case rel => exact ⟨1, by omega, by go_num, HN.out _ (hb3.mono (by rw [hs_set]; omega)) hF.out⟩
          case measure => omega
      · have hF : Hid (hasB b c E = true) := by show _ = _; rw [HH.out, if_neg (by omega)]; simp; omega
        clear HX HH
        go_wp2_with fail
        go_roundg 2
        case rel => exact ⟨1, by omega, by go_num, HN.out _ (Below.refl _ _) hF.out⟩
        case measure => omega
    · obtain rfl : gk = 2 := by omega
      have hbel := hI.bel
      have hQ := hI.hq
      have hpl := hI.pl
      have hpt := hI.pt
      simp only [Nat.lt_irrefl, Nat.zero_lt_succ, Nat.reduceLT, if_true, if_false] at hpt
      have hsd := side1 q a b c area front wr hQ
      have HS : Hid (Calls Tryd.prog 74 #[.pointer (some ⟨q, 0, none⟩), .int .i64 1] wr fun e w' => e = .returned (sideV c a) ∧ Below wr.heap.size wr w') := hsd
      clear hsd
      have lp := lt_of_heap hpt
      have HI : Hid (WtInv q a b c area front x y w 1 wr) := hI
      clear hI
      go_wp2_with fail
      refine HS.out.mono ?_
      rintro e w1 ⟨rfl, hb1⟩
      have k1 := cell_of ((hb1.block _ (by omega)).trans hpl)
      have k2 := cell_of ((hb1.block _ lp).trans hpt)
      have k3 := frozen_of ((hb1.block _ lp).trans hpt)
      have lw := hb1.size
      have n1 : w.heap.size + 1 < w1.heap.size := by omega
      have n2 : w.heap.size < w1.heap.size := by omega
      have HB1 : Hid (Below wr.heap.size wr w1) := hb1
      clear hb1
      go_wp2_with fail
      refine (of_any c a x y _ hc ha hx hx' hy hy').mono ?_
      rintro e w2 ⟨rfl, hb2⟩
      have B2 : w2.heap[w.heap.size + 1]? = some (.cells #[.int .i64 (edge b c x y), .int .i64 0, .int .i64 0] 174 (0, 0)) := (hb2.block _ (by simp; omega)).trans ((heap_alloc_old n1 _).trans ((HB1.out.block _ lp).trans hpt))
      have S2 : w2.heap[w1.heap.size]? = some (.cells #[.int .i64 c.x, .int .i64 c.y, .int .i64 a.x, .int .i64 a.y] 155 (0, 0)) := (hb2.block _ (by simp)).trans (heap_alloc_new _ _)
      have L2 : w2.heap[w.heap.size]? = some (.cells #[.int .i64 x, .int .i64 y] 118 (0, 0)) := (hb2.block _ (by simp; omega)).trans ((heap_alloc_old n2 _).trans ((HB1.out.block _ (by omega)).trans hpl))
      have Q2 : w2.heap[q]? = some (.cells (trc a b c area front) 124 (0, 0)) := (hb2.block _ (by simp; omega)).trans ((heap_alloc_old (by omega) _).trans ((HB1.out.block _ (by omega)).trans hQ))
      have bel2 : Below w.heap.size w w2 := (hbel.trans (HB1.out.mono hbel.size)).trans ((Below.refl _ w1).alloc (by omega) _ |>.trans (hb2.mono (by simp; omega)))
      have sz2 : w.heap.size + 1 < w2.heap.size := lt_of_heap B2
      have HN : Hid (∀ w3, Below w2.heap.size (w2.setCell ⟨w.heap.size + 1, 1, none⟩ (.int .i64 (edge c a x y))) w3 → hasB c a (edge c a x y) = true → WtInv q a b c area front x y w 2 w3) := by
        intro w3 hb3 hH
        refine ⟨?_, ?_, ?_, ?_, fun _ => HI.out.h0 (by omega), fun _ => hH, fun h => by omega⟩
        · rw [hb3.block q (by omega), heap_set_ne (by omega)]; exact Q2
        · rw [hb3.block _ (by omega), heap_set_ne (by omega)]; exact L2
        · rw [hb3.block _ (by omega), heap_set_same B2]; rfl
        · exact (bel2.setCell (p := ⟨w.heap.size + 1, 1, none⟩) (by show w.heap.size ≤ w.heap.size + 1; omega) _).trans (hb3.mono (by omega))
      have HX : Hid (∀ w3 p0 p1 p2, Below w.heap.size w2 w3 → hasB c a (edge c a x y) = false → WtPost a b c x y w (.returned (.tuple #[.agg #[.int .i64 p0, .int .i64 p1, .int .i64 p2], .bool false])) w3) := by
        intro w3 p0 p1 p2 hb3 hH
        refine ⟨⟨p0, p1, p2, false, rfl, ?_, fun h => by simp at h⟩, bel2.trans hb3⟩
        rw [hH]; simp
      have cc := cell_of B2
      have ff := frozen_of B2
      have cs := cell_of S2
      have l1 := lt_of_heap S2
      have n3 : w.heap.size + 1 ≠ w1.heap.size := by omega
      have HH : Hid (hasB c a (edge c a x y) = if edge c a x y = 0 then decide (a.y < c.y) || (decide (a.y = c.y) && decide (c.x < a.x)) else decide (0 < edge c a x y)) := rfl
      generalize edge c a x y = E at *
      have HB2 : Hid (w2.heap[w.heap.size + 1]? = some (.cells #[.int .i64 (edge b c x y), .int .i64 0, .int .i64 0] 174 (0, 0))) := B2
      clear B2 S2 L2 Q2 hb2 HI hpl hpt hQ k1 k2 k3 HS
      rcases Int.lt_trichotomy E 0 with h | h | h
      · have hF : Hid (hasB c a E = false) := by show _ = _; rw [HH.out, if_neg (by omega)]; simp; omega
        clear HN HH
        go_wp2_with fail
        refine bodyPost_ret (v := .tuple #[.agg #[.int .i64 (edge b c x y), .int .i64 E, .int .i64 0], .bool false]) (by simp [results, Tryd.results85, go_sem, cc]) rfl ?_
        exact HX.out _ _ _ _ (((((Below.refl _ w2).setCell (by show w.heap.size ≤ w.heap.size + 1; omega) _).setCell (by show w.heap.size ≤ w.heap.size + 1; omega) _).setCell (by show w.heap.size ≤ w.heap.size + 1; omega) _).setCell (by show w.heap.size ≤ w.heap.size + 1; omega) _) hF.out
      · subst h
        cases hbd : (decide (a.y < c.y) || (decide (a.y = c.y) && decide (c.x < a.x)))
        · have hF : Hid (hasB c a 0 = false) := by show _ = _; rw [HH.out, if_pos rfl]; exact hbd
          have hcall := fun w' => border_any c a w'
          rw [hbd] at hcall
          have HC : Hid (∀ w', Calls Tryd.prog 95 #[sideV c a] w' fun e w'' => e = .returned (.bool false) ∧ Below w'.heap.size w' w'') := hcall
          clear HN HH hcall hbd
          go_wp2_with fail
          refine (HC.out _).mono ?_
          rintro e w3 ⟨rfl, hb3⟩
          have B3 : w3.heap[w.heap.size + 1]? = some (.cells #[.int .i64 (edge b c x y), .int .i64 0, .int .i64 0] 174 (0, 0)) := by rw [hb3.block _ (by rw [hs_set]; omega), heap_set_same HB2.out]; rfl
          have c3 := cell_of B3
          have f3 := frozen_of B3
          have bel3 : Below w.heap.size w2 w3 := ((Below.refl _ w2).setCell (p := ⟨w.heap.size + 1, 1, none⟩) (by show w.heap.size ≤ w.heap.size + 1; omega) _).trans (hb3.mono (by rw [hs_set]; omega))
          clear hb3
          go_wp2_with fail
          refine bodyPost_ret (v := .tuple #[.agg #[.int .i64 (edge b c x y), .int .i64 0, .int .i64 0], .bool false]) (by simp [results, Tryd.results85, go_sem, c3]) rfl ?_
          exact HX.out _ _ _ _ (((bel3.setCell (by show w.heap.size ≤ w.heap.size + 1; omega) _).setCell (by show w.heap.size ≤ w.heap.size + 1; omega) _).setCell (by show w.heap.size ≤ w.heap.size + 1; omega) _) hF.out
        · have hF : Hid (hasB c a 0 = true) := by show _ = _; rw [HH.out, if_pos rfl]; exact hbd
          have hcall := fun w' => border_any c a w'
          rw [hbd] at hcall
          have HC : Hid (∀ w', Calls Tryd.prog 95 #[sideV c a] w' fun e w'' => e = .returned (.bool true) ∧ Below w'.heap.size w' w'') := hcall
          clear HX HH hcall hbd
          go_wp2_with fail
          refine (HC.out _).mono ?_
          rintro e w3 ⟨rfl, hb3⟩
          go_wp2_with fail
          go_roundg 1
          case rel => exact ⟨2, by omega, by go_num, HN.out _ (hb3.mono (by rw [hs_set]; omega)) hF.out⟩
          case measure => omega
      · have hF : Hid (hasB c a E = true) := by show _ = _; rw [HH.out, if_neg (by omega)]; simp; omega
        clear HX HH
        go_wp2_with fail
        go_roundg 1
        case rel => exact ⟨2, by omega, by go_num, HN.out _ (Below.refl _ _) hF.out⟩
        case measure => omega
    · obtain rfl : gk = 1 := by omega
      have hbel := hI.bel
      have hQ := hI.hq
      have hpl := hI.pl
      have hpt := hI.pt
      simp only [Nat.lt_irrefl, Nat.zero_lt_succ, Nat.reduceLT, if_true, if_false] at hpt
      have hsd := side2 q a b c area front wr hQ
      have HS : Hid (Calls Tryd.prog 74 #[.pointer (some ⟨q, 0, none⟩), .int .i64 2] wr fun e w' => e = .returned (sideV a b) ∧ Below wr.heap.size wr w') := hsd
      clear hsd
      have lp := lt_of_heap hpt
      have HI : Hid (WtInv q a b c area front x y w 2 wr) := hI
      clear hI
      go_wp2_with fail
      refine HS.out.mono ?_
      rintro e w1 ⟨rfl, hb1⟩
      have k1 := cell_of ((hb1.block _ (by omega)).trans hpl)
      have k2 := cell_of ((hb1.block _ lp).trans hpt)
      have k3 := frozen_of ((hb1.block _ lp).trans hpt)
      have lw := hb1.size
      have n1 : w.heap.size + 1 < w1.heap.size := by omega
      have n2 : w.heap.size < w1.heap.size := by omega
      have HB1 : Hid (Below wr.heap.size wr w1) := hb1
      clear hb1
      go_wp2_with fail
      refine (of_any a b x y _ ha hb hx hx' hy hy').mono ?_
      rintro e w2 ⟨rfl, hb2⟩
      have B2 : w2.heap[w.heap.size + 1]? = some (.cells #[.int .i64 (edge b c x y), .int .i64 (edge c a x y), .int .i64 0] 174 (0, 0)) := (hb2.block _ (by simp; omega)).trans ((heap_alloc_old n1 _).trans ((HB1.out.block _ lp).trans hpt))
      have S2 : w2.heap[w1.heap.size]? = some (.cells #[.int .i64 a.x, .int .i64 a.y, .int .i64 b.x, .int .i64 b.y] 155 (0, 0)) := (hb2.block _ (by simp)).trans (heap_alloc_new _ _)
      have L2 : w2.heap[w.heap.size]? = some (.cells #[.int .i64 x, .int .i64 y] 118 (0, 0)) := (hb2.block _ (by simp; omega)).trans ((heap_alloc_old n2 _).trans ((HB1.out.block _ (by omega)).trans hpl))
      have Q2 : w2.heap[q]? = some (.cells (trc a b c area front) 124 (0, 0)) := (hb2.block _ (by simp; omega)).trans ((heap_alloc_old (by omega) _).trans ((HB1.out.block _ (by omega)).trans hQ))
      have bel2 : Below w.heap.size w w2 := (hbel.trans (HB1.out.mono hbel.size)).trans ((Below.refl _ w1).alloc (by omega) _ |>.trans (hb2.mono (by simp; omega)))
      have sz2 : w.heap.size + 1 < w2.heap.size := lt_of_heap B2
      have HN : Hid (∀ w3, Below w2.heap.size (w2.setCell ⟨w.heap.size + 1, 2, none⟩ (.int .i64 (edge a b x y))) w3 → hasB a b (edge a b x y) = true → WtInv q a b c area front x y w 3 w3) := by
        intro w3 hb3 hH
        refine ⟨?_, ?_, ?_, ?_, fun _ => HI.out.h0 (by omega), fun _ => HI.out.h1 (by omega), fun _ => hH⟩
        · rw [hb3.block q (by omega), heap_set_ne (by omega)]; exact Q2
        · rw [hb3.block _ (by omega), heap_set_ne (by omega)]; exact L2
        · rw [hb3.block _ (by omega), heap_set_same B2]; rfl
        · exact (bel2.setCell (p := ⟨w.heap.size + 1, 2, none⟩) (by show w.heap.size ≤ w.heap.size + 1; omega) _).trans (hb3.mono (by omega))
      have HX : Hid (∀ w3 p0 p1 p2, Below w.heap.size w2 w3 → hasB a b (edge a b x y) = false → WtPost a b c x y w (.returned (.tuple #[.agg #[.int .i64 p0, .int .i64 p1, .int .i64 p2], .bool false])) w3) := by
        intro w3 p0 p1 p2 hb3 hH
        refine ⟨⟨p0, p1, p2, false, rfl, ?_, fun h => by simp at h⟩, bel2.trans hb3⟩
        rw [hH]; simp
      have cc := cell_of B2
      have ff := frozen_of B2
      have cs := cell_of S2
      have l1 := lt_of_heap S2
      have n3 : w.heap.size + 1 ≠ w1.heap.size := by omega
      have HH : Hid (hasB a b (edge a b x y) = if edge a b x y = 0 then decide (b.y < a.y) || (decide (b.y = a.y) && decide (a.x < b.x)) else decide (0 < edge a b x y)) := rfl
      generalize edge a b x y = E at *
      have HB2 : Hid (w2.heap[w.heap.size + 1]? = some (.cells #[.int .i64 (edge b c x y), .int .i64 (edge c a x y), .int .i64 0] 174 (0, 0))) := B2
      clear B2 S2 L2 Q2 hb2 HI hpl hpt hQ k1 k2 k3 HS
      rcases Int.lt_trichotomy E 0 with h | h | h
      · have hF : Hid (hasB a b E = false) := by show _ = _; rw [HH.out, if_neg (by omega)]; simp; omega
        clear HN HH
        go_wp2_with fail
        refine bodyPost_ret (v := .tuple #[.agg #[.int .i64 (edge b c x y), .int .i64 (edge c a x y), .int .i64 E], .bool false]) (by simp [results, Tryd.results85, go_sem, cc]) rfl ?_
        exact HX.out _ _ _ _ (((((Below.refl _ w2).setCell (by show w.heap.size ≤ w.heap.size + 1; omega) _).setCell (by show w.heap.size ≤ w.heap.size + 1; omega) _).setCell (by show w.heap.size ≤ w.heap.size + 1; omega) _).setCell (by show w.heap.size ≤ w.heap.size + 1; omega) _) hF.out
      · subst h
        cases hbd : (decide (b.y < a.y) || (decide (b.y = a.y) && decide (a.x < b.x)))
        · have hF : Hid (hasB a b 0 = false) := by show _ = _; rw [HH.out, if_pos rfl]; exact hbd
          have hcall := fun w' => border_any a b w'
          rw [hbd] at hcall
          have HC : Hid (∀ w', Calls Tryd.prog 95 #[sideV a b] w' fun e w'' => e = .returned (.bool false) ∧ Below w'.heap.size w' w'') := hcall
          clear HN HH hcall hbd
          go_wp2_with fail
          refine (HC.out _).mono ?_
          rintro e w3 ⟨rfl, hb3⟩
          have B3 : w3.heap[w.heap.size + 1]? = some (.cells #[.int .i64 (edge b c x y), .int .i64 (edge c a x y), .int .i64 0] 174 (0, 0)) := by rw [hb3.block _ (by rw [hs_set]; omega), heap_set_same HB2.out]; rfl
          have c3 := cell_of B3
          have f3 := frozen_of B3
          have bel3 : Below w.heap.size w2 w3 := ((Below.refl _ w2).setCell (p := ⟨w.heap.size + 1, 2, none⟩) (by show w.heap.size ≤ w.heap.size + 1; omega) _).trans (hb3.mono (by rw [hs_set]; omega))
          clear hb3
          go_wp2_with fail
          refine bodyPost_ret (v := .tuple #[.agg #[.int .i64 (edge b c x y), .int .i64 (edge c a x y), .int .i64 0], .bool false]) (by simp [results, Tryd.results85, go_sem, c3]) rfl ?_
          exact HX.out _ _ _ _ (((bel3.setCell (by show w.heap.size ≤ w.heap.size + 1; omega) _).setCell (by show w.heap.size ≤ w.heap.size + 1; omega) _).setCell (by show w.heap.size ≤ w.heap.size + 1; omega) _) hF.out
        · have hF : Hid (hasB a b 0 = true) := by show _ = _; rw [HH.out, if_pos rfl]; exact hbd
          have hcall := fun w' => border_any a b w'
          rw [hbd] at hcall
          have HC : Hid (∀ w', Calls Tryd.prog 95 #[sideV a b] w' fun e w'' => e = .returned (.bool true) ∧ Below w'.heap.size w' w'') := hcall
          clear HX HH hcall hbd
          go_wp2_with fail
          refine (HC.out _).mono ?_
          rintro e w3 ⟨rfl, hb3⟩
          go_wp2_with fail
          go_roundg 0
          case rel => exact ⟨3, by omega, by go_num, HN.out _ (hb3.mono (by rw [hs_set]; omega)) hF.out⟩
          case measure => omega
      · have hF : Hid (hasB a b E = true) := by show _ = _; rw [HH.out, if_neg (by omega)]; simp; omega
        clear HX HH
        go_wp2_with fail
        go_roundg 0
        case rel => exact ⟨3, by omega, by go_num, HN.out _ (Below.refl _ _) hF.out⟩
        case measure => omega
    · obtain rfl : gk = 0 := by omega
      have cp := cell_of hI.pt
      have fz := frozen_of hI.pt
      have hbel := hI.bel
      have HV : Hid (true = (hasB b c (edge b c x y) && (hasB c a (edge c a x y) && hasB a b (edge a b x y)))) := by show true = _; rw [hI.h0 (by omega), hI.h1 (by omega), hI.h2 (by omega)]; rfl
      simp at cp
      clear hI
      go_wp2_with fail
      refine bodyPost_ret (v := .tuple #[.agg #[.int .i64 (edge b c x y), .int .i64 (edge c a x y), .int .i64 (edge a b x y)], .bool true]) (by simp [results, Tryd.results85, go_sem, cp]) rfl ?_
      refine ⟨⟨_, _, _, true, rfl, HV.out, fun _ => ⟨rfl, rfl, rfl⟩⟩, ?_⟩
      exact ((hbel.setCell (by show w.heap.size ≤ w.heap.size + 1; omega) _).setCell (by show w.heap.size ≤ w.heap.size + 1; omega) _).setCell (by show w.heap.size ≤ w.heap.size + 1; omega) _
end Go.Proofs.YtifloehpdkfchaaDoor

namespace Go.Proofs.YtifloehpdkfchaaDoor
open Go.RowKit

/-- The three corners, as one value's cells. -/
def cor18 (a b c : Cor) : List Value :=
  [.int .i64 a.x, .int .i64 a.y, .int .i64 a.r, .int .i64 a.g, .int .i64 a.b, .int .i64 a.d, .int .i64 b.x, .int .i64 b.y, .int .i64 b.r, .int .i64 b.g, .int .i64 b.b, .int .i64 b.d,
    .int .i64 c.x, .int .i64 c.y, .int .i64 c.r, .int .i64 c.g, .int .i64 c.b, .int .i64 c.d]

theorem trc_range {w : World} {q : Nat} {a b c : Cor} {area : Int} {front : Bool} (hq : w.heap[q]? = some (.cells (trc a b c area front) 124 (0, 0))) : w.rangeAt q 0 (cor18 a b c) := by
  intro j v hv
  rw [cell_of hq]
  have hj : j < 18 := by have := (List.getElem?_eq_some_iff.1 hv).1; simpa [cor18] using this
  rw [Nat.zero_add, ← hv]
  have : j = 0 ∨ j = 1 ∨ j = 2 ∨ j = 3 ∨ j = 4 ∨ j = 5 ∨ j = 6 ∨ j = 7 ∨ j = 8 ∨ j = 9 ∨ j = 10 ∨ j = 11 ∨ j = 12 ∨ j = 13 ∨ j = 14 ∨ j = 15 ∨ j = 16 ∨ j = 17 := by omega
  rcases this with rfl | rfl | rfl | rfl | rfl | rfl | rfl | rfl | rfl | rfl | rfl | rfl | rfl | rfl | rfl | rfl | rfl | rfl <;> rfl

theorem idx0 (a b c : Cor) (w : World) : Sem.run Tryd.prog (Instr.index 122 (.agg (cor18 a b c).toArray) (.int .i64 0)) w = .ok (corV a) w := by kernel_rfl
theorem idx1 (a b c : Cor) (w : World) : Sem.run Tryd.prog (Instr.index 122 (.agg (cor18 a b c).toArray) (.int .i64 1)) w = .ok (corV b) w := by kernel_rfl
theorem idx2 (a b c : Cor) (w : World) : Sem.run Tryd.prog (Instr.index 122 (.agg (cor18 a b c).toArray) (.int .i64 2)) w = .ok (corV c) w := by kernel_rfl

theorem Tryd.info3cor : (Tryd.prog.info? 122).map (·.size) = some 18 := by kernel_rfl

set_option maxRecDepth 100000 in
set_option maxHeartbeats 1000000 in
theorem between_any (q : Nat) (a b c : Cor) (area : Int) (front : Bool) (u v w' : Int) (k : Nat) (va vb vc : Int) (w : World) (hq : w.heap[q]? = some (.cells (trc a b c area front) 124 (0, 0)))
    (hk : (k = 0 ∧ va = a.r ∧ vb = b.r ∧ vc = c.r) ∨ (k = 1 ∧ va = a.g ∧ vb = b.g ∧ vc = c.g) ∨ (k = 2 ∧ va = a.b ∧ vb = b.b ∧ vc = c.b) ∨ (k = 3 ∧ va = a.d ∧ vb = b.d ∧ vc = c.d))
    (ha : 0 < area) (ru : 0 ≤ u * va ∧ u * va ≤ 600000000000000) (rv : 0 ≤ v * vb ∧ v * vb ≤ 600000000000000) (rw' : 0 ≤ w' * vc ∧ w' * vc ≤ 600000000000000) :
    Calls Tryd.prog 87 #[.pointer (some ⟨q, 0, none⟩), .agg #[.int .i64 u, .int .i64 v, .int .i64 w'], .int .i64 k] w fun e w2 => e = .returned (.int .i64 ((u * va + v * vb + w' * vc) / area)) ∧ Below w.heap.size w w2 := by
  have lt := lt_of_heap hq
  have HQ : Hid (w.heap[q]? = some (.cells (trc a b c area front) 124 (0, 0))) := hq
  have HR : Hid ((w.alloc (.cells #[.int .i64 u, .int .i64 v, .int .i64 w'] 174)).rangeAt q 0 (cor18 a b c)) := World.rangeAt_alloc (trc_range hq) _
  have HK : Hid ((k = 0 ∧ va = a.r ∧ vb = b.r ∧ vc = c.r) ∨ (k = 1 ∧ va = a.g ∧ vb = b.g ∧ vc = c.g) ∨ (k = 2 ∧ va = a.b ∧ vb = b.b ∧ vc = c.b) ∨ (k = 3 ∧ va = a.d ∧ vb = b.d ∧ vc = c.d)) := hk
  clear hq hk
  have k64u : IntKind.i64.wrap (u * va) = u * va := k64 (by omega)
  have k64v : IntKind.i64.wrap (v * vb) = v * vb := k64 (by omega)
  have k64w : IntKind.i64.wrap (w' * vc) = w' * vc := k64 (by omega)
  have s0 : IntKind.i64.wrap (0 + u * va) = u * va := by rw [Int.zero_add]; exact k64u
  have s1 : IntKind.i64.wrap (u * va + v * vb) = u * va + v * vb := k64 (by omega)
  have s2 : IntKind.i64.wrap (u * va + v * vb + w' * vc) = u * va + v * vb + w' * vc := k64 (by omega)
  have sn : 0 ≤ u * va + v * vb + w' * vc := by omega
  have sm : u * va + v * vb + w' * vc ≤ 1800000000000000 := by omega
  clear ru rv rw'
  rcases HK.out with ⟨rfl, rfl, rfl, rfl⟩ | ⟨rfl, rfl, rfl, rfl⟩ | ⟨rfl, rfl, rfl, rfl⟩ | ⟨rfl, rfl, rfl, rfl⟩
  · clear HK
    go_enter Tryd.func87, Tryd.ntmps87
    go_wp2_with (refine wpList_load_mid rfl 122 (.tmp 12) rfl q 0 rfl (cor18 a b c) _ HR.out Tryd.underlying122 rfl Tryd.info3cor ?_)
    go_loopg [7, 14] 3 (fun m sum i wr => ∃ j : Nat, j + m = 3 ∧ i = .int .i64 j ∧ sum = .int .i64 (if j = 0 then 0 else if j = 1 then u * a.r else if j = 2 then u * a.r + v * b.r else u * a.r + v * b.r + w' * c.r) ∧
      wr.heap[w.heap.size]? = some (.cells #[.int .i64 u, .int .i64 v, .int .i64 w'] 174 (0, 0)) ∧ Below w.heap.size w wr)
    case atStart => exact ⟨0, rfl, rfl, by simp, heap_alloc_new _ _, below1⟩
    case round =>
      obtain ⟨j, hj, rfl, rfl, hp, hbel⟩ := hrel
      have hj' : j = 0 ∨ j = 1 ∨ j = 2 ∨ j = 3 := by omega
      have cq := cell_of hp
      have fp := lt_of_heap hp
      have cA : wr.cell? ⟨q, 18, none⟩ = some (.int .i64 area) := (hbel.cell (p := ⟨q, 18, none⟩) lt).trans (cell_of HQ.out 18)
      have x0 := idx0 a b c
      have x1 := idx1 a b c
      have x2 := idx2 a b c
      simp only [cor18, corV] at x0 x1 x2 ⊢
      have cx : ∀ (ob : Obj) (o : Nat), (wr.alloc ob).cell? ⟨w.heap.size, o, none⟩ = #[Value.int .i64 u, .int .i64 v, .int .i64 w'][o]? := fun ob o => (World.cell?_alloc_past _ _ _ fp).trans (cq o)
      have HP : Hid (∀ (ob : Obj) (n : Nat), ((wr.alloc ob).drewN n).heap[w.heap.size]? = some (.cells #[.int .i64 u, .int .i64 v, .int .i64 w'] 174 (0, 0)) ∧ Below w.heap.size w ((wr.alloc ob).drewN n)) :=
        fun ob n => ⟨(heap_alloc_old fp ob).trans hp, (hbel.alloc (Nat.le_of_lt fp) ob).drewN' n⟩
      have HB : Hid (Below w.heap.size w wr) := hbel
      clear hp hbel HR
      rcases hj' with rfl | rfl | rfl | rfl
      · obtain rfl : gk = 3 := by omega
        go_wp2_with fail
        go_quiet (fail)
        go_wp2_with fail
        go_roundg 2
        case rel => exact ⟨1, by omega, by go_num, by simp, (HP.out _ _).1, (HP.out _ _).2⟩
        case measure => omega
      · obtain rfl : gk = 2 := by omega
        go_wp2_with fail
        go_quiet (fail)
        go_wp2_with fail
        go_roundg 1
        case rel => exact ⟨2, by omega, by go_num, by simp, (HP.out _ _).1, (HP.out _ _).2⟩
        case measure => omega
      · obtain rfl : gk = 1 := by omega
        go_wp2_with fail
        go_quiet (fail)
        go_wp2_with fail
        go_roundg 0
        case rel => exact ⟨3, by omega, by go_num, by simp, (HP.out _ _).1, (HP.out _ _).2⟩
        case measure => omega
      · obtain rfl : gk = 0 := by omega
        go_wp2_with fail
        go_ret
        exact ⟨ret_int (by first | rfl | exact Int.tdiv_eq_ediv_of_nonneg sn), HB.out⟩
  · clear HK
    go_enter Tryd.func87, Tryd.ntmps87
    go_wp2_with (refine wpList_load_mid rfl 122 (.tmp 12) rfl q 0 rfl (cor18 a b c) _ HR.out Tryd.underlying122 rfl Tryd.info3cor ?_)
    go_loopg [7, 14] 3 (fun m sum i wr => ∃ j : Nat, j + m = 3 ∧ i = .int .i64 j ∧ sum = .int .i64 (if j = 0 then 0 else if j = 1 then u * a.g else if j = 2 then u * a.g + v * b.g else u * a.g + v * b.g + w' * c.g) ∧
      wr.heap[w.heap.size]? = some (.cells #[.int .i64 u, .int .i64 v, .int .i64 w'] 174 (0, 0)) ∧ Below w.heap.size w wr)
    case atStart => exact ⟨0, rfl, rfl, by simp, heap_alloc_new _ _, below1⟩
    case round =>
      obtain ⟨j, hj, rfl, rfl, hp, hbel⟩ := hrel
      have hj' : j = 0 ∨ j = 1 ∨ j = 2 ∨ j = 3 := by omega
      have cq := cell_of hp
      have fp := lt_of_heap hp
      have cA : wr.cell? ⟨q, 18, none⟩ = some (.int .i64 area) := (hbel.cell (p := ⟨q, 18, none⟩) lt).trans (cell_of HQ.out 18)
      have x0 := idx0 a b c
      have x1 := idx1 a b c
      have x2 := idx2 a b c
      simp only [cor18, corV] at x0 x1 x2 ⊢
      have cx : ∀ (ob : Obj) (o : Nat), (wr.alloc ob).cell? ⟨w.heap.size, o, none⟩ = #[Value.int .i64 u, .int .i64 v, .int .i64 w'][o]? := fun ob o => (World.cell?_alloc_past _ _ _ fp).trans (cq o)
      have HP : Hid (∀ (ob : Obj) (n : Nat), ((wr.alloc ob).drewN n).heap[w.heap.size]? = some (.cells #[.int .i64 u, .int .i64 v, .int .i64 w'] 174 (0, 0)) ∧ Below w.heap.size w ((wr.alloc ob).drewN n)) :=
        fun ob n => ⟨(heap_alloc_old fp ob).trans hp, (hbel.alloc (Nat.le_of_lt fp) ob).drewN' n⟩
      have HB : Hid (Below w.heap.size w wr) := hbel
      clear hp hbel HR
      rcases hj' with rfl | rfl | rfl | rfl
      · obtain rfl : gk = 3 := by omega
        go_wp2_with fail
        go_quiet (fail)
        go_wp2_with fail
        go_roundg 2
        case rel => exact ⟨1, by omega, by go_num, by simp, (HP.out _ _).1, (HP.out _ _).2⟩
        case measure => omega
      · obtain rfl : gk = 2 := by omega
        go_wp2_with fail
        go_quiet (fail)
        go_wp2_with fail
        go_roundg 1
        case rel => exact ⟨2, by omega, by go_num, by simp, (HP.out _ _).1, (HP.out _ _).2⟩
        case measure => omega
      · obtain rfl : gk = 1 := by omega
        go_wp2_with fail
        go_quiet (fail)
        go_wp2_with fail
        go_roundg 0
        case rel => exact ⟨3, by omega, by go_num, by simp, (HP.out _ _).1, (HP.out _ _).2⟩
        case measure => omega
      · obtain rfl : gk = 0 := by omega
        go_wp2_with fail
        go_ret
        exact ⟨ret_int (by first | rfl | exact Int.tdiv_eq_ediv_of_nonneg sn), HB.out⟩
  · clear HK
    go_enter Tryd.func87, Tryd.ntmps87
    go_wp2_with (refine wpList_load_mid rfl 122 (.tmp 12) rfl q 0 rfl (cor18 a b c) _ HR.out Tryd.underlying122 rfl Tryd.info3cor ?_)
    go_loopg [7, 14] 3 (fun m sum i wr => ∃ j : Nat, j + m = 3 ∧ i = .int .i64 j ∧ sum = .int .i64 (if j = 0 then 0 else if j = 1 then u * a.b else if j = 2 then u * a.b + v * b.b else u * a.b + v * b.b + w' * c.b) ∧
      wr.heap[w.heap.size]? = some (.cells #[.int .i64 u, .int .i64 v, .int .i64 w'] 174 (0, 0)) ∧ Below w.heap.size w wr)
    case atStart => exact ⟨0, rfl, rfl, by simp, heap_alloc_new _ _, below1⟩
    case round =>
      obtain ⟨j, hj, rfl, rfl, hp, hbel⟩ := hrel
      have hj' : j = 0 ∨ j = 1 ∨ j = 2 ∨ j = 3 := by omega
      have cq := cell_of hp
      have fp := lt_of_heap hp
      have cA : wr.cell? ⟨q, 18, none⟩ = some (.int .i64 area) := (hbel.cell (p := ⟨q, 18, none⟩) lt).trans (cell_of HQ.out 18)
      have x0 := idx0 a b c
      have x1 := idx1 a b c
      have x2 := idx2 a b c
      simp only [cor18, corV] at x0 x1 x2 ⊢
      have cx : ∀ (ob : Obj) (o : Nat), (wr.alloc ob).cell? ⟨w.heap.size, o, none⟩ = #[Value.int .i64 u, .int .i64 v, .int .i64 w'][o]? := fun ob o => (World.cell?_alloc_past _ _ _ fp).trans (cq o)
      have HP : Hid (∀ (ob : Obj) (n : Nat), ((wr.alloc ob).drewN n).heap[w.heap.size]? = some (.cells #[.int .i64 u, .int .i64 v, .int .i64 w'] 174 (0, 0)) ∧ Below w.heap.size w ((wr.alloc ob).drewN n)) :=
        fun ob n => ⟨(heap_alloc_old fp ob).trans hp, (hbel.alloc (Nat.le_of_lt fp) ob).drewN' n⟩
      have HB : Hid (Below w.heap.size w wr) := hbel
      clear hp hbel HR
      rcases hj' with rfl | rfl | rfl | rfl
      · obtain rfl : gk = 3 := by omega
        go_wp2_with fail
        go_quiet (fail)
        go_wp2_with fail
        go_roundg 2
        case rel => exact ⟨1, by omega, by go_num, by simp, (HP.out _ _).1, (HP.out _ _).2⟩
        case measure => omega
      · obtain rfl : gk = 2 := by omega
        go_wp2_with fail
        go_quiet (fail)
        go_wp2_with fail
        go_roundg 1
        case rel => exact ⟨2, by omega, by go_num, by simp, (HP.out _ _).1, (HP.out _ _).2⟩
        case measure => omega
      · obtain rfl : gk = 1 := by omega
        go_wp2_with fail
        go_quiet (fail)
        go_wp2_with fail
        go_roundg 0
        case rel => exact ⟨3, by omega, by go_num, by simp, (HP.out _ _).1, (HP.out _ _).2⟩
        case measure => omega
      · obtain rfl : gk = 0 := by omega
        go_wp2_with fail
        go_ret
        exact ⟨ret_int (by first | rfl | exact Int.tdiv_eq_ediv_of_nonneg sn), HB.out⟩
  · clear HK
    go_enter Tryd.func87, Tryd.ntmps87
    go_wp2_with (refine wpList_load_mid rfl 122 (.tmp 12) rfl q 0 rfl (cor18 a b c) _ HR.out Tryd.underlying122 rfl Tryd.info3cor ?_)
    go_loopg [7, 14] 3 (fun m sum i wr => ∃ j : Nat, j + m = 3 ∧ i = .int .i64 j ∧ sum = .int .i64 (if j = 0 then 0 else if j = 1 then u * a.d else if j = 2 then u * a.d + v * b.d else u * a.d + v * b.d + w' * c.d) ∧
      wr.heap[w.heap.size]? = some (.cells #[.int .i64 u, .int .i64 v, .int .i64 w'] 174 (0, 0)) ∧ Below w.heap.size w wr)
    case atStart => exact ⟨0, rfl, rfl, by simp, heap_alloc_new _ _, below1⟩
    case round =>
      obtain ⟨j, hj, rfl, rfl, hp, hbel⟩ := hrel
      have hj' : j = 0 ∨ j = 1 ∨ j = 2 ∨ j = 3 := by omega
      have cq := cell_of hp
      have fp := lt_of_heap hp
      have cA : wr.cell? ⟨q, 18, none⟩ = some (.int .i64 area) := (hbel.cell (p := ⟨q, 18, none⟩) lt).trans (cell_of HQ.out 18)
      have x0 := idx0 a b c
      have x1 := idx1 a b c
      have x2 := idx2 a b c
      simp only [cor18, corV] at x0 x1 x2 ⊢
      have cx : ∀ (ob : Obj) (o : Nat), (wr.alloc ob).cell? ⟨w.heap.size, o, none⟩ = #[Value.int .i64 u, .int .i64 v, .int .i64 w'][o]? := fun ob o => (World.cell?_alloc_past _ _ _ fp).trans (cq o)
      have HP : Hid (∀ (ob : Obj) (n : Nat), ((wr.alloc ob).drewN n).heap[w.heap.size]? = some (.cells #[.int .i64 u, .int .i64 v, .int .i64 w'] 174 (0, 0)) ∧ Below w.heap.size w ((wr.alloc ob).drewN n)) :=
        fun ob n => ⟨(heap_alloc_old fp ob).trans hp, (hbel.alloc (Nat.le_of_lt fp) ob).drewN' n⟩
      have HB : Hid (Below w.heap.size w wr) := hbel
      clear hp hbel HR
      rcases hj' with rfl | rfl | rfl | rfl
      · obtain rfl : gk = 3 := by omega
        go_wp2_with fail
        go_quiet (fail)
        go_wp2_with fail
        go_roundg 2
        case rel => exact ⟨1, by omega, by go_num, by simp, (HP.out _ _).1, (HP.out _ _).2⟩
        case measure => omega
      · obtain rfl : gk = 2 := by omega
        go_wp2_with fail
        go_quiet (fail)
        go_wp2_with fail
        go_roundg 1
        case rel => exact ⟨2, by omega, by go_num, by simp, (HP.out _ _).1, (HP.out _ _).2⟩
        case measure => omega
      · obtain rfl : gk = 1 := by omega
        go_wp2_with fail
        go_quiet (fail)
        go_wp2_with fail
        go_roundg 0
        case rel => exact ⟨3, by omega, by go_num, by simp, (HP.out _ _).1, (HP.out _ _).2⟩
        case measure => omega
      · obtain rfl : gk = 0 := by omega
        go_wp2_with fail
        go_ret
        exact ⟨ret_int (by first | rfl | exact Int.tdiv_eq_ediv_of_nonneg sn), HB.out⟩
end Go.Proofs.YtifloehpdkfchaaDoor

namespace Go.Proofs.YtifloehpdkfchaaDoor
open Go.RowKit

@[reducible] def smpV (x y r g b d : Int) : Value := .agg #[.int .i64 x, .int .i64 y, .int .u8 r, .int .u8 g, .int .u8 b, .int .u16 d]

def SmpPost (a b c : Cor) (area x y : Int) (w : World) (e : Ending) (w' : World) : Prop :=
  ((covB a b c x y = false ∧ ∃ v, e = .returned (.tuple #[v, .bool false]) ∧ v = smpV 0 0 0 0 0 0) ∨
    (covB a b c x y = true ∧ e = .returned (.tuple #[smpV x y (pix a b c area x y).r (pix a b c area x y).g (pix a b c area x y).b (pix a b c area x y).d, .bool true]))) ∧ Below w.heap.size w w'

/-- While a sample's colours are reckoned: S is its block, j of them are there. -/
structure SmpInv (q : Nat) (a b c : Cor) (area : Int) (front : Bool) (x y u v w' r g bl d : Int) (w : World) (P S : Nat) (j : Nat) (wr : World) : Prop where
  hq : wr.heap[q]? = some (.cells (trc a b c area front) 124 (0, 0))
  res : wr.heap[w.heap.size]? = some (.cells #[.int .i64 0, .int .i64 0, .int .u8 0, .int .u8 0, .int .u8 0, .int .u16 0] 167 (0, 0))
  pt : wr.heap[P]? = some (.cells #[.int .i64 u, .int .i64 v, .int .i64 w'] 174 (0, 0))
  sm : wr.heap[S]? = some (.cells #[.int .i64 x, .int .i64 y, .int .u8 (if 0 < j then r else 0), .int .u8 (if 1 < j then g else 0), .int .u8 (if 2 < j then bl else 0), .int .u16 d] 167 (0, 0))
  bel : Below w.heap.size w wr

set_option maxRecDepth 100000 in
set_option maxHeartbeats 1000000 in
theorem sample_any (q : Nat) (a b c : Cor) (area : Int) (front : Bool) (x y : Int) (w : World) (hq : w.heap[q]? = some (.cells (trc a b c area front) 124 (0, 0)))
    (ha : a.Ok) (hb : b.Ok) (hc : c.Ok) (harea : edge a b c.x c.y = area) (hpos : 0 < area) (x0 : 0 ≤ x) (x1 : x < 24) (y0 : 0 ≤ y) (y1 : y < 24) :
    Calls Tryd.prog 82 #[.pointer (some ⟨q, 0, none⟩), .int .i64 x, .int .i64 y] w (SmpPost a b c area x y w) := by
  have lt := lt_of_heap hq
  have hmid := fun w' => middle_any x y w' (by omega) (by omega) (by omega) (by omega)
  have hwt := fun (w' : World) (h : w'.heap[q]? = some (.cells (trc a b c area front) 124 (0, 0))) => weights_any q a b c area front (16 * x + 8) (16 * y + 8) w' h ha hb hc (by omega) (by omega) (by omega) (by omega)
  have HM : Hid (∀ w', Calls Tryd.prog 86 #[.int .i64 x, .int .i64 y] w' fun e w'' => e = .returned (.agg #[.int .i64 (16 * x + 8), .int .i64 (16 * y + 8)]) ∧ Below w'.heap.size w' w'') := hmid
  have HW : Hid (∀ w' : World, w'.heap[q]? = some (.cells (trc a b c area front) 124 (0, 0)) → Calls Tryd.prog 85 #[.pointer (some ⟨q, 0, none⟩), .agg #[.int .i64 (16 * x + 8), .int .i64 (16 * y + 8)]] w' (WtPost a b c (16 * x + 8) (16 * y + 8) w')) := hwt
  have HQ : Hid (w.heap[q]? = some (.cells (trc a b c area front) 124 (0, 0))) := hq
  clear hmid hwt hq
  go_enter Tryd.func82, Tryd.ntmps82
  go_wp2_with fail
  refine (HM.out _).mono ?_
  rintro e w1 ⟨rfl, hb1⟩
  have hr1 : w1.heap[w.heap.size]? = some (.cells #[.int .i64 0, .int .i64 0, .int .u8 0, .int .u8 0, .int .u8 0, .int .u16 0] 167 (0, 0)) := (hb1.block _ (by simp)).trans (heap_alloc_new _ _)
  have bel1 : Below w.heap.size w w1 := below1.trans (hb1.mono (by simp))
  have hq1 : w1.heap[q]? = some (.cells (trc a b c area front) 124 (0, 0)) := (bel1.block _ lt).trans HQ.out
  clear hb1
  go_wp2_with fail
  refine (HW.out _ hq1).mono ?_
  rintro e w2 ⟨⟨p0, p1, p2, cov, rfl, hcov, hp⟩, hb2⟩
  have l1 := lt_of_heap hr1
  have hr2 := (hb2.block _ l1).trans hr1
  have hq2 := (hb2.block _ (lt_of_heap hq1)).trans hq1
  have bel2 : Below w.heap.size w w2 := bel1.trans (hb2.mono bel1.size)
  have hcv : cov = covB a b c x y := hcov
  clear hcov hr1 hq1 bel1 hb2 HM HW HQ
  cases cov
  · clear hp
    have cr := cell_of hr2
    have fr := frozen_of hr2
    have l2 := lt_of_heap hr2
    have HC : Hid (covB a b c x y = false) := hcv.symm
    have HR : Hid (w2.heap[w.heap.size]? = some (.cells #[.int .i64 0, .int .i64 0, .int .u8 0, .int .u8 0, .int .u8 0, .int .u16 0] 167 (0, 0))) := hr2
    clear hcv hr2
    go_wp2_with fail
    have ca : ∀ (W : World) (ob : Obj) (o : Nat), W.heap.size = w2.heap.size → (W.alloc ob).cell? ⟨w.heap.size, o, none⟩ = W.cell? ⟨w.heap.size, o, none⟩ := fun W ob o h => World.cell?_alloc_past _ _ _ (by show w.heap.size < W.heap.size; omega)
    refine bodyPost_ret (v := .tuple #[smpV 0 0 0 0 0 0, .bool false]) (by simp [results, Tryd.results82, go_sem, ca, cr]) rfl ?_
    refine ⟨.inl ⟨HC.out, _, rfl, rfl⟩, ?_⟩
    repeat (first | with_reducible exact bel2 | (with_reducible refine Below.alloc ?_ (by first | exact Nat.le_of_lt l2 | (simp only [hs_set]; omega)) _) | (with_reducible refine Below.setCell ?_ (by first | exact Nat.le_refl _ | (show w.heap.size ≤ w2.heap.size; omega)) _))
  · obtain ⟨rfl, rfl, rfl⟩ := hp rfl
    have hcb : covB a b c x y = true := hcv.symm
    have hok := pix_ok a b c area x y ha hb hc harea hpos hcb
    obtain ⟨n1, n2, n3⟩ := cov_parts hcb
    have b1 := edge_bound b c (16 * x + 8) (16 * y + 8) hb hc (by omega) (by omega) (by omega) (by omega)
    have b2 := edge_bound c a (16 * x + 8) (16 * y + 8) hc ha (by omega) (by omega) (by omega) (by omega)
    have b3 := edge_bound a b (16 * x + 8) (16 * y + 8) ha hb (by omega) (by omega) (by omega) (by omega)
    have hd : pix a b c area x y = mix a b c area (edge b c (16 * x + 8) (16 * y + 8)) (edge c a (16 * x + 8) (16 * y + 8)) (edge a b (16 * x + 8) (16 * y + 8)) := rfl
    generalize edge b c (16 * x + 8) (16 * y + 8) = u at *
    generalize edge c a (16 * x + 8) (16 * y + 8) = v at *
    generalize edge a b (16 * x + 8) (16 * y + 8) = w' at *
    have m0 := mean_room u v w' a.r b.r c.r n1 b1.2 n2 b2.2 n3 b3.2 ha.r0 (by have := ha.r1; omega) hb.r0 (by have := hb.r1; omega) hc.r0 (by have := hc.r1; omega)
    have m1 := mean_room u v w' a.g b.g c.g n1 b1.2 n2 b2.2 n3 b3.2 ha.g0 (by have := ha.g1; omega) hb.g0 (by have := hb.g1; omega) hc.g0 (by have := hc.g1; omega)
    have m2 := mean_room u v w' a.b b.b c.b n1 b1.2 n2 b2.2 n3 b3.2 ha.b0 (by have := ha.b1; omega) hb.b0 (by have := hb.b1; omega) hc.b0 (by have := hc.b1; omega)
    have m3 := mean_room u v w' a.d b.d c.d n1 b1.2 n2 b2.2 n3 b3.2 ha.d0 ha.d1 hb.d0 hb.d1 hc.d0 hc.d1
    have HB0 : Hid (∀ w3 : World, w3.heap[q]? = some (.cells (trc a b c area front) 124 (0, 0)) → Calls Tryd.prog 87 #[.pointer (some ⟨q, 0, none⟩), .agg #[.int .i64 u, .int .i64 v, .int .i64 w'], .int .i64 0] w3 fun e w4 => e = .returned (.int .i64 (pix a b c area x y).r) ∧ Below w3.heap.size w3 w4) := by
      intro w3 h3; rw [hd]; exact between_any q a b c area front u v w' 0 a.r b.r c.r w3 h3 (.inl ⟨rfl, rfl, rfl, rfl⟩) hpos m0.1 m0.2.1 m0.2.2
    have HB1 : Hid (∀ w3 : World, w3.heap[q]? = some (.cells (trc a b c area front) 124 (0, 0)) → Calls Tryd.prog 87 #[.pointer (some ⟨q, 0, none⟩), .agg #[.int .i64 u, .int .i64 v, .int .i64 w'], .int .i64 1] w3 fun e w4 => e = .returned (.int .i64 (pix a b c area x y).g) ∧ Below w3.heap.size w3 w4) := by
      intro w3 h3; rw [hd]; exact between_any q a b c area front u v w' 1 a.g b.g c.g w3 h3 (.inr (.inl ⟨rfl, rfl, rfl, rfl⟩)) hpos m1.1 m1.2.1 m1.2.2
    have HB2 : Hid (∀ w3 : World, w3.heap[q]? = some (.cells (trc a b c area front) 124 (0, 0)) → Calls Tryd.prog 87 #[.pointer (some ⟨q, 0, none⟩), .agg #[.int .i64 u, .int .i64 v, .int .i64 w'], .int .i64 2] w3 fun e w4 => e = .returned (.int .i64 (pix a b c area x y).b) ∧ Below w3.heap.size w3 w4) := by
      intro w3 h3; rw [hd]; exact between_any q a b c area front u v w' 2 a.b b.b c.b w3 h3 (.inr (.inr (.inl ⟨rfl, rfl, rfl, rfl⟩))) hpos m2.1 m2.2.1 m2.2.2
    have HB3 : Hid (∀ w3 : World, w3.heap[q]? = some (.cells (trc a b c area front) 124 (0, 0)) → Calls Tryd.prog 87 #[.pointer (some ⟨q, 0, none⟩), .agg #[.int .i64 u, .int .i64 v, .int .i64 w'], .int .i64 3] w3 fun e w4 => e = .returned (.int .i64 (pix a b c area x y).d) ∧ Below w3.heap.size w3 w4) := by
      intro w3 h3; rw [hd]; exact between_any q a b c area front u v w' 3 a.d b.d c.d w3 h3 (.inr (.inr (.inr ⟨rfl, rfl, rfl, rfl⟩))) hpos m3.1 m3.2.1 m3.2.2
    have HC : Hid (covB a b c x y = true ∧ ∀ w3, Below w.heap.size w w3 → SmpPost a b c area x y w (.returned (.tuple #[smpV x y (pix a b c area x y).r (pix a b c area x y).g (pix a b c area x y).b (pix a b c area x y).d, .bool true])) w3) :=
      ⟨hcb, fun w3 h3 => ⟨.inr ⟨hcb, rfl⟩, h3⟩⟩
    have wr8 : IntKind.u8.wrap (pix a b c area x y).r = (pix a b c area x y).r := k8 ⟨hok.r0, hok.r1⟩
    have wg8 : IntKind.u8.wrap (pix a b c area x y).g = (pix a b c area x y).g := k8 ⟨hok.g0, hok.g1⟩
    have wb8 : IntKind.u8.wrap (pix a b c area x y).b = (pix a b c area x y).b := k8 ⟨hok.b0, hok.b1⟩
    have wd16 : IntKind.u16.wrap (pix a b c area x y).d = (pix a b c area x y).d := IntWalk.u16_in _ ⟨hok.d0, hok.d1⟩
    generalize (pix a b c area x y).r = R at *
    generalize (pix a b c area x y).g = G at *
    generalize (pix a b c area x y).b = B at *
    generalize (pix a b c area x y).d = Z at *
    clear m0 m1 m2 m3 hd hok b1 b2 b3 n1 n2 n3 hcb hcv hp ha hb hc harea
    have l2 := lt_of_heap hr2
    have HQ2 : Hid (∀ ob, (w2.alloc ob).heap[q]? = some (.cells (trc a b c area front) 124 (0, 0))) := fun ob => (heap_alloc_old (by omega) ob).trans hq2
    have HR2 : Hid (w2.heap[w.heap.size]? = some (.cells #[.int .i64 0, .int .i64 0, .int .u8 0, .int .u8 0, .int .u8 0, .int .u16 0] 167 (0, 0))) := hr2
    clear hq2 hr2
    go_wp2_with fail
    refine (HB3.out _ (HQ2.out _)).mono ?_
    rintro e w3 ⟨rfl, hb3⟩
    have hs3 := hb3.size
    have hp3 : w3.heap[w2.heap.size]? = some (.cells #[.int .i64 u, .int .i64 v, .int .i64 w'] 174 (0, 0)) := (hb3.block _ (by simp)).trans (heap_alloc_new _ _)
    have hr3 : w3.heap[w.heap.size]? = some (.cells #[.int .i64 0, .int .i64 0, .int .u8 0, .int .u8 0, .int .u8 0, .int .u16 0] 167 (0, 0)) := (hb3.block _ (by simp; omega)).trans ((heap_alloc_old l2 _).trans HR2.out)
    have hq3 : w3.heap[q]? = some (.cells (trc a b c area front) 124 (0, 0)) := (hb3.block _ (by simp; omega)).trans (HQ2.out _)
    have bel3 : Below w.heap.size w w3 := (bel2.alloc (Nat.le_of_lt l2) _).trans (hb3.mono (by simp; omega))
    have l3 := lt_of_heap hp3
    have HI : Hid (SmpInv q a b c area front x y u v w' R G B Z w w2.heap.size w3.heap.size 0 (w3.alloc (.cells #[.int .i64 x, .int .i64 y, .int .u8 0, .int .u8 0, .int .u8 0, .int .u16 Z] 167))) :=
      ⟨(heap_alloc_old (by omega) _).trans hq3, (heap_alloc_old (by omega) _).trans hr3, (heap_alloc_old l3 _).trans hp3, heap_alloc_new _ _, bel3.alloc (by omega) _⟩
    clear hb3 hp3 hr3 hq3 bel3 hs3
    go_wp2_with fail
    go_loopg [30] 3 (fun m i wr => ∃ j : Nat, j + m = 3 ∧ i = .int .i64 j ∧ SmpInv q a b c area front x y u v w' R G B Z w w2.heap.size w3.heap.size j wr)
    case atStart => exact ⟨0, rfl, rfl, HI.out⟩
    case round =>
      obtain ⟨j, hj, rfl, hI⟩ := hrel
      have hj' : j = 0 ∨ j = 1 ∨ j = 2 ∨ j = 3 := by omega
      clear HI
      rcases hj' with rfl | rfl | rfl | rfl
      · obtain rfl : gk = 3 := by omega
        have cP := cell_of hI.pt
        have HIq : Hid (wr.heap[q]? = some (.cells (trc a b c area front) 124 (0, 0))) := hI.hq
        have HIh : Hid (SmpInv q a b c area front x y u v w' R G B Z w w2.heap.size w3.heap.size 0 wr) := hI
        clear hI
        go_wp2_with fail
        refine (HB0.out _ HIq.out).mono ?_
        rintro e w4 ⟨rfl, hb4⟩
        have hS4 : w4.heap[w3.heap.size]? = some (.cells #[.int .i64 x, .int .i64 y, .int .u8 0, .int .u8 0, .int .u8 0, .int .u16 Z] 167 (0, 0)) := (hb4.block _ (lt_of_heap HIh.out.sm)).trans (by simpa using HIh.out.sm)
        have cS := cell_of hS4
        have fS := frozen_of hS4
        have HN : Hid (SmpInv q a b c area front x y u v w' R G B Z w w2.heap.size w3.heap.size 1 (w4.setCell ⟨w3.heap.size, 2, none⟩ (.int .u8 R))) := by
          have h := HIh.out
          refine ⟨?_, ?_, ?_, ?_, ?_⟩
          · rw [heap_set_ne (by omega)]; exact (hb4.block _ (lt_of_heap h.hq)).trans h.hq
          · rw [heap_set_ne (by omega)]; exact (hb4.block _ (lt_of_heap h.res)).trans h.res
          · rw [heap_set_ne (by omega)]; exact (hb4.block _ (lt_of_heap h.pt)).trans h.pt
          · rw [heap_set_same hS4]; simp
          · exact (h.bel.trans (hb4.mono h.bel.size)).setCell (by show w.heap.size ≤ w3.heap.size; omega) _
        clear hS4 hb4 HIh HIq
        go_wp2_with fail
        go_roundg 2
        case rel => exact ⟨1, by omega, by go_num, HN.out⟩
        case measure => omega
      · obtain rfl : gk = 2 := by omega
        have cP := cell_of hI.pt
        have HIq : Hid (wr.heap[q]? = some (.cells (trc a b c area front) 124 (0, 0))) := hI.hq
        have HIh : Hid (SmpInv q a b c area front x y u v w' R G B Z w w2.heap.size w3.heap.size 1 wr) := hI
        clear hI
        go_wp2_with fail
        refine (HB1.out _ HIq.out).mono ?_
        rintro e w4 ⟨rfl, hb4⟩
        have hS4 : w4.heap[w3.heap.size]? = some (.cells #[.int .i64 x, .int .i64 y, .int .u8 R, .int .u8 0, .int .u8 0, .int .u16 Z] 167 (0, 0)) := (hb4.block _ (lt_of_heap HIh.out.sm)).trans (by simpa using HIh.out.sm)
        have cS := cell_of hS4
        have fS := frozen_of hS4
        have HN : Hid (SmpInv q a b c area front x y u v w' R G B Z w w2.heap.size w3.heap.size 2 (w4.setCell ⟨w3.heap.size, 3, none⟩ (.int .u8 G))) := by
          have h := HIh.out
          refine ⟨?_, ?_, ?_, ?_, ?_⟩
          · rw [heap_set_ne (by omega)]; exact (hb4.block _ (lt_of_heap h.hq)).trans h.hq
          · rw [heap_set_ne (by omega)]; exact (hb4.block _ (lt_of_heap h.res)).trans h.res
          · rw [heap_set_ne (by omega)]; exact (hb4.block _ (lt_of_heap h.pt)).trans h.pt
          · rw [heap_set_same hS4]; simp
          · exact (h.bel.trans (hb4.mono h.bel.size)).setCell (by show w.heap.size ≤ w3.heap.size; omega) _
        clear hS4 hb4 HIh HIq
        go_wp2_with fail
        go_roundg 1
        case rel => exact ⟨2, by omega, by go_num, HN.out⟩
        case measure => omega
      · obtain rfl : gk = 1 := by omega
        have cP := cell_of hI.pt
        have HIq : Hid (wr.heap[q]? = some (.cells (trc a b c area front) 124 (0, 0))) := hI.hq
        have HIh : Hid (SmpInv q a b c area front x y u v w' R G B Z w w2.heap.size w3.heap.size 2 wr) := hI
        clear hI
        go_wp2_with fail
        refine (HB2.out _ HIq.out).mono ?_
        rintro e w4 ⟨rfl, hb4⟩
        have hS4 : w4.heap[w3.heap.size]? = some (.cells #[.int .i64 x, .int .i64 y, .int .u8 R, .int .u8 G, .int .u8 0, .int .u16 Z] 167 (0, 0)) := (hb4.block _ (lt_of_heap HIh.out.sm)).trans (by simpa using HIh.out.sm)
        have cS := cell_of hS4
        have fS := frozen_of hS4
        have HN : Hid (SmpInv q a b c area front x y u v w' R G B Z w w2.heap.size w3.heap.size 3 (w4.setCell ⟨w3.heap.size, 4, none⟩ (.int .u8 B))) := by
          have h := HIh.out
          refine ⟨?_, ?_, ?_, ?_, ?_⟩
          · rw [heap_set_ne (by omega)]; exact (hb4.block _ (lt_of_heap h.hq)).trans h.hq
          · rw [heap_set_ne (by omega)]; exact (hb4.block _ (lt_of_heap h.res)).trans h.res
          · rw [heap_set_ne (by omega)]; exact (hb4.block _ (lt_of_heap h.pt)).trans h.pt
          · rw [heap_set_same hS4]; simp
          · exact (h.bel.trans (hb4.mono h.bel.size)).setCell (by show w.heap.size ≤ w3.heap.size; omega) _
        clear hS4 hb4 HIh HIq
        go_wp2_with fail
        go_roundg 0
        case rel => exact ⟨3, by omega, by go_num, HN.out⟩
        case measure => omega
      · obtain rfl : gk = 0 := by omega
        have cS := cell_of hI.sm
        have cR := cell_of hI.res
        have fR := frozen_of hI.res
        have bel := hI.bel
        simp at cS
        clear hI
        have hne : w3.heap.size ≠ w.heap.size := by omega
        go_wp2_with fail
        refine bodyPost_ret (v := .tuple #[smpV x y R G B Z, .bool true]) (by simp [results, Tryd.results82, go_sem, cR]) rfl ?_
        refine HC.out.2 _ ?_
        repeat (first | with_reducible exact bel | (with_reducible refine Below.setCell ?_ (by exact Nat.le_refl _) _))
end Go.Proofs.YtifloehpdkfchaaDoor
