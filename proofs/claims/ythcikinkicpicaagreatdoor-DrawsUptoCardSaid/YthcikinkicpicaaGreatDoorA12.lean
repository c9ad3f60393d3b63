import Derived.Test.YthcikinkicpicaaGreatDoorA11
import Derived.Deep.DeepCutAuto
import Derived.Deep.CutRange

namespace Go.Proofs.YthcikinkicpicaaGreatDoor
open Go.RowKit

/-- While the depths' span is made. -/
structure DpI (w : World) (C : Nat) (lo hi : Int) (wr : World) : Prop where
  res : wr.heap[w.heap.size]? = some (.cells #[.int .u16 0, .int .u16 0] 221 (0, 0))
  all : wr.heap[C]? = some (.cells #[.int .u16 lo, .int .u16 hi] 221 (0, 0))
  ge : w.heap.size < C
  bel : Below w.heap.size w wr
theorem DpI.below {w : World} {C : Nat} {lo hi : Int} {wr w1 : World} (h : DpI w C lo hi wr) (hb : Below wr.heap.size wr w1) : DpI w C lo hi w1 :=
  ⟨(hb.block _ (lt_of_heap h.res)).trans h.res, (hb.block _ (lt_of_heap h.all)).trans h.all, h.ge, h.bel.trans (hb.mono h.bel.size)⟩
theorem DpI.set {w : World} {C : Nat} {lo hi lo' hi' : Int} {wr : World} (h : DpI w C lo hi wr) : DpI w C lo' hi' ((wr.setCell ⟨C, 0, none⟩ (.int .u16 lo')).setCell ⟨C, 1, none⟩ (.int .u16 hi')) := by
  have hg := h.ge
  refine ⟨?_, ?_, h.ge, (h.bel.setCell (p := ⟨C, 0, none⟩) (by show w.heap.size ≤ C; omega) _).setCell (p := ⟨C, 1, none⟩) (by show w.heap.size ≤ C; omega) _⟩
  · rw [heap_set_ne (by omega), heap_set_ne (by omega)]; exact h.res
  · exact (heap_set_same (heap_set_same h.all 0 _) 1 _).trans rfl

set_option maxRecDepth 100000 in
set_option maxHeartbeats 1000000 in
theorem depths_any (q : Nat) (a b c : Cor) (area : Int) (front : Fr) (w : World) (hq : w.heap[q]? = some (.cells (trc a b c area front) 165 (0, 0))) (ha : a.Ok) (hb : b.Ok) (hc : c.Ok) :
    Calls Tryz.prog 125 #[.pointer (some ⟨q, 0, none⟩)] w fun e w2 => e = .returned (spn16 (min (min a.d b.d) c.d) (max (max a.d b.d) c.d)) ∧ Below w.heap.size w w2 := by
  have lt := lt_of_heap hq
  have HQ : Hid (w.heap[q]? = some (.cells (trc a b c area front) 165 (0, 0))) := hq
  have u1 : IntKind.u16.wrap a.d = a.d := by rw [IntKind.wrap_u16]; have := ha.d0; have := ha.d1; omega
  have u2 : IntKind.u16.wrap b.d = b.d := by rw [IntKind.wrap_u16]; have := hb.d0; have := hb.d1; omega
  have u3 : IntKind.u16.wrap c.d = c.d := by rw [IntKind.wrap_u16]; have := hc.d0; have := hc.d1; omega
  have HS : Hid (∀ n W, Calls Tryz.prog 140 #[.int .u16 n] W fun e w' => e = .returned (spn16 n n) ∧ Below W.heap.size W w') := spanOf16
  obtain ⟨LO, hLO⟩ : ∃ LO, min (min a.d b.d) c.d = LO := ⟨_, rfl⟩
  obtain ⟨HH, hHH⟩ : ∃ HH, max (max a.d b.d) c.d = HH := ⟨_, rfl⟩
  rw [hLO, hHH]
  have HW : Hid (∀ l h n W, Calls Tryz.prog 141 #[spn16 l h, .int .u16 n] W fun e w' => e = .returned (spn16 (mn l n) (mx h n)) ∧ Below W.heap.size W w') := with16
  have c5 : ∀ ob, (w.alloc ob).cell? ⟨q, 5, none⟩ = some (.int .i64 a.d) := fun ob => (World.cell?_alloc_past _ _ _ lt).trans (cell_of hq 5)
  have HR : Hid (∀ W, Below w.heap.size w W → W.rangeAt q 0 (cor18 a b c)) := fun W hW => trc_range ((hW.block _ lt).trans HQ.out)
  have HE : Hid (mn (mn (mn a.d a.d) b.d) c.d = LO ∧ mx (mx (mx a.d a.d) b.d) c.d = HH) := ⟨by unfold mn; omega, by unfold mx; omega⟩
  clear hq ha hb hc hLO hHH
  have HI : Hid (∀ w1, Below (w.alloc (.cells #[.int .u16 0, .int .u16 0] 221)).heap.size (w.alloc (.cells #[.int .u16 0, .int .u16 0] 221)) w1 → DpI w w1.heap.size a.d a.d (w1.alloc (.cells #[.int .u16 a.d, .int .u16 a.d] 221))) := by
    intro w1 hb1
    have l1 := hb1.size
    rw [World.size_alloc] at l1
    refine ⟨(heap_alloc_old (by omega) _).trans ((hb1.block _ (by simp)).trans (heap_alloc_new _ _)), heap_alloc_new _ _, by omega, (below1.trans (hb1.mono (by simp))).alloc (by omega) _⟩
  go_enter Tryz.func125, Tryz.ntmps125
  go_wp2_with (first
    | (go_at_call 140; refine (HS.out _ _).mono ?_; rintro e w1 ⟨rfl, hb1⟩)
    | (refine wpList_load_mid rfl 163 (.tmp 17) rfl q 0 rfl (cor18 a b c) _ (HR.out _ (HI.out _ hb1).bel) Tryz.underlying163 rfl Tryz.info3cor ?_))
  have hI := HI.out _ hb1
  clear HI hb1
  generalize w1.heap.size = C at *
  go_loopg [19] 3 (fun m i wr => ∃ j : Nat, j + m = 3 ∧ i = .int .i64 j ∧ DpI w C (if j = 0 then a.d else if j = 1 then mn a.d a.d else if j = 2 then mn (mn a.d a.d) b.d else mn (mn (mn a.d a.d) b.d) c.d) (if j = 0 then a.d else if j = 1 then mx a.d a.d else if j = 2 then mx (mx a.d a.d) b.d else mx (mx (mx a.d a.d) b.d) c.d) wr)
  case atStart => exact ⟨0, rfl, rfl, hI⟩
  case round =>
    obtain ⟨j, hj, rfl, hJ⟩ := hrel
    have hj' : j = 0 ∨ j = 1 ∨ j = 2 ∨ j = 3 := by omega
    have x0 := idx0 a b c
    have x1 := idx1 a b c
    have x2 := idx2 a b c
    simp only [cor18, corV] at x0 x1 x2 ⊢
    have HN : Hid (∀ (lo hi : Int) (wr : World) (ob : Obj), DpI w C lo hi wr → DpI w C lo hi (wr.alloc ob) ∧ (wr.alloc ob).cell? ⟨C, 0, none⟩ = some (.int .u16 lo) ∧ (wr.alloc ob).cell? ⟨C, 1, none⟩ = some (.int .u16 hi)) := fun lo hi wr ob h => by
      have h2 := h.below ((Below.refl _ wr).alloc (Nat.le_refl _) ob)
      exact ⟨h2, cell_of h2.all 0, cell_of h2.all 1⟩
    clear hI HR HS
    rcases hj' with rfl | rfl | rfl | rfl
    · obtain rfl : gk = 3 := by omega
      have HJ : Hid (DpI w C a.d a.d wr) := hJ
      clear hJ
      have ca := fun ob => (HN.out _ _ _ ob HJ.out).2.1
      have cb := fun ob => (HN.out _ _ _ ob HJ.out).2.2
      go_wp2_with (first
        | (go_at_call 141; refine (HW.out _ _ _ _).mono ?_; rintro e w2 ⟨rfl, hb2⟩; have h2 := (HN.out _ _ _ _ HJ.out).1.below hb2; have cc := cell_of h2.all; have ff := frozen_of h2.all)
        | fail)
      go_roundg 2
      case rel => exact ⟨1, by omega, by go_num, h2.set⟩
      case measure => omega
    · obtain rfl : gk = 2 := by omega
      have HJ : Hid (DpI w C (mn a.d a.d) (mx a.d a.d) wr) := hJ
      clear hJ
      have ca := fun ob => (HN.out _ _ _ ob HJ.out).2.1
      have cb := fun ob => (HN.out _ _ _ ob HJ.out).2.2
      go_wp2_with (first
        | (go_at_call 141; refine (HW.out _ _ _ _).mono ?_; rintro e w2 ⟨rfl, hb2⟩; have h2 := (HN.out _ _ _ _ HJ.out).1.below hb2; have cc := cell_of h2.all; have ff := frozen_of h2.all)
        | fail)
      go_roundg 1
      case rel => exact ⟨2, by omega, by go_num, h2.set⟩
      case measure => omega
    · obtain rfl : gk = 1 := by omega
      have HJ : Hid (DpI w C (mn (mn a.d a.d) b.d) (mx (mx a.d a.d) b.d) wr) := hJ
      clear hJ
      have ca := fun ob => (HN.out _ _ _ ob HJ.out).2.1
      have cb := fun ob => (HN.out _ _ _ ob HJ.out).2.2
      go_wp2_with (first
        | (go_at_call 141; refine (HW.out _ _ _ _).mono ?_; rintro e w2 ⟨rfl, hb2⟩; have h2 := (HN.out _ _ _ _ HJ.out).1.below hb2; have cc := cell_of h2.all; have ff := frozen_of h2.all)
        | fail)
      go_roundg 0
      case rel => exact ⟨3, by omega, by go_num, h2.set⟩
      case measure => omega
    · obtain rfl : gk = 0 := by omega
      have HJ : Hid (DpI w C (mn (mn (mn a.d a.d) b.d) c.d) (mx (mx (mx a.d a.d) b.d) c.d) wr) := hJ
      rw [HE.out.1, HE.out.2] at HJ
      clear hJ HE
      have cc := cell_of HJ.out.all
      have rr := cell_of HJ.out.res
      have fr := frozen_of HJ.out.res
      go_wp2_with fail
      refine bodyPost_ret (v := spn16 LO HH) (by simp [results, Tryz.results125, go_sem, rr]) rfl ?_
      exact ⟨rfl, (HJ.out.bel.setCell (by exact Nat.le_refl _) _).setCell (by exact Nat.le_refl _) _⟩


/-- While the bounds are made: the two spans at C and D. -/
structure BdI (w : World) (C D : Nat) (l h m n : Int) (wr : World) : Prop where
  res : wr.heap[w.heap.size]? = some (.cells #[.int .i64 0, .int .i64 0, .int .i64 0, .int .i64 0] 66 (0, 0))
  ac : wr.heap[C]? = some (.cells #[.int .i64 l, .int .i64 h] 235 (0, 0))
  dn : wr.heap[D]? = some (.cells #[.int .i64 m, .int .i64 n] 235 (0, 0))
  ge : w.heap.size < C
  ge' : w.heap.size < D
  ne : C ≠ D
  bel : Below w.heap.size w wr
theorem heap_drew (w : World) : w.drew.heap = w.heap := rfl
theorem BdI.below {w : World} {C D : Nat} {l h m n : Int} {wr w1 : World} (hi : BdI w C D l h m n wr) (hb : Below wr.heap.size wr w1) : BdI w C D l h m n w1 :=
  ⟨(hb.block _ (lt_of_heap hi.res)).trans hi.res, (hb.block _ (lt_of_heap hi.ac)).trans hi.ac, (hb.block _ (lt_of_heap hi.dn)).trans hi.dn, hi.ge, hi.ge', hi.ne, hi.bel.trans (hb.mono hi.bel.size)⟩

theorem BdI.put {w : World} {C D : Nat} {l h m n : Int} {wr : World} (hi : BdI w C D l h m n wr) (l' h' m' n' : Int) (w1 : World) (hb : Below wr.heap.size ((((wr.setCell ⟨C, 0, none⟩ (.int .i64 l')).setCell ⟨C, 1, none⟩ (.int .i64 h')).setCell ⟨D, 0, none⟩ (.int .i64 m')).setCell ⟨D, 1, none⟩ (.int .i64 n')) w1) : BdI w C D l' h' m' n' w1 := by
  have g := hi.ge
  have g' := hi.ge'
  have ne := hi.ne
  refine BdI.below (wr := (((wr.setCell ⟨C, 0, none⟩ (.int .i64 l')).setCell ⟨C, 1, none⟩ (.int .i64 h')).setCell ⟨D, 0, none⟩ (.int .i64 m')).setCell ⟨D, 1, none⟩ (.int .i64 n')) ⟨?_, ?_, ?_, hi.ge, hi.ge', hi.ne, ?_⟩ (hb.mono (by simp))
  · rw [heap_set_ne (by omega), heap_set_ne (by omega), heap_set_ne (by omega), heap_set_ne (by omega)]; exact hi.res
  · rw [heap_set_ne (by omega), heap_set_ne (by omega)]; exact (heap_set_same (heap_set_same hi.ac 0 _) 1 _).trans rfl
  · have hD : ((wr.setCell ⟨C, 0, none⟩ (.int .i64 l')).setCell ⟨C, 1, none⟩ (.int .i64 h')).heap[D]? = some (.cells #[.int .i64 m, .int .i64 n] 235 (0, 0)) := by rw [heap_set_ne (by omega), heap_set_ne (by omega)]; exact hi.dn
    exact (heap_set_same (heap_set_same hD 0 _) 1 _).trans rfl
  · exact (((hi.bel.setCell (p := ⟨C, 0, none⟩) (by show w.heap.size ≤ C; omega) _).setCell (p := ⟨C, 1, none⟩) (by show w.heap.size ≤ C; omega) _).setCell (p := ⟨D, 0, none⟩) (by show w.heap.size ≤ D; omega) _).setCell (p := ⟨D, 1, none⟩) (by show w.heap.size ≤ D; omega) _
set_option maxRecDepth 100000 in
set_option maxHeartbeats 4000000 in
theorem bounds_any (q : Nat) (a b c : Cor) (area : Int) (front : Fr) (w : World) (hq : w.heap[q]? = some (.cells (trc a b c area front) 165 (0, 0))) (ha : a.Ok) (hb : b.Ok) (hc : c.Ok) (bx : Bx) (hbx : bx = Tr.bounds ⟨a, b, c, 0, false⟩) :
    Calls Tryz.prog 116 #[.pointer (some ⟨q, 0, none⟩)] w fun e w2 => e = .returned (.agg #[.int .i64 bx.x, .int .i64 bx.y, .int .i64 bx.c, .int .i64 bx.r]) ∧ Below w.heap.size w w2 := by
  have lt := lt_of_heap hq
  have HQ : Hid (w.heap[q]? = some (.cells (trc a b c area front) 165 (0, 0))) := hq
  have HS : Hid (∀ n W, Calls Tryz.prog 135 #[.int .i64 n] W fun e w' => e = .returned (spn64 n n) ∧ w' = W.alloc (.cells #[.int .i64 n, .int .i64 n] 235)) := spanOf64x
  have HW : Hid (∀ l h n W, Calls Tryz.prog 136 #[spn64 l h, .int .i64 n] W fun e w' => e = .returned (spn64 (mn l n) (mx h n)) ∧ w' = (W.alloc (.cells #[.int .i64 l, .int .i64 h] 235)).alloc (.cells #[.int .i64 (mn l n), .int .i64 (mx h n)] 235)) := with64x
  have HR : Hid (∀ W, Below w.heap.size w W → W.rangeAt q 0 (cor18 a b c)) := fun W hW => trc_range ((hW.block _ lt).trans HQ.out)
  obtain ⟨LX, hLX⟩ : ∃ v, mn (mn (mn a.x a.x) b.x) c.x = v := ⟨_, rfl⟩
  obtain ⟨HX, hHX⟩ : ∃ v, mx (mx (mx a.x a.x) b.x) c.x = v := ⟨_, rfl⟩
  obtain ⟨LY, hLY⟩ : ∃ v, mn (mn (mn a.y a.y) b.y) c.y = v := ⟨_, rfl⟩
  obtain ⟨HY, hHY⟩ : ∃ v, mx (mx (mx a.y a.y) b.y) c.y = v := ⟨_, rfl⟩
  have HE : Hid (mn (mn (mn a.x a.x) b.x) c.x = LX ∧ mx (mx (mx a.x a.x) b.x) c.x = HX ∧ mn (mn (mn a.y a.y) b.y) c.y = LY ∧ mx (mx (mx a.y a.y) b.y) c.y = HY) := ⟨hLX, hHX, hLY, hHY⟩
  have eLX : min (min a.x b.x) c.x = LX := by rw [← hLX]; unfold mn; omega
  have eHX : max (max a.x b.x) c.x = HX := by rw [← hHX]; unfold mx; omega
  have eLY : min (min a.y b.y) c.y = LY := by rw [← hLY]; unfold mn; omega
  have eHY : max (max a.y b.y) c.y = HY := by rw [← hHY]; unfold mx; omega
  have HMx : Hid (∀ W, Calls Tryz.prog 137 #[spn64 LX HX] W fun e w' => e = .returned (.tuple #[.int .i64 bx.x, .int .i64 bx.c]) ∧ Below W.heap.size W w') := by
    intro W
    have := ha.x0; have := ha.x1; have := hb.x0; have := hb.x1; have := hc.x0; have := hc.x1
    have hm := middlesIn_any LX HX W (by omega) (by omega) (by omega) (by omega)
    rw [hbx]
    unfold Tr.bounds Tr.lx Tr.hx
    dsimp only
    rw [eLX, eHX]
    exact hm
  have HMy : Hid (∀ W, Calls Tryz.prog 137 #[spn64 LY HY] W fun e w' => e = .returned (.tuple #[.int .i64 bx.y, .int .i64 bx.r]) ∧ Below W.heap.size W w') := by
    intro W
    have := ha.y0; have := ha.y1; have := hb.y0; have := hb.y1; have := hc.y0; have := hc.y1
    have hm := middlesIn_any LY HY W (by omega) (by omega) (by omega) (by omega)
    rw [hbx]
    unfold Tr.bounds Tr.ly Tr.hy
    dsimp only
    rw [eLY, eHY]
    exact hm
  clear hLX hHX hLY hHY eLX eHX eLY eHY ha hb hc hbx
  have c0 : ∀ ob, (w.alloc ob).cell? ⟨q, 0, none⟩ = some (.int .i64 a.x) := fun ob => (World.cell?_alloc_past _ _ _ lt).trans (cell_of hq 0)
  have c1 : ∀ ob, (w.alloc ob).cell? ⟨q, 1, none⟩ = some (.int .i64 a.y) := fun ob => (World.cell?_alloc_past _ _ _ lt).trans (cell_of hq 1)
  clear hq
  go_enter Tryz.func116, Tryz.ntmps116
  have c0w : w.cell? ⟨q, 0, none⟩ = some (.int .i64 a.x) := cell_of HQ.out 0
  have c1w : w.cell? ⟨q, 1, none⟩ = some (.int .i64 a.y) := cell_of HQ.out 1
  have l1 : q < w.heap.size + 1 := by omega
  have l2 : q < w.heap.size + 2 := by omega
  have l3 : q < w.heap.size + 3 := by omega
  have l4 : q < w.heap.size + 4 := by omega
  have l5 : q < w.heap.size + 5 := by omega
  have HQc : Hid (∀ W, Below w.heap.size w W → W.cell? ⟨q, 0, none⟩ = some (.int .i64 a.x) ∧ W.cell? ⟨q, 1, none⟩ = some (.int .i64 a.y)) := fun W hW => ⟨cell_of ((hW.block _ lt).trans HQ.out) 0, cell_of ((hW.block _ lt).trans HQ.out) 1⟩
  go_upto_region 1 with fail
  go_cut [3, 4] (fun c d wc => ∃ C D, c = .pointer (some ⟨C, 0, none⟩) ∧ d = .pointer (some ⟨D, 0, none⟩) ∧ BdI w C D a.x a.x a.y a.y wc)
  case first =>
    go_region_held (fun w2 => w2.cell? ⟨q, 0, none⟩ = some (.int .i64 a.x) ∧ w2.cell? ⟨q, 1, none⟩ = some (.int .i64 a.y)) ((refine HQc.out _ ?_; repeat (first | with_reducible exact Below.refl _ _ | with_reducible refine Below.drew ?_ | (with_reducible refine Below.alloc ?_ (by first | exact Nat.le_refl _ | (simp; done) | (simp; omega)) _) | (with_reducible refine Below.setCell ?_ (by first | exact Nat.le_refl _ | (simp; done) | (simp; omega)) _))))
      ((go_at_call 135; refine (HS.out _ _).mono ?_; rintro e w1 ⟨rfl, rfl⟩))
    all_goals
      go_wp2_with fail
      go_meet
      case rel =>
        refine ⟨_, _, rfl, rfl, ?_, ?_, ?_, by omega, by omega, by omega, ?_⟩
        · rw [heap_drew]; repeat (first | (with_reducible refine heap_alloc_at ?_ _; first | rfl | (simp; done)) | with_reducible refine (heap_alloc_old (by first | (simp; done) | (simp; omega)) _).trans ?_)
        · rw [heap_drew]; repeat (first | (with_reducible refine heap_alloc_at ?_ _; first | rfl | (simp; done)) | with_reducible refine (heap_alloc_old (by first | (simp; done) | (simp; omega)) _).trans ?_)
        · rw [heap_drew]; repeat (first | (with_reducible refine heap_alloc_at ?_ _; first | rfl | (simp; done)) | with_reducible refine (heap_alloc_old (by first | (simp; done) | (simp; omega)) _).trans ?_)
        · repeat (first | with_reducible exact Below.refl _ _ | with_reducible refine Below.drew ?_ | (with_reducible refine Below.alloc ?_ (by first | exact Nat.le_refl _ | (simp; done) | (simp; omega)) _))
  case rest =>
    obtain ⟨C, D, rfl, rfl, hI⟩ := hcut
    have HI : Hid (BdI w C D a.x a.x a.y a.y wc) := hI
    clear hI HS HQc c0 c1 c0w c1w l1 l2 l3 l4 l5
    go_wp2_with (refine wpList_load_mid rfl 163 (.tmp 29) rfl q 0 rfl (cor18 a b c) _ (HR.out _ HI.out.bel) Tryz.underlying163 rfl Tryz.info3cor ?_)
    have x0 := idx0 a b c
    have x1 := idx1 a b c
    have x2 := idx2 a b c
    simp only [cor18, corV] at x0 x1 x2 ⊢
    have HN : Hid (∀ (l h m n : Int) (wr : World), BdI w C D l h m n wr → C < wr.heap.size ∧ D < wr.heap.size ∧ wr.cell? ⟨C, 0, none⟩ = some (.int .i64 l) ∧ wr.cell? ⟨C, 1, none⟩ = some (.int .i64 h) ∧ wr.cell? ⟨D, 0, none⟩ = some (.int .i64 m) ∧ wr.cell? ⟨D, 1, none⟩ = some (.int .i64 n) ∧ C ≠ D ∧ (∀ o, wr.frozen? ⟨C, o, none⟩ = false) ∧ (∀ o, wr.frozen? ⟨D, o, none⟩ = false)) := fun l h m n wr hi =>
      ⟨lt_of_heap hi.ac, lt_of_heap hi.dn, cell_of hi.ac 0, cell_of hi.ac 1, cell_of hi.dn 0, cell_of hi.dn 1, hi.ne, frozen_of hi.ac, frozen_of hi.dn⟩
    go_loopg [31] 3 (fun m i wr => ∃ j : Nat, j + m = 3 ∧ i = .int .i64 j ∧ BdI w C D (if j = 0 then a.x else if j = 1 then mn a.x a.x else if j = 2 then mn (mn a.x a.x) b.x else mn (mn (mn a.x a.x) b.x) c.x) (if j = 0 then a.x else if j = 1 then mx a.x a.x else if j = 2 then mx (mx a.x a.x) b.x else mx (mx (mx a.x a.x) b.x) c.x) (if j = 0 then a.y else if j = 1 then mn a.y a.y else if j = 2 then mn (mn a.y a.y) b.y else mn (mn (mn a.y a.y) b.y) c.y) (if j = 0 then a.y else if j = 1 then mx a.y a.y else if j = 2 then mx (mx a.y a.y) b.y else mx (mx (mx a.y a.y) b.y) c.y) wr)
    case atStart => exact ⟨0, rfl, rfl, HI.out⟩
    case round =>
      obtain ⟨j, hj, rfl, hJ⟩ := hrel
      have hj' : j = 0 ∨ j = 1 ∨ j = 2 ∨ j = 3 := by omega
      clear HI HR
      rcases hj' with rfl | rfl | rfl | rfl
      · obtain rfl : gk = 3 := by omega
        have HJ : Hid (BdI w C D a.x a.x a.y a.y wr) := hJ
        clear hJ
        obtain ⟨k1, k2, k3, k4, k5, k6, k7, k8, k9⟩ := HN.out _ _ _ _ _ HJ.out
        go_wp2_with fail
        refine Code.wp_mono ?_ (bnd_reg5 C D _ _ _ _ a.x a.y a.r a.g a.b a.d wr _ _ _ _ _ _ _ _ _ _ _ _ _ _ _ _ _ _ _ _ _ _ _ _ _ _ _ _ _ _ _ _ _ _ _ _ _ _ _ _ _ _ _ _ _ _ _ _ _ _ _ _ _ _ _ _ _ k3 k4 k5 k6 k1 k2 k7 k8 k9)
        rintro e a' W he
        obtain rfl : e = .normal := by cases e <;> first | rfl | exact he.elim
        obtain ⟨⟨v34, v35, v36, v37, v38, v39, v40, v41, v42, v43, rfl⟩, hB⟩ := he
        have h9 := HJ.out.put _ _ _ _ W hB
        go_wp2_with fail
        go_roundg 2
        case rel => exact ⟨1, by omega, by go_num, h9⟩
        case measure => omega
      · obtain rfl : gk = 2 := by omega
        have HJ : Hid (BdI w C D (mn a.x a.x) (mx a.x a.x) (mn a.y a.y) (mx a.y a.y) wr) := hJ
        clear hJ
        obtain ⟨k1, k2, k3, k4, k5, k6, k7, k8, k9⟩ := HN.out _ _ _ _ _ HJ.out
        go_wp2_with fail
        refine Code.wp_mono ?_ (bnd_reg5 C D _ _ _ _ b.x b.y b.r b.g b.b b.d wr _ _ _ _ _ _ _ _ _ _ _ _ _ _ _ _ _ _ _ _ _ _ _ _ _ _ _ _ _ _ _ _ _ _ _ _ _ _ _ _ _ _ _ _ _ _ _ _ _ _ _ _ _ _ _ _ _ k3 k4 k5 k6 k1 k2 k7 k8 k9)
        rintro e a' W he
        obtain rfl : e = .normal := by cases e <;> first | rfl | exact he.elim
        obtain ⟨⟨v34, v35, v36, v37, v38, v39, v40, v41, v42, v43, rfl⟩, hB⟩ := he
        have h9 := HJ.out.put _ _ _ _ W hB
        go_wp2_with fail
        go_roundg 1
        case rel => exact ⟨2, by omega, by go_num, h9⟩
        case measure => omega
      · obtain rfl : gk = 1 := by omega
        have HJ : Hid (BdI w C D (mn (mn a.x a.x) b.x) (mx (mx a.x a.x) b.x) (mn (mn a.y a.y) b.y) (mx (mx a.y a.y) b.y) wr) := hJ
        clear hJ
        obtain ⟨k1, k2, k3, k4, k5, k6, k7, k8, k9⟩ := HN.out _ _ _ _ _ HJ.out
        go_wp2_with fail
        refine Code.wp_mono ?_ (bnd_reg5 C D _ _ _ _ c.x c.y c.r c.g c.b c.d wr _ _ _ _ _ _ _ _ _ _ _ _ _ _ _ _ _ _ _ _ _ _ _ _ _ _ _ _ _ _ _ _ _ _ _ _ _ _ _ _ _ _ _ _ _ _ _ _ _ _ _ _ _ _ _ _ _ k3 k4 k5 k6 k1 k2 k7 k8 k9)
        rintro e a' W he
        obtain rfl : e = .normal := by cases e <;> first | rfl | exact he.elim
        obtain ⟨⟨v34, v35, v36, v37, v38, v39, v40, v41, v42, v43, rfl⟩, hB⟩ := he
        have h9 := HJ.out.put _ _ _ _ W hB
        go_wp2_with fail
        go_roundg 0
        case rel => exact ⟨3, by omega, by go_num, h9⟩
        case measure => omega
      · obtain rfl : gk = 0 := by omega
        have HJ : Hid (BdI w C D (mn (mn (mn a.x a.x) b.x) c.x) (mx (mx (mx a.x a.x) b.x) c.x) (mn (mn (mn a.y a.y) b.y) c.y) (mx (mx (mx a.y a.y) b.y) c.y) wr) := hJ
        rw [HE.out.1, HE.out.2.1, HE.out.2.2.1, HE.out.2.2.2] at HJ
        clear hJ HE HN HW x0 x1 x2
        have cc := cell_of HJ.out.ac
        have cd := cell_of HJ.out.dn
        have HNx : Hid (∀ W, Below wr.heap.size wr W → W.cell? ⟨D, 0, none⟩ = some (.int .i64 LY) ∧ W.cell? ⟨D, 1, none⟩ = some (.int .i64 HY) ∧ (∀ o, W.cell? ⟨w.heap.size, o, none⟩ = #[Value.int .i64 0, .int .i64 0, .int .i64 0, .int .i64 0][o]?) ∧ (∀ o, W.frozen? ⟨w.heap.size, o, none⟩ = false) ∧ Below w.heap.size w W) := fun W hW => by
          have h2 := HJ.out.below hW
          exact ⟨cell_of h2.dn 0, cell_of h2.dn 1, cell_of h2.res, frozen_of h2.res, h2.bel⟩
        go_wp2_with (first
          | (have hx := hb2; go_at_call 137; refine (HMy.out _).mono ?_; rintro e w3 ⟨rfl, hb3⟩; obtain ⟨_, _, d2, d3, d4⟩ := HNx.out w3 (hb2.trans (hb3.mono hb2.size)))
          | (go_at_call 137; refine (HMx.out _).mono ?_; rintro e w2 ⟨rfl, hb2⟩; obtain ⟨d0, d1, _, _, _⟩ := HNx.out w2 hb2))
        refine bodyPost_ret (v := .agg #[.int .i64 bx.x, .int .i64 bx.y, .int .i64 bx.c, .int .i64 bx.r]) (by simp [results, Tryz.results116, go_sem, d2]) rfl ?_
        exact ⟨rfl, (((d4.setCell (by exact Nat.le_refl _) _).setCell (by exact Nat.le_refl _) _).setCell (by exact Nat.le_refl _) _).setCell (by exact Nat.le_refl _) _⟩
end Go.Proofs.YthcikinkicpicaaGreatDoor
