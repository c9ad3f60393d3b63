import Derived.Test.YthcikinkicpicaaGreatDoorB03
import Derived.Deep.LoopGhost

namespace Go.Proofs.YthcikinkicpicaaGreatDoor
open Go.RowKit

def ccells (c : Cor) : Array Value := #[.int .i64 c.x, .int .i64 c.y, .int .i64 c.d, .int .i64 c.r, .int .i64 c.g, .int .i64 c.b]

structure TriW (p dB qB : Nat) (shV outV : Value) (a b c : Cor) (w wr : World) (st : St) : Prop where
  pin : PaneIn wr p dB qB shV outV st
  ba : wr.heap[w.heap.size]? = some (.cells (ccells a) 52 (0, 0))
  bb : wr.heap[w.heap.size + 1]? = some (.cells (ccells b) 52 (0, 0))
  bc : wr.heap[w.heap.size + 1 + 1]? = some (.cells (ccells c) 52 (0, 0))
  kept : Kept (fun k => k = p ∨ k = dB ∨ k = qB) w wr
  lp : p < w.heap.size
  ld : dB < w.heap.size
  lq : qB < w.heap.size
  sh0 : IntsAt w (fun k => k = p ∨ k = dB ∨ k = qB) shV st.sh

section
variable {p dB qB : Nat} {shV outV : Value} {a b c : Cor} {w wr : World} {st : St}

theorem TriW.drew (h : TriW p dB qB shV outV a b c w wr st) : TriW p dB qB shV outV a b c w wr.drew st := ⟨h.pin.drew, h.ba, h.bb, h.bc, h.kept.drew, h.lp, h.ld, h.lq, h.sh0⟩
theorem TriW.drewN (h : TriW p dB qB shV outV a b c w wr st) (n : Nat) : TriW p dB qB shV outV a b c w (wr.drewN n) st := ⟨h.pin.drewN n, h.ba, h.bb, h.bc, h.kept.drewN n, h.lp, h.ld, h.lq, h.sh0⟩
theorem TriW.size (h : TriW p dB qB shV outV a b c w wr st) : w.heap.size + 1 + 1 < wr.heap.size := lt_of_heap h.bc
theorem TriW.below (h : TriW p dB qB shV outV a b c w wr st) {w' : World} (hb : Below wr.heap.size wr w') : TriW p dB qB shV outV a b c w w' st := by
  have hs := h.size
  exact ⟨h.pin.frame hb, by rw [hb.block _ (by omega)]; exact h.ba, by rw [hb.block _ (by omega)]; exact h.bb, by rw [hb.block _ (by omega)]; exact h.bc, h.kept.below hb, h.lp, h.ld, h.lq, h.sh0⟩
theorem TriW.dot (h : TriW p dB qB shV outV a b c w wr st) {w' : World} {st' : St} (hp : PaneIn w' p dB qB shV outV st') (hsh : st'.sh = st.sh) (hk : Kept (fun k => k = p ∨ k = dB ∨ k = qB) wr w') : TriW p dB qB shV outV a b c w w' st' := by
  have hs := h.size
  have h1 := h.lp; have h2 := h.ld; have h3 := h.lq
  exact ⟨hp, by rw [hk.block _ (by omega) (by omega)]; exact h.ba, by rw [hk.block _ (by omega) (by omega)]; exact h.bb, by rw [hk.block _ (by omega) (by omega)]; exact h.bc, h.kept.trans hk, h1, h2, h3, by rw [hsh]; exact h.sh0⟩

theorem tri_start (h : PaneIn w p dB qB shV outV st) {w1 : World}
    (hb : Below (((w.alloc (.cells (ccells a) 52)).alloc (.cells (ccells b) 52)).alloc (.cells (ccells c) 52)).heap.size
      (((w.alloc (.cells (ccells a) 52)).alloc (.cells (ccells b) 52)).alloc (.cells (ccells c) 52)) w1) :
    TriW p dB qB shV outV a b c w w1 st := by
  obtain ⟨h1, h2, h3⟩ := h.lt
  have hb0 : Below w.heap.size w w1 := below_trans3 hb
  refine ⟨h.frame hb0, ?_, ?_, ?_, (Kept.refl _ _).below hb0, h1, h2, h3, h.sh⟩
  · rw [hb.block _ (by simp; omega), heap_alloc_old (by simp; omega), heap_alloc_old (by simp), heap_alloc_new]
  · rw [hb.block _ (by simp), heap_alloc_old (by simp)]; exact heap_alloc_at (by simp) _
  · rw [hb.block _ (by simp)]; exact heap_alloc_at (by simp) _

/-- The two later corners change places. -/
theorem TriW.swap (h : TriW p dB qB shV outV a b c w wr st) :
    TriW p dB qB shV outV a c b w
      ((((((((((((wr.setCell ⟨w.heap.size + 1, 0, none⟩ (.int .i64 c.x)).setCell ⟨w.heap.size + 1, 1, none⟩ (.int .i64 c.y)).setCell ⟨w.heap.size + 1, 2, none⟩ (.int .i64 c.d)).setCell ⟨w.heap.size + 1, 3, none⟩ (.int .i64 c.r)).setCell ⟨w.heap.size + 1, 4, none⟩ (.int .i64 c.g)).setCell ⟨w.heap.size + 1, 5, none⟩ (.int .i64 c.b)).setCell
        ⟨w.heap.size + 1 + 1, 0, none⟩ (.int .i64 b.x)).setCell ⟨w.heap.size + 1 + 1, 1, none⟩ (.int .i64 b.y)).setCell ⟨w.heap.size + 1 + 1, 2, none⟩ (.int .i64 b.d)).setCell ⟨w.heap.size + 1 + 1, 3, none⟩ (.int .i64 b.r)).setCell ⟨w.heap.size + 1 + 1, 4, none⟩ (.int .i64 b.g)).setCell ⟨w.heap.size + 1 + 1, 5, none⟩ (.int .i64 b.b)) st := by
  have h1 := h.lp; have h2 := h.ld; have h3 := h.lq
  have hs := h.size
  have hbel : Below w.heap.size wr ((((((((((((wr.setCell ⟨w.heap.size + 1, 0, none⟩ (.int .i64 c.x)).setCell ⟨w.heap.size + 1, 1, none⟩ (.int .i64 c.y)).setCell ⟨w.heap.size + 1, 2, none⟩ (.int .i64 c.d)).setCell ⟨w.heap.size + 1, 3, none⟩ (.int .i64 c.r)).setCell ⟨w.heap.size + 1, 4, none⟩ (.int .i64 c.g)).setCell ⟨w.heap.size + 1, 5, none⟩ (.int .i64 c.b)).setCell
        ⟨w.heap.size + 1 + 1, 0, none⟩ (.int .i64 b.x)).setCell ⟨w.heap.size + 1 + 1, 1, none⟩ (.int .i64 b.y)).setCell ⟨w.heap.size + 1 + 1, 2, none⟩ (.int .i64 b.d)).setCell ⟨w.heap.size + 1 + 1, 3, none⟩ (.int .i64 b.r)).setCell ⟨w.heap.size + 1 + 1, 4, none⟩ (.int .i64 b.g)).setCell ⟨w.heap.size + 1 + 1, 5, none⟩ (.int .i64 b.b)) := by
    have hB : w.heap.size ≤ w.heap.size + 1 := by omega
    have hC : w.heap.size ≤ w.heap.size + 1 + 1 := by omega
    exact (((((((((((Below.refl w.heap.size wr).setCell (by exact hB) _).setCell (by exact hB) _).setCell (by exact hB) _).setCell (by exact hB) _).setCell (by exact hB) _).setCell (by exact hB) _).setCell (by exact hC) _).setCell (by exact hC) _).setCell (by exact hC) _).setCell (by exact hC) _).setCell (by exact hC) _ |>.setCell (by exact hC) _
  have hkp : Kept (fun k => k = p ∨ k = dB ∨ k = qB) w _ := ⟨hbel.os.trans h.kept.os, hbel.tape.trans h.kept.tape, hbel.output.trans h.kept.output, Nat.le_trans h.kept.size hbel.size, fun k hk hs => (hbel.block k hk).trans (h.kept.block k hk hs)⟩
  refine ⟨⟨?_, ?_, ?_, h.sh0.kept hkp (fun _ x => x), h.pin.pd, h.pin.pq, h.pin.dq⟩, ?_, ?_, ?_, hkp, h1, h2, h3, h.sh0⟩
  · rw [hbel.block _ h1]; exact h.pin.bp
  · rw [hbel.block _ h2]; exact h.pin.bd
  · rw [hbel.block _ h3]; exact h.pin.bq
  · rw [heap_set_ne (by omega), heap_set_ne (by omega), heap_set_ne (by omega), heap_set_ne (by omega), heap_set_ne (by omega), heap_set_ne (by omega), heap_set_ne (by omega), heap_set_ne (by omega), heap_set_ne (by omega), heap_set_ne (by omega), heap_set_ne (by omega), heap_set_ne (by omega)]
    exact h.ba
  · rw [heap_set_ne (by omega), heap_set_ne (by omega), heap_set_ne (by omega), heap_set_ne (by omega), heap_set_ne (by omega), heap_set_ne (by omega)]
    exact heap_set_same (heap_set_same (heap_set_same (heap_set_same (heap_set_same (heap_set_same h.bb _ _) _ _) _ _) _ _) _ _) _ _
  · refine heap_set_same (heap_set_same (heap_set_same (heap_set_same (heap_set_same (heap_set_same (c := ccells c) ?_ _ _) _ _) _ _) _ _) _ _) _ _
    rw [heap_set_ne (by omega), heap_set_ne (by omega), heap_set_ne (by omega), heap_set_ne (by omega), heap_set_ne (by omega), heap_set_ne (by omega)]
    exact h.bc

end

/-- What holds of the state in the loops over a triangle's pixels. -/
structure TriLoop (st st1 : St) (K : Int) : Prop where
  W : st1.W = st.W
  H : st1.H = st.H
  T : st1.T = st.T
  wx : st1.wx = st.wx
  wy : st1.wy = st.wy
  ww : st1.ww = st.ww
  wh : st1.wh = st.wh
  sh : st1.sh = st.sh
  out : st1.out = st.out
  ok : st1.Ok K

theorem TriLoop.refl {st : St} {K : Int} (h : st.Ok K) : TriLoop st st K := ⟨rfl, rfl, rfl, rfl, rfl, rfl, rfl, rfl, rfl, h⟩
theorem TriLoop.mono {st st1 : St} {K K' : Int} (h : TriLoop st st1 K) (hK : K ≤ K') : TriLoop st st1 K' := ⟨h.W, h.H, h.T, h.wx, h.wy, h.ww, h.wh, h.sh, h.out, Ok_mono h.ok hK⟩
theorem TriLoop.dot {st st1 : St} {K : Int} (h : TriLoop st st1 K) (d : Dot) (x y : Int) (hd : d.Ok) : TriLoop st (st1.dot d x y) (K + 16) := by
  obtain ⟨e1, e2, e3, e4, e5, e6, e7, e8, e9, _⟩ := dot_same st1 d x y
  exact ⟨e1.trans h.W, e2.trans h.H, e3.trans h.T, e4.trans h.wx, e5.trans h.wy, e6.trans h.ww, e7.trans h.wh, e8.trans h.sh, e9.trans h.out, dot_ok st1 d x y K h.ok hd⟩

set_option maxRecDepth 100000 in
set_option maxHeartbeats 4000000 in
theorem tri_in (p dB qB : Nat) (shV outV : Value) (st : St) (a b c : Cor) (w : World) (K : Int) (h : PaneIn w p dB qB shV outV st) (hok : st.Ok K) (hK : K ≤ 3900000000000000000)
    (ha : a.Ok) (hb : b.Ok) (hc : c.Ok) :
    Calls Tryz.prog 43 #[.pointer (some ⟨p, 0, none⟩), a.v, b.v, c.v] w fun e w' =>
      e = .returned (.tuple #[]) ∧ PaneIn w' p dB qB shV outV (st.tri a b c) ∧ Kept (fun k => k = p ∨ k = dB ∨ k = qB) w w' := by
  unfold Cor.v
  have hbd := edge_bound a b c.x c.y ha hb hc.x0 hc.x1 hc.y0 hc.y1
  generalize har : edge a b c.x c.y = ar at *
  have Har : Hid _ := har
  clear har
  go_enter Tryz.func43, Tryz.ntmps43
  go_wp2_with fail
  refine (E_any a b c.x c.y _ ha hb hc.x0 hc.x1 hc.y0 hc.y1).mono ?_
  rintro e w1 ⟨rfl, hb1⟩
  rw [Har.out]
  have T1 : TriW p dB qB shV outV a b c w w1 st := tri_start h hb1
  clear hb1
  have cp := cell_of T1.pin.bp
  simp only [pcells] at cp
  obtain ⟨hbd1, hbd2⟩ := hbd
  go_upto_region 2 with fail
  go_cut [50] (fun s wx => s = .bool (decide (ar = 0 ∨ (st.T.faces = 1 ∧ ar < 0) ∨ (st.T.faces = 2 ∧ 0 < ar))) ∧ wx = w1)
  case first =>
    by_cases e0 : ar = 0
    · have c0 : (ar == 0) = true := by simpa using e0
      have E0 : Hid _ := e0
      clear e0
      go_wp2_with fail
      go_meet
      case rel => exact ⟨by simp [E0.out], rfl⟩
    · have c0 : (ar == 0) = false := by simpa using e0
      have E0 : Hid _ := e0
      clear e0
      by_cases f1 : st.T.faces = 1
      · have c1 : (st.T.faces == 1) = true := by simpa using f1
        have c2 : (st.T.faces == 2) = false := by simp; omega
        have F1 : Hid _ := f1
        clear f1
        by_cases hneg : ar < 0
        · go_wp2_with fail
          go_meet
          case rel => exact ⟨by simp [F1.out, hneg], rfl⟩
        · go_wp2_with fail
          go_meet
          case rel => exact ⟨congrArg Value.bool (decide_eq_false (by simp at c0 c1 c2; omega)).symm, rfl⟩
      · have c1 : (st.T.faces == 1) = false := by simpa using f1
        have F1 : Hid _ := f1
        clear f1
        by_cases f2 : st.T.faces = 2
        · have c2 : (st.T.faces == 2) = true := by simpa using f2
          have F2 : Hid _ := f2
          clear f2
          by_cases hpos : 0 < ar
          · go_wp2_with fail
            go_meet
            case rel => exact ⟨by simp [F2.out, hpos], rfl⟩
          · go_wp2_with fail
            go_meet
            case rel => exact ⟨congrArg Value.bool (decide_eq_false (by simp at c0 c1 c2; omega)).symm, rfl⟩
        · have c2 : (st.T.faces == 2) = false := by simpa using f2
          have F2 : Hid _ := f2
          clear f2
          go_wp2_with fail
          go_meet
          case rel => exact ⟨congrArg Value.bool (decide_eq_false (by simp at c0 c1 c2; omega)).symm, rfl⟩
  case rest =>
    obtain ⟨rfl, rfl⟩ := hcut
    by_cases h0 : ar = 0 ∨ (st.T.faces = 1 ∧ ar < 0) ∨ (st.T.faces = 2 ∧ 0 < ar)
    · have hd0 : decide (ar = 0 ∨ (st.T.faces = 1 ∧ ar < 0) ∨ (st.T.faces = 2 ∧ 0 < ar)) = true := by simpa using h0
      have H0 : Hid _ := h0
      clear h0
      rw [hd0]
      go_wp2_with fail
      refine bodyPost_ret (v := .tuple #[]) (by simp [results, Tryz.results43, go_sem]) rfl ?_
      refine ⟨rfl, ?_, T1.kept⟩
      have : st.tri a b c = st := by unfold St.tri; rw [Har.out, if_pos H0.out]
      rw [this]; exact T1.pin
    · have hd0 : decide (ar = 0 ∨ (st.T.faces = 1 ∧ ar < 0) ∨ (st.T.faces = 2 ∧ 0 < ar)) = false := by simpa using h0
      have H0 : Hid _ := h0
      have hne : ar < 0 ∨ 0 < ar := by omega
      clear h0
      rw [hd0]
      have ca := cell_of T1.ba
      have cb := cell_of T1.bb
      have cc := cell_of T1.bc
      have fb := frozen_of T1.bb
      have fc := frozen_of T1.bc
      simp only [ccells] at ca cb cc
      go_upto_if 52 with fail
      go_cut [8] (fun s wc => ∃ (b' c' : Cor) (A : Int), s = .int .i64 A ∧ 0 < A ∧ A ≤ 8589672450 ∧ edge a b' c'.x c'.y = A ∧ b'.Ok ∧ c'.Ok ∧ st.tri a b c = triY a b' c' A st.wh.toNat st.wy st ∧ TriW p dB qB shV outV a b' c' w wc st)
      case first =>
        by_cases hneg : ar < 0
        · go_wp2_with fail
          go_meet
          case rel =>
            go_light
            refine ⟨c, b, -ar, rfl, by omega, by omega, by rw [edge_swap, Har.out], hc, hb, ?_, T1.swap⟩
            unfold St.tri
            rw [Har.out, if_neg H0.out, if_pos hneg]
        · go_wp2_with fail
          go_meet
          case rel =>
            go_light
            refine ⟨b, c, ar, rfl, by omega, by omega, Har.out, hb, hc, ?_, T1⟩
            unfold St.tri
            rw [Har.out, if_neg H0.out, if_neg (by omega)]
      case rest =>
        obtain ⟨b', c', A, rfl, hA0, hA1, hAe, hb', hc', htri, T2⟩ := hcut
        clear T1 ca cb cc fb fc cp
        have Htri : Hid _ := htri
        have HAe : Hid _ := hAe
        clear htri hAe hne hd0
        have cp := cell_of T2.pin.bp
        simp only [pcells] at cp
        have hwy0 := hok.wy0
        have hwy1 := hok.wy1
        have hwh0 := hok.wh0
        have hwx0 := hok.wx0
        have hwx1 := hok.wx1
        have hww0 := hok.ww0
        have hW1 := hok.W1
        have hH1 := hok.H1
        go_wp2_with fail
        go_loopg [9] st.wh.toNat (fun n i wr => ∃ (y : Int) (st1 : St), i = .int .i64 y ∧ y + n = st.wy + st.wh ∧ st.wy ≤ y ∧ TriLoop st st1 (K + 384 * ((st.wh.toNat - n : Nat) : Int)) ∧ triY a b' c' A n y st1 = st.tri a b c ∧ TriW p dB qB shV outV a b' c' w wr st1)
        case atStart =>
          exact ⟨st.wy, st, rfl, by omega, by omega, TriLoop.refl (Ok_mono hok (by omega)), Htri.out.symm, T2⟩
        case round =>
          obtain ⟨y, st1, rfl, hyn, hy0, hL, hfin, T3⟩ := hrel
          have cpr := cell_of T3.pin.bp
          simp only [pcells, hL.wx, hL.wy, hL.ww, hL.wh] at cpr
          have Hfin : Hid _ := hfin
          clear hfin cp
          have m1 : IntKind.i64.wrap (st.wy + st.wh) = st.wy + st.wh := k64 (by omega)
          by_cases hlt : y < st.wy + st.wh
          · obtain ⟨n', rfl⟩ : ∃ n', gk = n' + 1 := ⟨gk - 1, by omega⟩
            have hdec : decide (y < st.wy + st.wh) = true := by simpa using hlt
            go_wp2_with fail
            go_quiet (fail)
            clear m1
            go_wp2_with fail
            go_loopg [10] st.ww.toNat (fun m i wr => ∃ (x : Int) (st2 : St), i = .int .i64 x ∧ x + m = st.wx + st.ww ∧ st.wx ≤ x ∧ TriLoop st st2 (K + 384 * ((st.wh.toNat - (n' + 1) : Nat) : Int) + 16 * ((st.ww.toNat - m : Nat) : Int)) ∧
                triY a b' c' A n' (y + 1) (triX a b' c' A y m x st2) = st.tri a b c ∧ TriW p dB qB shV outV a b' c' w wr st2)
            case atStart =>
              have hf := Hfin.out
              rw [triY, hL.ww, hL.wx] at hf
              exact ⟨st.wx, st1, rfl, by omega, by omega, hL.mono (by omega), hf, T3.drewN _⟩
            case round =>
              clear cpr Hfin T3 hL
              obtain ⟨x, st2, rfl, hxm, hx0, hL, hfin, T4⟩ := hrel
              have cpr := cell_of T4.pin.bp
              simp only [pcells, hL.wx, hL.wy, hL.ww, hL.wh] at cpr
              have Hfin : Hid _ := hfin
              clear hfin
              have m2 : IntKind.i64.wrap (st.wx + st.ww) = st.wx + st.ww := k64 (by omega)
              by_cases hlx : x < st.wx + st.ww
              · obtain ⟨m', rfl⟩ : ∃ m', gk = m' + 1 := ⟨gk - 1, by omega⟩
                have hdx : decide (x < st.wx + st.ww) = true := by simpa using hlx
                go_wp2_with fail
                go_quiet (fail)
                clear m2 hdx
                have T5 := T4.drewN nq
                have ca := cell_of T4.ba
                have cb := cell_of T4.bb
                have cc := cell_of T4.bc
                simp only [ccells] at ca cb cc
                go_wp2_with fail
                refine (cov_any a b' c' x y _ ha hb' hc' (by omega) (by omega) (by omega) (by omega)).mono ?_
                rintro e w2 ⟨rfl, hb2⟩
                have T6 := T5.below hb2
                clear ca cb cc cpr
                cases hcov : covB a b' c' x y
                · have Hcov : Hid _ := hcov
                  clear hcov
                  go_wp2_with fail
                  go_roundg m'
                  case rel =>
                    go_light
                    refine ⟨x + 1, st2, rfl, by omega, by omega, hL.mono (by omega), ?_, T6⟩
                    have hf := Hfin.out
                    rw [triX, Hcov.out] at hf
                    simpa using hf
                  case measure => omega
                · have Hcov : Hid _ := hcov
                  clear hcov
                  obtain ⟨u0, v0, t0⟩ := cov_parts Hcov.out
                  have u1 := (edge_bound b' c' (16 * x + 8) (16 * y + 8) hb' hc' (by omega) (by omega) (by omega) (by omega)).2
                  have v1 := (edge_bound c' a (16 * x + 8) (16 * y + 8) hc' ha (by omega) (by omega) (by omega) (by omega)).2
                  have t1 := (edge_bound a b' (16 * x + 8) (16 * y + 8) ha hb' (by omega) (by omega) (by omega) (by omega)).2
                  have hpx : pix a b' c' A x y = mix a b' c' A (edge b' c' (16 * x + 8) (16 * y + 8)) (edge c' a (16 * x + 8) (16 * y + 8)) (edge a b' (16 * x + 8) (16 * y + 8)) := rfl
                  have hpo := pix_ok a b' c' A x y ha hb' hc' HAe.out hA0 Hcov.out
                  rw [hpx] at hpo
                  generalize hu : edge b' c' (16 * x + 8) (16 * y + 8) = u at *
                  generalize hv : edge c' a (16 * x + 8) (16 * y + 8) = v at *
                  generalize ht : edge a b' (16 * x + 8) (16 * y + 8) = t at *
                  have Hu : Hid _ := hu
                  have Hv : Hid _ := hv
                  have Ht : Hid _ := ht
                  have Hpx : Hid _ := hpx
                  clear hu hv ht hpx
                  obtain ⟨⟨p10, p11⟩, ⟨p20, p21⟩, ⟨p30, p31⟩⟩ := mean_room u v t a.d b'.d c'.d u0 u1 v0 v1 t0 t1 ha.d0 ha.d1 hb'.d0 hb'.d1 hc'.d0 hc'.d1
                  obtain ⟨⟨r10, r11⟩, ⟨r20, r21⟩, ⟨r30, r31⟩⟩ := mean_room u v t a.r b'.r c'.r u0 u1 v0 v1 t0 t1 ha.r0 (by have := ha.r1; omega) hb'.r0 (by have := hb'.r1; omega) hc'.r0 (by have := hc'.r1; omega)
                  obtain ⟨⟨g10, g11⟩, ⟨g20, g21⟩, ⟨g30, g31⟩⟩ := mean_room u v t a.g b'.g c'.g u0 u1 v0 v1 t0 t1 ha.g0 (by have := ha.g1; omega) hb'.g0 (by have := hb'.g1; omega) hc'.g0 (by have := hc'.g1; omega)
                  obtain ⟨⟨b10, b11⟩, ⟨b20, b21⟩, ⟨b30, b31⟩⟩ := mean_room u v t a.b b'.b c'.b u0 u1 v0 v1 t0 t1 ha.b0 (by have := ha.b1; omega) hb'.b0 (by have := hb'.b1; omega) hc'.b0 (by have := hc'.b1; omega)
                  have ca := cell_of T6.ba
                  have cb := cell_of T6.bb
                  have cc := cell_of T6.bc
                  simp only [ccells] at ca cb cc
                  go_wp2_with fail
                  refine (E_any b' c' _ _ _ hb' hc' (by omega) (by omega) (by omega) (by omega)).mono ?_
                  rintro e w3 ⟨rfl, hb3⟩
                  rw [Hu.out]
                  have T7 := T6.below hb3
                  clear ca cb cc
                  have ca := cell_of T7.ba
                  have cb := cell_of T7.bb
                  have cc := cell_of T7.bc
                  simp only [ccells] at ca cb cc
                  go_wp2_with fail
                  refine (E_any c' a _ _ _ hc' ha (by omega) (by omega) (by omega) (by omega)).mono ?_
                  rintro e w4 ⟨rfl, hb4⟩
                  rw [Hv.out]
                  have T8 := T7.below hb4
                  clear ca cb cc
                  have ca := cell_of T8.ba
                  have cb := cell_of T8.bb
                  have cc := cell_of T8.bc
                  simp only [ccells] at ca cb cc
                  go_wp2_with fail
                  refine (E_any a b' _ _ _ ha hb' (by omega) (by omega) (by omega) (by omega)).mono ?_
                  rintro e w5 ⟨rfl, hb5⟩
                  rw [Ht.out]
                  have T9 := T8.below hb5
                  clear ca cb cc hb2 hb3 hb4 hb5
                  have ca := cell_of T9.ba
                  have cb := cell_of T9.bb
                  have cc := cell_of T9.bc
                  simp only [ccells] at ca cb cc
                  have l2 := T9.size
                  have l1 : w.heap.size + 1 < w5.heap.size := by omega
                  have l0 : w.heap.size < w5.heap.size := by omega
                  go_wp2_with fail
                  refine (floor_any _ _ _ hA0 (by omega) (by omega)).mono ?_
                  rintro e w' ⟨rfl, rfl⟩
                  go_wp2_with fail
                  refine (floor_any _ _ _ hA0 (by omega) (by omega)).mono ?_
                  rintro e w' ⟨rfl, rfl⟩
                  go_wp2_with fail
                  refine (floor_any _ _ _ hA0 (by omega) (by omega)).mono ?_
                  rintro e w' ⟨rfl, rfl⟩
                  go_wp2_with fail
                  refine (floor_any _ _ _ hA0 (by omega) (by omega)).mono ?_
                  rintro e w' ⟨rfl, rfl⟩
                  go_wp2_with fail
                  refine (dot_in p dB qB shV outV st2 (mix a b' c' A u v t) x y _ _ (T9.below below1).pin hL.ok (by omega) hpo (by omega) (by rw [hL.W]; omega) (by omega) (by rw [hL.H]; omega)).mono ?_
                  rintro e w6 ⟨rfl, hp6, hk6⟩
                  have T10 := (T9.below below1).dot hp6 (dot_same st2 _ x y).2.2.2.2.2.2.2.1 hk6
                  go_wp2_with fail
                  go_roundg m'
                  case rel =>
                    go_light
                    refine ⟨x + 1, st2.dot (mix a b' c' A u v t) x y, rfl, by omega, by omega, (hL.dot _ x y hpo).mono (by omega), ?_, T10⟩
                    have hf := Hfin.out
                    rw [triX, Hcov.out, if_pos rfl, Hpx.out] at hf
                    exact hf
                  case measure => omega
              · have hdx : decide (x < st.wx + st.ww) = false := by simpa using hlx
                go_wp2_with fail
                go_quiet (fail)
                have T5 := T4.drewN nq
                go_wp2_with fail
                go_roundg n'
                case rel =>
                  go_light
                  have hm0 : gk = 0 := by omega
                  subst hm0
                  have hf := Hfin.out
                  rw [triX] at hf
                  exact ⟨y + 1, st2, rfl, by omega, by omega, hL.mono (by omega), hf, T5⟩
                case measure => omega
          · have hn0 : gk = 0 := by omega
            subst hn0
            have hdec : decide (y < st.wy + st.wh) = false := by simpa using hlt
            go_wp2_with fail
            go_quiet (fail)
            go_wp2_with fail
            go_end0
            go_light
            have hf := Hfin.out
            rw [triY] at hf
            rw [← hf]
            exact ⟨rfl, (T3.drewN _).pin, (T3.drewN _).kept⟩

end Go.Proofs.YthcikinkicpicaaGreatDoor
