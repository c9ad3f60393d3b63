import Derived.Test.YtifloehpdkfchaaDoorA10

namespace Go.Proofs.YtifloehpdkfchaaDoor
open Go.RowKit
section
variable (base : Nat) (p cB zB sB A n : Nat) (s : ByteArray) (k ways : Int) (shV outV : Value) (st : St) (a : ByteArray) (l : List Int) (w : World)

set_option maxRecDepth 100000 in
set_option maxHeartbeats 1000000 in
theorem setWindow_in (h : Dr base w p cB zB sB A n s k ways shV outV st) (ha : ArgsOf a l) (hl : l.length = 4) :
    Calls Tryd.prog 37 #[.pointer (some ⟨p, 2, none⟩), .string a] w (CmdPost base p s k w (st.cmd 5 l)) := by
  have hsz := ha.size
  have z0 : (0 : Int) < (a.size : Int) := by omega
  have z1 : (1 : Int) < (a.size : Int) := by omega
  have z2 : (2 : Int) < (a.size : Int) := by omega
  have z3 : (3 : Int) < (a.size : Int) := by omega
  have i0 : 0 < a.size := by omega
  have i1 : 1 < a.size := by omega
  have i2 : 2 < a.size := by omega
  have i3 : 3 < a.size := by omega
  have e0 := ha.w64 0 (by omega) i0
  have e1 := ha.w64 1 (by omega) i1
  have e2 := ha.w64 2 (by omega) i2
  have e3 := ha.w64 3 (by omega) i3
  have f0 := ha.i64 0 (by omega) i0
  have f1 := ha.i64 1 (by omega) i1
  have f2 := ha.i64 2 (by omega) i2
  have f3 := ha.i64 3 (by omega) i3
  obtain ⟨b0, b0'⟩ := ha.ok.at 0
  obtain ⟨b1, b1'⟩ := ha.ok.at 1
  obtain ⟨b2, b2'⟩ := ha.ok.at 2
  obtain ⟨b3, b3'⟩ := ha.ok.at 3
  have lp := lt_of_heap h.bp
  have hbb : base ≤ w.heap.size := by have := h.b0; omega
  have HD : Hid (Dr base w p cB zB sB A n s k ways shV outV st) := h
  have hc : st.cmd 5 l = if st.W < l.getD 0 0 + l.getD 2 0 ∨ st.H < l.getD 1 0 + l.getD 3 0 then (st, 2) else ({ st with wx := l.getD 0 0, wy := l.getD 1 0, ww := l.getD 2 0, wh := l.getD 3 0 }, 0) := by simp [St.cmd, badB, St.does]
  rw [hc]
  clear h hc ha hl hsz
  generalize l.getD 0 0 = x0 at *
  generalize l.getD 1 0 = x1 at *
  generalize l.getD 2 0 = x2 at *
  generalize l.getD 3 0 = x3 at *
  have g1 : IntKind.i64.wrap (x0 + x2) = x0 + x2 := k64 (by omega)
  have g2 : IntKind.i64.wrap (x1 + x3) = x1 + x3 := k64 (by omega)
  have hb1 := HD.out.frame (below1 (o1 := .cells #[.int .i64 x0, .int .i64 x1, .int .i64 x2, .int .i64 x3] 50))
  have cp := cell_of hb1.bp
  simp only [xcells] at cp
  have fp := frozen_of hb1.bp
  by_cases c1 : st.W < x0 + x2
  · rw [if_pos (.inl c1)]
    go_enter Tryd.func37, Tryd.ntmps37
    go_wp2_with fail
    go_region
    all_goals
      go_wp2_with fail
      go_quiet (fail)
      go_wp2_with fail
      all_goals first
        | (exfalso; omega)
        | (go_ret
           have hbl := (below1 (w := w) (o1 := .cells #[.int .i64 x0, .int .i64 x1, .int .i64 x2, .int .i64 x3] 50)).drew.drewN' nq
           exact ⟨rfl, _, _, _, _, _, _, _, _, HD.out.frame hbl, HD.out.lowOf hbl⟩)
  by_cases c2 : st.H < x1 + x3
  · rw [if_pos (.inr c2)]
    go_enter Tryd.func37, Tryd.ntmps37
    go_wp2_with fail
    go_region
    all_goals
      go_wp2_with fail
      go_quiet (fail)
      go_wp2_with fail
      all_goals first
        | (exfalso; omega)
        | (go_ret
           have hbl := (below1 (w := w) (o1 := .cells #[.int .i64 x0, .int .i64 x1, .int .i64 x2, .int .i64 x3] 50)).drew.drewN' nq
           exact ⟨rfl, _, _, _, _, _, _, _, _, HD.out.frame hbl, HD.out.lowOf hbl⟩)
  · rw [if_neg (by omega)]
    have HR : Hid (∀ N, CmdPost base p s k w ({ st with wx := x0, wy := x1, ww := x2, wh := x3 }, 0) (.returned (.int .i64 0)) ((((((w.alloc (.cells #[.int .i64 x0, .int .i64 x1, .int .i64 x2, .int .i64 x3] 50)).drewN N).setCell ⟨p, 4, none⟩ (.int .i64 x0)).setCell ⟨p, 5, none⟩ (.int .i64 x1)).setCell ⟨p, 6, none⟩ (.int .i64 x2)).setCell ⟨p, 7, none⟩ (.int .i64 x3))) := by
      intro N
      have hbl := (below1 (w := w) (o1 := .cells #[.int .i64 x0, .int .i64 x1, .int .i64 x2, .int .i64 x3] 50)).drewN' N
      have hd := HD.out.frame hbl
      have hk := (((kept_set1 (w := (w.alloc (.cells #[.int .i64 x0, .int .i64 x1, .int .i64 x2, .int .i64 x3] 50)).drewN N) p 4 (.int .i64 x0)).trans (kept_set1 p 5 (.int .i64 x1))).trans (kept_set1 p 6 (.int .i64 x2))).trans (kept_set1 p 7 (.int .i64 x3))
      refine ⟨rfl, _, _, _, _, _, _, _, _, hd.put (st' := { st with wx := x0, wy := x1, ww := x2, wh := x3 }) (ways' := ways) (k' := k) ?_ hk rfl rfl rfl rfl rfl, (HD.out.lowOf hbl).trans (hd.low hk)⟩
      refine (heap_set_same (heap_set_same (heap_set_same (heap_set_same hd.bp 4 (.int .i64 x0)) 5 (.int .i64 x1)) 6 (.int .i64 x2)) 7 (.int .i64 x3)).trans ?_
      simp only [xcells, qAt, List.setIfInBounds_toArray, List.set_cons_succ, List.set_cons_zero]
    go_enter Tryd.func37, Tryd.ntmps37
    go_wp2_with fail
    go_region
    all_goals
      go_wp2_with fail
      go_quiet (fail)
      go_wp2_with fail
      all_goals first
        | (exfalso; omega)
        | (go_ret
           exact HR.out _)
end
end Go.Proofs.YtifloehpdkfchaaDoor
