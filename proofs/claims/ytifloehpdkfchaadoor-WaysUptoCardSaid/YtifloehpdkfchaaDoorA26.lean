import Derived.Test.YtifloehpdkfchaaDoorA10

namespace Go.Proofs.YtifloehpdkfchaaDoor
open Go.RowKit
section
variable (base : Nat) (p cB zB sB A n : Nat) (s : ByteArray) (k ways : Int) (shV outV : Value) (st : St) (a : ByteArray) (l : List Int) (w : World)

theorem put_stencil (h : Dr base w p cB zB sB A n s k ways shV outV st) (x0 x1 x2 x3 x4 x5 x6 : Int) :
    CmdPost base p s k w ({ st with T := { st.T with test := x0, value := x1, which := x2, writes := x3, fail := x4, dfail := x5, pass := x6 } }, 0) (.returned (.int .i64 0))
      (((((((w.setCell ⟨p, 16, none⟩ (.int .u8 x0)).setCell ⟨p, 17, none⟩ (.int .u8 x1)).setCell ⟨p, 18, none⟩ (.int .u8 x2)).setCell ⟨p, 19, none⟩ (.int .u8 x3)).setCell ⟨p, 20, none⟩ (.int .u8 x4)).setCell ⟨p, 21, none⟩ (.int .u8 x5)).setCell ⟨p, 22, none⟩ (.int .u8 x6)) := by
  have hk := ((((((kept_set1 (w := w) p 16 (.int .u8 x0)).trans (kept_set1 p 17 (.int .u8 x1))).trans (kept_set1 p 18 (.int .u8 x2))).trans (kept_set1 p 19 (.int .u8 x3))).trans (kept_set1 p 20 (.int .u8 x4))).trans (kept_set1 p 21 (.int .u8 x5))).trans (kept_set1 p 22 (.int .u8 x6))
  have hp := heap_set_same (heap_set_same (heap_set_same (heap_set_same (heap_set_same (heap_set_same (heap_set_same h.bp 16 (.int .u8 x0)) 17 (.int .u8 x1)) 18 (.int .u8 x2)) 19 (.int .u8 x3)) 20 (.int .u8 x4)) 21 (.int .u8 x5)) 22 (.int .u8 x6)
  exact ⟨rfl, _, _, _, _, _, _, _, _, h.put (st' := { st with T := { st.T with test := x0, value := x1, which := x2, writes := x3, fail := x4, dfail := x5, pass := x6 } }) (ways' := ways) (k' := k) (hp.trans (by simp only [xcells, qAt, List.setIfInBounds_toArray, List.set_cons_succ, List.set_cons_zero])) hk rfl rfl rfl rfl rfl, h.low hk⟩

set_option maxRecDepth 100000 in
set_option maxHeartbeats 4000000 in
theorem setStencil_in (h : Dr base w p cB zB sB A n s k ways shV outV st) (ha : ArgsOf a l) (hl : l.length = 7) :
    Calls Tryd.prog 36 #[.pointer (some ⟨p, 14, none⟩), .string a] w (CmdPost base p s k w (st.cmd 4 l)) := by
  have cp := cell_of h.bp
  simp only [xcells] at cp
  have fp := frozen_of h.bp
  have hsz := ha.size
  have z0 : (0 : Int) < (a.size : Int) := by omega
  have i0 : 0 < a.size := by omega
  have e0 := ha.u8 0 (by omega) i0
  have z1 : (1 : Int) < (a.size : Int) := by omega
  have i1 : 1 < a.size := by omega
  have e1 := ha.u8 1 (by omega) i1
  have z2 : (2 : Int) < (a.size : Int) := by omega
  have i2 : 2 < a.size := by omega
  have e2 := ha.u8 2 (by omega) i2
  have z3 : (3 : Int) < (a.size : Int) := by omega
  have i3 : 3 < a.size := by omega
  have e3 := ha.u8 3 (by omega) i3
  have z4 : (4 : Int) < (a.size : Int) := by omega
  have i4 : 4 < a.size := by omega
  have e4 := ha.u8 4 (by omega) i4
  have z5 : (5 : Int) < (a.size : Int) := by omega
  have i5 : 5 < a.size := by omega
  have e5 := ha.u8 5 (by omega) i5
  have z6 : (6 : Int) < (a.size : Int) := by omega
  have i6 : 6 < a.size := by omega
  have e6 := ha.u8 6 (by omega) i6
  have HD : Hid (Dr base w p cB zB sB A n s k ways shV outV st) := h
  have hc : st.cmd 4 l = if 7 < l.getD 0 0 ∨ (7 < l.getD 4 0 ∨ 7 < l.getD 5 0 ∨ 7 < l.getD 6 0) then (st, 2) else ({ st with T := { st.T with test := l.getD 0 0, value := l.getD 1 0, which := l.getD 2 0, writes := l.getD 3 0, fail := l.getD 4 0, dfail := l.getD 5 0, pass := l.getD 6 0 } }, 0) := by
    simp [St.cmd, badB, St.does, aboveB]
  rw [hc]
  clear h hc ha hl hsz
  generalize l.getD 0 0 = x0 at *
  generalize l.getD 1 0 = x1 at *
  generalize l.getD 2 0 = x2 at *
  generalize l.getD 3 0 = x3 at *
  generalize l.getD 4 0 = x4 at *
  generalize l.getD 5 0 = x5 at *
  generalize l.getD 6 0 = x6 at *
  by_cases h0 : 7 < x0
  · rw [if_pos (.inl h0)]
    go_enter Tryd.func36, Tryd.ntmps36
    go_wp2_with fail
    go_quiet (fail)
    go_wp2
    go_ret
    exact ⟨rfl, _, _, _, _, _, _, _, _, HD.out.frame ((Below.refl _ _).drewN' nq), HD.out.lowOf ((Below.refl _ _).drewN' nq)⟩
  · by_cases hx : 7 < x4 ∨ 7 < x5 ∨ 7 < x6
    · rw [if_pos (.inr hx)]
      go_enter Tryd.func36, Tryd.ntmps36
      go_wp2_with fail
      go_quiet (fail)
      go_wp2
      all_goals
        go_ret
        exact ⟨rfl, _, _, _, _, _, _, _, _, HD.out.frame ((Below.refl _ _).drewN' nq), HD.out.lowOf ((Below.refl _ _).drewN' nq)⟩
    · rw [if_neg (by omega)]
      have HR : Hid (∀ N, CmdPost base p s k w ({ st with T := { st.T with test := x0, value := x1, which := x2, writes := x3, fail := x4, dfail := x5, pass := x6 } }, 0) (.returned (.int .i64 0))
          ((((((((w.drewN N).setCell ⟨p, 16, none⟩ (.int .u8 x0)).setCell ⟨p, 17, none⟩ (.int .u8 x1)).setCell ⟨p, 18, none⟩ (.int .u8 x2)).setCell ⟨p, 19, none⟩ (.int .u8 x3)).setCell ⟨p, 20, none⟩ (.int .u8 x4)).setCell ⟨p, 21, none⟩ (.int .u8 x5)).setCell ⟨p, 22, none⟩ (.int .u8 x6))) := by
        intro N
        obtain ⟨_, cB', zB', sB', A', n', ways', shV', outV', h2, h3⟩ := put_stencil base p cB zB sB A n s k ways shV outV st (w.drewN N) (HD.out.frame ((Below.refl _ _).drewN' N)) x0 x1 x2 x3 x4 x5 x6
        exact ⟨rfl, cB', zB', sB', A', n', ways', shV', outV', h2, (HD.out.lowOf ((Below.refl _ _).drewN' N)).trans h3⟩
      obtain ⟨M1, e8⟩ : ∃ M1, (if x4 < x5 then x5 else x4) = M1 := ⟨_, rfl⟩
      obtain ⟨M2, e9⟩ : ∃ M2, (if M1 < x6 then x6 else M1) = M2 := ⟨_, rfl⟩
      have hM2 : M2 ≤ 7 := by
        rw [← e9, ← e8]
        split <;> (try split) <;> omega
      clear hx
      go_enter Tryd.func36, Tryd.ntmps36
      go_wp2_with fail
      go_quiet (fail)
      go_wp2_with fail
      all_goals
        go_region
        all_goals
          go_wp2
          go_ret
          exact HR.out _
end
end Go.Proofs.YtifloehpdkfchaaDoor
