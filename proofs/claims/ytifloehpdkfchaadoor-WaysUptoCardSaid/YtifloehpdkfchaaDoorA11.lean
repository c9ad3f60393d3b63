import Derived.Test.YtifloehpdkfchaaDoorA10

namespace Go.Proofs.YtifloehpdkfchaaDoor
open Go.RowKit
section
variable (base : Nat) (p cB zB sB A n : Nat) (s : ByteArray) (k ways : Int) (shV outV : Value) (st : St) (a : ByteArray) (l : List Int) (w : World)

theorem four (st : St) (h : st.qs.length = 4) : ∃ q0 q1 q2 q3, st.qs = [q0, q1, q2, q3] := by
  obtain ⟨W, H, dots, T, wx, wy, ww, wh, sh, qs, work, out⟩ := st
  dsimp only at h ⊢
  match qs, h with
  | [a, b, c, d], _ => exact ⟨a, b, c, d, rfl⟩

set_option maxRecDepth 100000 in
set_option maxHeartbeats 400000 in
theorem begin_in (h : Dr base w p cB zB sB A n s k ways shV outV st) (ha : ArgsOf a l) (hl : l.length = 1) (hq : st.qs.length = 4) :
    Calls Tryd.prog 42 #[.pointer (some ⟨p, 27, none⟩), .string a] w (CmdPost base p s k w (st.cmd 10 l)) := by
  obtain ⟨q0, q1, q2, q3, hqs⟩ := four st hq
  have cp := cell_of h.bp
  have fp := frozen_of h.bp
  have z0 : (0 : Int) < (a.size : Int) := by have := ha.size; omega
  have i0 : 0 < a.size := by have := ha.size; omega
  have e0 := ha.u8 0 (by omega) i0
  obtain ⟨b0, b1⟩ := ha.ok.at 0
  have HD : Hid (Dr base w p cB zB sB A n s k ways shV outV st) := h
  have hc : st.cmd 10 l = if 4 ≤ l.getD 0 0 then (st, 2) else st.query 10 (l.getD 0 0) := by simp [St.cmd, badB, St.does]
  have HP : Hid (∀ (i : Nat) (q : Qry) (W : World), W.heap[p]? = some (.cells (xcells { st with qs := st.qs.set i q } s k ways cB zB sB A n shV outV) 74 (0, 0)) → Kept (· = p) w W → CmdPost base p s k w ({ st with qs := st.qs.set i q }, 0) (.returned (.int .i64 0)) W) :=
    fun i q W hW hk => ⟨rfl, _, _, _, _, _, _, _, _, HD.out.put hW hk rfl rfl rfl rfl rfl, HD.out.low hk⟩
  have HB : Hid (w.heap[p]? = some (.cells (xcells st s k ways cB zB sB A n shV outV) 74 (0, 0))) := h.bp
  rw [hc]
  clear h hc ha hl
  simp only [xcells, qAt, hqs, List.getD_cons_zero, List.getD_cons_succ] at cp
  generalize l.getD 0 0 = x0 at *
  by_cases hx : 4 ≤ x0
  · rw [if_pos hx]
    go_enter Tryd.func42, Tryd.ntmps42
    go_wp2
    go_ret
    exact ⟨rfl, _, _, _, _, _, _, _, _, HD.out, Low.refl _ _⟩
  · rw [if_neg hx]
    have hx' : x0 = 0 ∨ x0 = 1 ∨ x0 = 2 ∨ x0 = 3 := by omega
    clear hx b0 b1
    rcases hx' with rfl | rfl | rfl | rfl
    · cases hon : q0.on
      · have hr : st.query 10 0 = ({ st with qs := st.qs.set 0 { ever := true, on := true, n := 0 } }, 0) := by simp [St.query, hqs, hon]
        rw [hr]
        go_enter Tryd.func42, Tryd.ntmps42
        go_wp2
        go_ret
        refine HP.out 0 _ _ ?_ ?_
        · rw [heap_set_same (heap_set_same (heap_set_same HB.out _ _) _ _) _ _]; simp [xcells, qAt, hqs]
        · exact (kept_set1 p _ _).trans ((kept_set1 p _ _).trans (kept_set1 p _ _))
      · have hr : st.query 10 0 = (st, 3) := by simp [St.query, hqs, hon]
        rw [hr]
        go_enter Tryd.func42, Tryd.ntmps42
        go_wp2
        go_ret
        exact ⟨rfl, _, _, _, _, _, _, _, _, HD.out, Low.refl _ _⟩
    · cases hon : q1.on
      · have hr : st.query 10 1 = ({ st with qs := st.qs.set 1 { ever := true, on := true, n := 0 } }, 0) := by simp [St.query, hqs, hon]
        rw [hr]
        go_enter Tryd.func42, Tryd.ntmps42
        go_wp2
        go_ret
        refine HP.out 1 _ _ ?_ ?_
        · rw [heap_set_same (heap_set_same (heap_set_same HB.out _ _) _ _) _ _]; simp [xcells, qAt, hqs]
        · exact (kept_set1 p _ _).trans ((kept_set1 p _ _).trans (kept_set1 p _ _))
      · have hr : st.query 10 1 = (st, 3) := by simp [St.query, hqs, hon]
        rw [hr]
        go_enter Tryd.func42, Tryd.ntmps42
        go_wp2
        go_ret
        exact ⟨rfl, _, _, _, _, _, _, _, _, HD.out, Low.refl _ _⟩
    · cases hon : q2.on
      · have hr : st.query 10 2 = ({ st with qs := st.qs.set 2 { ever := true, on := true, n := 0 } }, 0) := by simp [St.query, hqs, hon]
        rw [hr]
        go_enter Tryd.func42, Tryd.ntmps42
        go_wp2
        go_ret
        refine HP.out 2 _ _ ?_ ?_
        · rw [heap_set_same (heap_set_same (heap_set_same HB.out _ _) _ _) _ _]; simp [xcells, qAt, hqs]
        · exact (kept_set1 p _ _).trans ((kept_set1 p _ _).trans (kept_set1 p _ _))
      · have hr : st.query 10 2 = (st, 3) := by simp [St.query, hqs, hon]
        rw [hr]
        go_enter Tryd.func42, Tryd.ntmps42
        go_wp2
        go_ret
        exact ⟨rfl, _, _, _, _, _, _, _, _, HD.out, Low.refl _ _⟩
    · cases hon : q3.on
      · have hr : st.query 10 3 = ({ st with qs := st.qs.set 3 { ever := true, on := true, n := 0 } }, 0) := by simp [St.query, hqs, hon]
        rw [hr]
        go_enter Tryd.func42, Tryd.ntmps42
        go_wp2
        go_ret
        refine HP.out 3 _ _ ?_ ?_
        · rw [heap_set_same (heap_set_same (heap_set_same HB.out _ _) _ _) _ _]; simp [xcells, qAt, hqs]
        · exact (kept_set1 p _ _).trans ((kept_set1 p _ _).trans (kept_set1 p _ _))
      · have hr : st.query 10 3 = (st, 3) := by simp [St.query, hqs, hon]
        rw [hr]
        go_enter Tryd.func42, Tryd.ntmps42
        go_wp2
        go_ret
        exact ⟨rfl, _, _, _, _, _, _, _, _, HD.out, Low.refl _ _⟩

set_option maxRecDepth 100000 in
set_option maxHeartbeats 400000 in
theorem end_in (h : Dr base w p cB zB sB A n s k ways shV outV st) (ha : ArgsOf a l) (hl : l.length = 1) (hq : st.qs.length = 4) :
    Calls Tryd.prog 43 #[.pointer (some ⟨p, 27, none⟩), .string a] w (CmdPost base p s k w (st.cmd 11 l)) := by
  obtain ⟨q0, q1, q2, q3, hqs⟩ := four st hq
  have cp := cell_of h.bp
  have fp := frozen_of h.bp
  have z0 : (0 : Int) < (a.size : Int) := by have := ha.size; omega
  have i0 : 0 < a.size := by have := ha.size; omega
  have e0 := ha.u8 0 (by omega) i0
  obtain ⟨b0, b1⟩ := ha.ok.at 0
  have HD : Hid (Dr base w p cB zB sB A n s k ways shV outV st) := h
  have hc : st.cmd 11 l = if 4 ≤ l.getD 0 0 then (st, 2) else st.query 11 (l.getD 0 0) := by simp [St.cmd, badB, St.does]
  have HP : Hid (∀ (i : Nat) (q : Qry) (W : World), W.heap[p]? = some (.cells (xcells { st with qs := st.qs.set i q } s k ways cB zB sB A n shV outV) 74 (0, 0)) → Kept (· = p) w W → CmdPost base p s k w ({ st with qs := st.qs.set i q }, 0) (.returned (.int .i64 0)) W) :=
    fun i q W hW hk => ⟨rfl, _, _, _, _, _, _, _, _, HD.out.put hW hk rfl rfl rfl rfl rfl, HD.out.low hk⟩
  have HB : Hid (w.heap[p]? = some (.cells (xcells st s k ways cB zB sB A n shV outV) 74 (0, 0))) := h.bp
  rw [hc]
  clear h hc ha hl
  simp only [xcells, qAt, hqs, List.getD_cons_zero, List.getD_cons_succ] at cp
  generalize l.getD 0 0 = x0 at *
  by_cases hx : 4 ≤ x0
  · rw [if_pos hx]
    go_enter Tryd.func43, Tryd.ntmps43
    go_wp2
    go_ret
    exact ⟨rfl, _, _, _, _, _, _, _, _, HD.out, Low.refl _ _⟩
  · rw [if_neg hx]
    have hx' : x0 = 0 ∨ x0 = 1 ∨ x0 = 2 ∨ x0 = 3 := by omega
    clear hx b0 b1
    rcases hx' with rfl | rfl | rfl | rfl
    · cases hon : q0.on
      · have hr : st.query 11 0 = (st, 4) := by simp [St.query, hqs, hon]
        rw [hr]
        go_enter Tryd.func43, Tryd.ntmps43
        go_wp2
        go_ret
        exact ⟨rfl, _, _, _, _, _, _, _, _, HD.out, Low.refl _ _⟩
      · have hr : st.query 11 0 = ({ st with qs := st.qs.set 0 { q0 with on := false } }, 0) := by simp [St.query, hqs, hon]
        rw [hr]
        go_enter Tryd.func43, Tryd.ntmps43
        go_wp2
        go_ret
        refine HP.out 0 _ _ ?_ ?_
        · rw [heap_set_same HB.out _ _]; simp [xcells, qAt, hqs]
        · exact kept_set1 p _ _
    · cases hon : q1.on
      · have hr : st.query 11 1 = (st, 4) := by simp [St.query, hqs, hon]
        rw [hr]
        go_enter Tryd.func43, Tryd.ntmps43
        go_wp2
        go_ret
        exact ⟨rfl, _, _, _, _, _, _, _, _, HD.out, Low.refl _ _⟩
      · have hr : st.query 11 1 = ({ st with qs := st.qs.set 1 { q1 with on := false } }, 0) := by simp [St.query, hqs, hon]
        rw [hr]
        go_enter Tryd.func43, Tryd.ntmps43
        go_wp2
        go_ret
        refine HP.out 1 _ _ ?_ ?_
        · rw [heap_set_same HB.out _ _]; simp [xcells, qAt, hqs]
        · exact kept_set1 p _ _
    · cases hon : q2.on
      · have hr : st.query 11 2 = (st, 4) := by simp [St.query, hqs, hon]
        rw [hr]
        go_enter Tryd.func43, Tryd.ntmps43
        go_wp2
        go_ret
        exact ⟨rfl, _, _, _, _, _, _, _, _, HD.out, Low.refl _ _⟩
      · have hr : st.query 11 2 = ({ st with qs := st.qs.set 2 { q2 with on := false } }, 0) := by simp [St.query, hqs, hon]
        rw [hr]
        go_enter Tryd.func43, Tryd.ntmps43
        go_wp2
        go_ret
        refine HP.out 2 _ _ ?_ ?_
        · rw [heap_set_same HB.out _ _]; simp [xcells, qAt, hqs]
        · exact kept_set1 p _ _
    · cases hon : q3.on
      · have hr : st.query 11 3 = (st, 4) := by simp [St.query, hqs, hon]
        rw [hr]
        go_enter Tryd.func43, Tryd.ntmps43
        go_wp2
        go_ret
        exact ⟨rfl, _, _, _, _, _, _, _, _, HD.out, Low.refl _ _⟩
      · have hr : st.query 11 3 = ({ st with qs := st.qs.set 3 { q3 with on := false } }, 0) := by simp [St.query, hqs, hon]
        rw [hr]
        go_enter Tryd.func43, Tryd.ntmps43
        go_wp2
        go_ret
        refine HP.out 3 _ _ ?_ ?_
        · rw [heap_set_same HB.out _ _]; simp [xcells, qAt, hqs]
        · exact kept_set1 p _ _
end
end Go.Proofs.YtifloehpdkfchaaDoor
