import Derived.Test.YthcikinkicpicaaGreatDoorA15

namespace Go.Proofs.YthcikinkicpicaaGreatDoor
open Go.RowKit
section
variable (base : Nat) (p cB zB sB A n : Nat) (s : ByteArray) (k : Int) (ways : Wy) (shV outV : Value) (st : St) (a : ByteArray) (l : List Int) (w : World)

set_option maxRecDepth 100000 in
set_option maxHeartbeats 1000000 in
theorem setWindow_in (h : Dr base w p cB zB sB A n s k ways shV outV st) (ha : ArgsOf a l) (hl : l.length = 4) :
    Calls Tryz.prog 55 #[.pointer (some ⟨p, 2, none⟩), .string a] w (CmdPost base p s k ways w ways.v (st.cmd 5 l)) := by
  have hsz := ha.size
  have z0 : (0 : Int) < (a.size : Int) := by omega
  have z1 : (1 : Int) < (a.size : Int) := by omega
  have z2 : (2 : Int) < (a.size : Int) := by omega
  have z3 : (3 : Int) < (a.size : Int) := by omega
  have i0 : 0 < a.size := by omega
  have i1 : 1 < a.size := by omega
  have i2 : 2 < a.size := by omega
  have i3 : 3 < a.size := by omega
  have e0 := ha.w64 0 (by omega) i0
  have e1 := ha.w64 1 (by omega) i1
  have e2 := ha.w64 2 (by omega) i2
  have e3 := ha.w64 3 (by omega) i3
  have f0 := ha.i64 0 (by omega) i0
  have f1 := ha.i64 1 (by omega) i1
  have f2 := ha.i64 2 (by omega) i2
  have f3 := ha.i64 3 (by omega) i3
  obtain ⟨b0, b0'⟩ := ha.ok.at 0
  obtain ⟨b1, b1'⟩ := ha.ok.at 1
  obtain ⟨b2, b2'⟩ := ha.ok.at 2
  obtain ⟨b3, b3'⟩ := ha.ok.at 3
  have lp := lt_of_heap h.bp
  have hbb : base ≤ w.heap.size := by have := h.b0; omega
  have HD : Hid (Dr base w p cB zB sB A n s k ways shV outV st) := h
  have hc : st.cmd 5 l = if st.W < l.getD 0 0 + l.getD 2 0 ∨ st.H < l.getD 1 0 + l.getD 3 0 then (st, 2) else ({ st with wx := l.getD 0 0, wy := l.getD 1 0, ww := l.getD 2 0, wh := l.getD 3 0 }, 0) := by simp [St.cmd, badB, St.does]
  rw [hc]
  clear h hc ha hl hsz
  generalize l.getD 0 0 = x0 at *
  generalize l.getD 1 0 = x1 at *
  generalize l.getD 2 0 = x2 at *
  generalize l.getD 3 0 = x3 at *
  have g1 : IntKind.i64.wrap (x0 + x2) = x0 + x2 := k64 (by omega)
  have g2 : IntKind.i64.wrap (x1 + x3) = x1 + x3 := k64 (by omega)
  have hb1 := HD.out.frame (below1 (o1 := .cells #[.int .i64 x0, .int .i64 x1, .int .i64 x2, .int .i64 x3] 66))
  have cp := cell_of hb1.bp
  simp only [xcells] at cp
  have fp := frozen_of hb1.bp
  by_cases c1 : st.W < x0 + x2
  · rw [if_pos (.inl c1)]
    go_enter Tryz.func55, Tryz.ntmps55
    go_wp2_with fail
    go_region
    all_goals
      go_wp2_with fail
      go_quiet (fail)
      go_wp2_with fail
      all_goals first
        | (exfalso; omega)
        | (go_ret
           have hbl := (below1 (w := w) (o1 := .cells #[.int .i64 x0, .int .i64 x1, .int .i64 x2, .int .i64 x3] 66)).drew.drewN' nq
           exact ⟨rfl, _, _, _, _, _, _, _, HD.out.frame hbl, HD.out.lowOf hbl⟩)
  by_cases c2 : st.H < x1 + x3
  · rw [if_pos (.inr c2)]
    go_enter Tryz.func55, Tryz.ntmps55
    go_wp2_with fail
    go_region
    all_goals
      go_wp2_with fail
      go_quiet (fail)
      go_wp2_with fail
      all_goals first
        | (exfalso; omega)
        | (go_ret
           have hbl := (below1 (w := w) (o1 := .cells #[.int .i64 x0, .int .i64 x1, .int .i64 x2, .int .i64 x3] 66)).drew.drewN' nq
           exact ⟨rfl, _, _, _, _, _, _, _, HD.out.frame hbl, HD.out.lowOf hbl⟩)
  · rw [if_neg (by omega)]
    have HR : Hid (∀ N, CmdPost base p s k ways w ways.v ({ st with wx := x0, wy := x1, ww := x2, wh := x3 }, 0) (.returned (.int .i64 0)) ((((((w.alloc (.cells #[.int .i64 x0, .int .i64 x1, .int .i64 x2, .int .i64 x3] 66)).drewN N).setCell ⟨p, 4, none⟩ (.int .i64 x0)).setCell ⟨p, 5, none⟩ (.int .i64 x1)).setCell ⟨p, 6, none⟩ (.int .i64 x2)).setCell ⟨p, 7, none⟩ (.int .i64 x3))) := by
      intro N
      have hbl := (below1 (w := w) (o1 := .cells #[.int .i64 x0, .int .i64 x1, .int .i64 x2, .int .i64 x3] 66)).drewN' N
      have hd := HD.out.frame hbl
      have hk := (((kept_set1 (w := (w.alloc (.cells #[.int .i64 x0, .int .i64 x1, .int .i64 x2, .int .i64 x3] 66)).drewN N) p 4 (.int .i64 x0)).trans (kept_set1 p 5 (.int .i64 x1))).trans (kept_set1 p 6 (.int .i64 x2))).trans (kept_set1 p 7 (.int .i64 x3))
      refine ⟨rfl, _, _, _, _, _, _, _, hd.put (st' := { st with wx := x0, wy := x1, ww := x2, wh := x3 }) (k' := k) ?_ hk rfl rfl rfl rfl rfl, (HD.out.lowOf hbl).trans (hd.low hk)⟩
      refine (heap_set_same (heap_set_same (heap_set_same (heap_set_same hd.bp 4 (.int .i64 x0)) 5 (.int .i64 x1)) 6 (.int .i64 x2)) 7 (.int .i64 x3)).trans ?_
      simp only [xcells, qAt, List.setIfInBounds_toArray, List.set_cons_succ, List.set_cons_zero]
    go_enter Tryz.func55, Tryz.ntmps55
    go_wp2_with fail
    go_region
    all_goals
      go_wp2_with fail
      go_quiet (fail)
      go_wp2_with fail
      all_goals first
        | (exfalso; omega)
        | (go_ret
           exact HR.out _)
end
end Go.Proofs.YthcikinkicpicaaGreatDoor

namespace Go.Proofs.YthcikinkicpicaaGreatDoor
open Go.RowKit
section
variable (base : Nat) (p cB zB sB A n : Nat) (s : ByteArray) (k : Int) (ways : Wy) (shV outV : Value) (st : St) (a : ByteArray) (l : List Int) (w : World)

theorem put_stencil (h : Dr base w p cB zB sB A n s k ways shV outV st) (x0 x1 x2 x3 x4 x5 x6 : Int) :
    CmdPost base p s k ways w ways.v ({ st with T := { st.T with test := x0, value := x1, which := x2, writes := x3, fail := x4, dfail := x5, pass := x6 } }, 0) (.returned (.int .i64 0))
      (((((((w.setCell ⟨p, 16, none⟩ (.int .u8 x0)).setCell ⟨p, 17, none⟩ (.int .u8 x1)).setCell ⟨p, 18, none⟩ (.int .u8 x2)).setCell ⟨p, 19, none⟩ (.int .u8 x3)).setCell ⟨p, 20, none⟩ (.int .u8 x4)).setCell ⟨p, 21, none⟩ (.int .u8 x5)).setCell ⟨p, 22, none⟩ (.int .u8 x6)) := by
  have hk := ((((((kept_set1 (w := w) p 16 (.int .u8 x0)).trans (kept_set1 p 17 (.int .u8 x1))).trans (kept_set1 p 18 (.int .u8 x2))).trans (kept_set1 p 19 (.int .u8 x3))).trans (kept_set1 p 20 (.int .u8 x4))).trans (kept_set1 p 21 (.int .u8 x5))).trans (kept_set1 p 22 (.int .u8 x6))
  have hp := heap_set_same (heap_set_same (heap_set_same (heap_set_same (heap_set_same (heap_set_same (heap_set_same h.bp 16 (.int .u8 x0)) 17 (.int .u8 x1)) 18 (.int .u8 x2)) 19 (.int .u8 x3)) 20 (.int .u8 x4)) 21 (.int .u8 x5)) 22 (.int .u8 x6)
  exact ⟨rfl, _, _, _, _, _, _, _, h.put (st' := { st with T := { st.T with test := x0, value := x1, which := x2, writes := x3, fail := x4, dfail := x5, pass := x6 } }) (k' := k) (hp.trans (by simp only [xcells, qAt, List.setIfInBounds_toArray, List.set_cons_succ, List.set_cons_zero])) hk rfl rfl rfl rfl rfl, h.low hk⟩

set_option maxRecDepth 100000 in
set_option maxHeartbeats 4000000 in
theorem setStencil_in (h : Dr base w p cB zB sB A n s k ways shV outV st) (ha : ArgsOf a l) (hl : l.length = 7) :
    Calls Tryz.prog 54 #[.pointer (some ⟨p, 14, none⟩), .string a] w (CmdPost base p s k ways w ways.v (st.cmd 4 l)) := by
  have cp := cell_of h.bp
  simp only [xcells] at cp
  have fp := frozen_of h.bp
  have hsz := ha.size
  have z0 : (0 : Int) < (a.size : Int) := by omega
  have i0 : 0 < a.size := by omega
  have e0 := ha.u8 0 (by omega) i0
  have z1 : (1 : Int) < (a.size : Int) := by omega
  have i1 : 1 < a.size := by omega
  have e1 := ha.u8 1 (by omega) i1
  have z2 : (2 : Int) < (a.size : Int) := by omega
  have i2 : 2 < a.size := by omega
  have e2 := ha.u8 2 (by omega) i2
  have z3 : (3 : Int) < (a.size : Int) := by omega
  have i3 : 3 < a.size := by omega
  have e3 := ha.u8 3 (by omega) i3
  have z4 : (4 : Int) < (a.size : Int) := by omega
  have i4 : 4 < a.size := by omega
  have e4 := ha.u8 4 (by omega) i4
  have z5 : (5 : Int) < (a.size : Int) := by omega
  have i5 : 5 < a.size := by omega
  have e5 := ha.u8 5 (by omega) i5
  have z6 : (6 : Int) < (a.size : Int) := by omega
  have i6 : 6 < a.size := by omega
  have e6 := ha.u8 6 (by omega) i6
  have HD : Hid (Dr base w p cB zB sB A n s k ways shV outV st) := h
  have hc : st.cmd 4 l = if 7 < l.getD 0 0 ∨ (7 < l.getD 4 0 ∨ 7 < l.getD 5 0 ∨ 7 < l.getD 6 0) then (st, 2) else ({ st with T := { st.T with test := l.getD 0 0, value := l.getD 1 0, which := l.getD 2 0, writes := l.getD 3 0, fail := l.getD 4 0, dfail := l.getD 5 0, pass := l.getD 6 0 } }, 0) := by
    simp [St.cmd, badB, St.does, aboveB]
  rw [hc]
  clear h hc ha hl hsz
  generalize l.getD 0 0 = x0 at *
  generalize l.getD 1 0 = x1 at *
  generalize l.getD 2 0 = x2 at *
  generalize l.getD 3 0 = x3 at *
  generalize l.getD 4 0 = x4 at *
  generalize l.getD 5 0 = x5 at *
  generalize l.getD 6 0 = x6 at *
  by_cases h0 : 7 < x0
  · rw [if_pos (.inl h0)]
    go_enter Tryz.func54, Tryz.ntmps54
    go_wp2_with fail
    go_quiet (fail)
    go_wp2
    go_ret
    exact ⟨rfl, _, _, _, _, _, _, _, HD.out.frame ((Below.refl _ _).drewN' nq), HD.out.lowOf ((Below.refl _ _).drewN' nq)⟩
  · by_cases hx : 7 < x4 ∨ 7 < x5 ∨ 7 < x6
    · rw [if_pos (.inr hx)]
      go_enter Tryz.func54, Tryz.ntmps54
      go_wp2_with fail
      go_quiet (fail)
      go_wp2
      all_goals
        go_ret
        exact ⟨rfl, _, _, _, _, _, _, _, HD.out.frame ((Below.refl _ _).drewN' nq), HD.out.lowOf ((Below.refl _ _).drewN' nq)⟩
    · rw [if_neg (by omega)]
      have HR : Hid (∀ N, CmdPost base p s k ways w ways.v ({ st with T := { st.T with test := x0, value := x1, which := x2, writes := x3, fail := x4, dfail := x5, pass := x6 } }, 0) (.returned (.int .i64 0))
          ((((((((w.drewN N).setCell ⟨p, 16, none⟩ (.int .u8 x0)).setCell ⟨p, 17, none⟩ (.int .u8 x1)).setCell ⟨p, 18, none⟩ (.int .u8 x2)).setCell ⟨p, 19, none⟩ (.int .u8 x3)).setCell ⟨p, 20, none⟩ (.int .u8 x4)).setCell ⟨p, 21, none⟩ (.int .u8 x5)).setCell ⟨p, 22, none⟩ (.int .u8 x6))) := by
        intro N
        obtain ⟨_, cB', zB', sB', A', n', shV', outV', h2, h3⟩ := put_stencil base p cB zB sB A n s k ways shV outV st (w.drewN N) (HD.out.frame ((Below.refl _ _).drewN' N)) x0 x1 x2 x3 x4 x5 x6
        exact ⟨rfl, cB', zB', sB', A', n', shV', outV', h2, (HD.out.lowOf ((Below.refl _ _).drewN' N)).trans h3⟩
      obtain ⟨M1, e8⟩ : ∃ M1, (if x4 < x5 then x5 else x4) = M1 := ⟨_, rfl⟩
      obtain ⟨M2, e9⟩ : ∃ M2, (if M1 < x6 then x6 else M1) = M2 := ⟨_, rfl⟩
      have hM2 : M2 ≤ 7 := by
        rw [← e9, ← e8]
        split <;> (try split) <;> omega
      clear hx
      go_enter Tryz.func54, Tryz.ntmps54
      go_wp2_with fail
      go_quiet (fail)
      go_wp2_with fail
      all_goals
        go_region
        all_goals
          go_wp2
          go_ret
          exact HR.out _
end
end Go.Proofs.YthcikinkicpicaaGreatDoor

namespace Go.Proofs.YthcikinkicpicaaGreatDoor
open Go.RowKit

/-- The program's table (its only variable), as its initialiser lays it. -/
def tabL : List Int := [0, 2, 7, 2, 7, 4, 1, 1, 1, 27, 1, 1, 1, 3, 1]
def TabW (w : World) : Prop := ∀ i, i < tabL.length → w.cell? ⟨0, i, none⟩ = some (.int .i64 (tabL.getD i 0))

theorem tab_at (w : World) (h : TabW w) (x : Int) (h0 : 1 ≤ x) (h1 : x < 15) : w.cell? ⟨0, x.toNat, none⟩ = some (.int .i64 (kindLen x)) := by
  have hx : x = 1 ∨ x = 2 ∨ x = 3 ∨ x = 4 ∨ x = 5 ∨ x = 6 ∨ x = 7 ∨ x = 8 ∨ x = 9 ∨ x = 10 ∨ x = 11 ∨ x = 12 ∨ x = 13 ∨ x = 14 := by omega
  rw [h x.toNat (by show x.toNat < 15; omega)]
  rcases hx with rfl | rfl | rfl | rfl | rfl | rfl | rfl | rfl | rfl | rfl | rfl | rfl | rfl | rfl <;> rfl
theorem kindLen_bd (x : Int) (h0 : 1 ≤ x) (h1 : x < 15) : 1 ≤ kindLen x ∧ kindLen x ≤ 27 := by
  have hx : x = 1 ∨ x = 2 ∨ x = 3 ∨ x = 4 ∨ x = 5 ∨ x = 6 ∨ x = 7 ∨ x = 8 ∨ x = 9 ∨ x = 10 ∨ x = 11 ∨ x = 12 ∨ x = 13 ∨ x = 14 := by omega
  rcases hx with rfl | rfl | rfl | rfl | rfl | rfl | rfl | rfl | rfl | rfl | rfl | rfl | rfl | rfl <;> decide
theorem kindLen_none' (x : Int) (h : x < 1 ∨ 15 ≤ x) : kindLen x = -1 := by
  unfold kindLen
  rw [if_neg (by omega), if_neg (by omega), if_neg (by omega), if_neg (by omega), if_neg (by omega), if_neg (by omega), if_neg (by omega), if_neg (by omega), if_neg (by omega), if_neg (by omega), if_neg (by omega), if_neg (by omega), if_neg (by omega), if_neg (by omega)]

theorem args_of (s : ByteArray) (k m : Nat) (h : k + m ≤ s.size) : ArgsOf ((s.extract k s.size).extract 0 m) (argsAt s k m) := by
  refine ⟨by rw [argsAt_len]; simp; omega, fun j hj => ?_, argsAt_ok s k m⟩
  rw [argsAt_len] at hj
  rw [argsAt_get s k m j hj, byteAt_extract _ 0 m j (by omega) (by simp; omega), byteAt_extract s k s.size (0 + j) (by omega) (Nat.le_refl _)]
  congr 1
  omega

section
variable (base : Nat) (p cB zB sB A n : Nat) (s : ByteArray) (k : Nat) (ways : Wy) (shV outV : Value) (st : St) (w : World)

/-- What taking a command leaves. -/
def NextPost (e : Ending) (w' : World) : Prop :=
  if lenAt s k < 0 ∨ (s.size : Int) < k + 1 + lenAt s k then e = .returned (.tuple #[.int .i64 0, .string ⟨#[]⟩, .bool false]) ∧ Below w.heap.size w w'
  else ∃ a, e = .returned (.tuple #[.int .i64 (byteAt s k), .string a, .bool true]) ∧ ArgsOf a (argsAt s (k + 1) (lenAt s k).toNat) ∧
    Dr base w' p cB zB sB A n s ((k + 1 + (lenAt s k).toNat : Nat) : Int) ways shV outV st ∧ Low base w w' ∧ Kept (· = p) w w'

set_option maxRecDepth 100000 in
set_option maxHeartbeats 2000000 in
theorem next_in (h : Dr base w p cB zB sB A n s k ways shV outV st) (hk : k < s.size) (hs : s.size ≤ 100000000000) (ht : TabW w) (_hp0 : 0 < p) :
    Calls Tryz.prog 65 #[.pointer (some ⟨p, 0, none⟩)] w (NextPost base p cB zB sB A n s k ways shV outV st w) := by
  have cp := cell_of h.bp
  simp only [xcells] at cp
  have fp := frozen_of h.bp
  have ek := byte_wrap s k hk
  obtain ⟨b0, b1⟩ := byteAt_bd s k
  have htab := tab_at w ht (byteAt s k)
  have hbd := kindLen_bd (byteAt s k)
  have i1 : (k : Int) < (s.size : Int) := by omega
  have wk : IntKind.i64.wrap ((k : Int) + 1) = (k : Int) + 1 := k64 (by omega)
  have HD : Hid (Dr base w p cB zB sB A n s k ways shV outV st) := h
  have hlen : lenAt s k = if byteAt s k = 8 then (if s.size ≤ k + 1 then -2 else 1 + 4 * byteAt s (k + 1)) else kindLen (byteAt s k) := rfl
  have HN : Hid (∀ e w', NextPost base p cB zB sB A n s k ways shV outV st w e w' ↔ NextPost base p cB zB sB A n s k ways shV outV st w e w') := fun _ _ => Iff.rfl
  generalize hx : byteAt s k = x at *
  clear h ht
  by_cases hb : x < 1 ∨ 15 ≤ x
  · have HP : Hid (∀ w', Below w.heap.size w w' → NextPost base p cB zB sB A n s k ways shV outV st w (.returned (.tuple #[.int .i64 0, .string ⟨#[]⟩, .bool false])) w') := by
      intro w' hbw
      unfold NextPost
      rw [if_pos (by rw [hlen, if_neg (by omega), kindLen_none' x hb]; omega)]
      exact ⟨rfl, hbw⟩
    clear htab hbd hlen HN
    go_enter Tryz.func65, Tryz.ntmps65
    go_wp2_with fail
    go_quiet (fail)
    go_wp2_with fail
    all_goals
      refine bodyPost_ret (v := .tuple #[.int .i64 0, .string ⟨#[]⟩, .bool false]) (by simp [results, Tryz.results65, go_sem]) rfl ?_
      exact HP.out _ ((Below.refl _ _).drewN' nq)
  · have hx1 : 1 ≤ x := by omega
    have hx2 : x < 15 := by omega
    have ht := htab hx1 hx2
    obtain ⟨m1, m2⟩ := hbd hx1 hx2
    clear htab hbd HN
    have hsz : (s.extract (k + 1) s.size).size = s.size - (k + 1) := by simp
    have z1 : (k : Int) + 1 ≤ (s.size : Int) := by omega
    have b15 : (x == 0) = false := by simp; omega
    have t1 : ((k : Int) + 1).toNat = k + 1 := by omega
    have t2 : (0 : Int) ≤ (k : Int) + 1 := by omega
    -- what is left when the command is whole, m bytes behind its kind
    have HOK : Hid (∀ m : Nat, lenAt s k = m → k + 1 + m ≤ s.size → ∀ N N' : Nat, NextPost base p cB zB sB A n s k ways shV outV st w (.returned (.tuple #[.int .i64 x, .string ((s.extract (k + 1) s.size).extract 0 m), .bool true])) (((w.drewN N).setCell ⟨p, 1, none⟩ (.int .i64 ((k : Int) + (1 + (m : Int))))).drewN N')) := by
      intro m hm hle N N'
      unfold NextPost
      rw [if_neg (by rw [hm]; omega), hm, hx]
      have e1 : ((m : Int)).toNat = m := rfl
      rw [e1]
      have hk1 : Kept (· = p) w (((w.drewN N).setCell ⟨p, 1, none⟩ (.int .i64 ((k : Int) + (1 + (m : Int))))).drewN N') := (((Kept.refl (· = p) w).drewN N).trans (kept_set1 p _ _)).drewN N'
      have hh := heap_set_same (w := w.drewN N) HD.out.bp 1 (.int .i64 ((k : Int) + (1 + (m : Int))))
      have e2 : (k : Int) + (1 + (m : Int)) = ((k + 1 + m : Nat) : Int) := by omega
      rw [e2] at hh hk1 ⊢
      exact ⟨_, rfl, args_of s (k + 1) m (by omega), HD.out.put (st' := st) hh hk1 rfl rfl rfl rfl rfl, HD.out.low hk1, hk1⟩
    have HNO : Hid (∀ m : Nat, (lenAt s k = m ∧ s.size < k + 1 + m) ∨ lenAt s k < 0 → ∀ n', NextPost base p cB zB sB A n s k ways shV outV st w (.returned (.tuple #[.int .i64 0, .string ⟨#[]⟩, .bool false])) (w.drewN n')) := by
      intro m hm n'
      unfold NextPost
      rw [if_pos (by omega)]
      exact ⟨rfl, (Below.refl _ _).drewN' n'⟩
    by_cases h8 : x = 8
    · subst h8
      rw [if_pos rfl] at hlen
      clear hb hx
      have hk8 : kindLen 8 = 1 := rfl
      rw [hk8] at ht
      have ht8 : w.cell? ⟨0, 8, none⟩ = some (.int .i64 1) := ht
      clear m1 m2 hk8 ht
      by_cases hr : s.size ≤ k + 1
      · have HP : Hid (∀ n', NextPost base p cB zB sB A n s k ways shV outV st w (.returned (.tuple #[.int .i64 0, .string ⟨#[]⟩, .bool false])) (w.drewN n')) := HNO.out 0 (.inr (by rw [hlen, if_pos hr]; omega))
        have hsz0 : s.size - (k + 1) = 0 := by omega
        rw [hsz0] at hsz
        clear HNO HOK hlen
        go_enter Tryz.func65, Tryz.ntmps65
        go_wp2_with fail
        go_quiet (fail)
        go_wp2_with fail
        go_quiet (fail)
        go_wp2_with fail
        all_goals
          refine bodyPost_ret (v := .tuple #[.int .i64 0, .string ⟨#[]⟩, .bool false]) (by simp [results, Tryz.results65, go_sem]) rfl ?_
          exact HP.out _
      · rw [if_neg hr] at hlen
        obtain ⟨c0, c1⟩ := byteAt_bd s (k + 1)
        have hrz : 0 < (s.extract (k + 1) s.size).size := by omega
        have ec : IntKind.i64.wrap (((s.extract (k + 1) s.size)[0]'hrz).toNat : Int) = byteAt s (k + 1) := by
          rw [byte_wrap _ 0 hrz, byteAt_extract s (k + 1) s.size 0 (by omega) (Nat.le_refl _)]
        generalize hy : byteAt s (k + 1) = y at *
        obtain ⟨Y, rfl⟩ := Int.eq_ofNat_of_zero_le c0
        have w4 : IntKind.i64.wrap ((Y : Int) * 4) = (Y : Int) * 4 := k64 (by omega)
        have w5 : IntKind.i64.wrap (1 + (Y : Int) * 4) = ((1 + Y * 4 : Nat) : Int) := by rw [k64 (by omega)]; omega
        have hlen' : lenAt s k = ((1 + Y * 4 : Nat) : Int) := by rw [hlen]; omega
        have hm2 : 1 + Y * 4 ≤ 2000 := by omega
        generalize 1 + Y * 4 = m at *
        have wm : IntKind.i64.wrap (1 + (m : Int)) = 1 + (m : Int) := k64 (by omega)
        have wkm : IntKind.i64.wrap ((k : Int) + (1 + (m : Int))) = (k : Int) + (1 + (m : Int)) := k64 (by omega)
        have z3 : (0 : Int) < ((s.size - (k + 1) : Nat) : Int) := by omega
        have HLEN : Hid (lenAt s k = (m : Int)) := hlen'
        clear hlen hlen' hy hr
        by_cases hle : k + 1 + m ≤ s.size
        · have HK : Hid (∀ N N' : Nat, NextPost base p cB zB sB A n s k ways shV outV st w (.returned (.tuple #[.int .i64 8, .string ((s.extract (k + 1) s.size).extract 0 m), .bool true])) (((w.drewN N).setCell ⟨p, 1, none⟩ (.int .i64 ((k : Int) + (1 + (m : Int))))).drewN N')) := HOK.out m HLEN.out hle
          have hle' : (m : Int) ≤ ((s.size - (k + 1) : Nat) : Int) := by omega
          clear HNO HOK HLEN
          go_enter Tryz.func65, Tryz.ntmps65
          go_wp2_with fail
          go_quiet (fail)
          go_wp2_with fail
          go_quiet (fail)
          go_wp2_with fail
          go_quiet (fail)
          go_wp2_with fail
          all_goals
            refine bodyPost_ret (v := .tuple #[.int .i64 8, .string ((s.extract (k + 1) s.size).extract 0 m), .bool true]) (by simp [results, Tryz.results65, go_sem]) rfl ?_
            exact HK.out _ _
        · have HP : Hid (∀ n', NextPost base p cB zB sB A n s k ways shV outV st w (.returned (.tuple #[.int .i64 0, .string ⟨#[]⟩, .bool false])) (w.drewN n')) := HNO.out m (.inl ⟨HLEN.out, by omega⟩)
          have hle' : ((s.size - (k + 1) : Nat) : Int) < (m : Int) := by omega
          clear HNO HOK HLEN
          go_enter Tryz.func65, Tryz.ntmps65
          go_wp2_with fail
          go_quiet (fail)
          go_wp2_with fail
          go_quiet (fail)
          go_wp2_with fail
          all_goals
            refine bodyPost_ret (v := .tuple #[.int .i64 0, .string ⟨#[]⟩, .bool false]) (by simp [results, Tryz.results65, go_sem]) rfl ?_
            exact HP.out _
    · rw [if_neg h8] at hlen
      obtain ⟨m, hm⟩ := Int.eq_ofNat_of_zero_le (show 0 ≤ kindLen x by omega)
      rw [hm] at ht m1 m2 hlen
      have b8 : (x == 8) = false := by simpa using h8
      have wm : IntKind.i64.wrap (1 + (m : Int)) = 1 + (m : Int) := k64 (by omega)
      have wkm : IntKind.i64.wrap ((k : Int) + (1 + (m : Int))) = (k : Int) + (1 + (m : Int)) := k64 (by omega)
      have HLEN : Hid (lenAt s k = (m : Int)) := hlen
      clear hm hlen h8 hb hx
      have x0 : 0 ≤ x := by omega
      by_cases hle : k + 1 + m ≤ s.size
      · have HK : Hid (∀ N N' : Nat, NextPost base p cB zB sB A n s k ways shV outV st w (.returned (.tuple #[.int .i64 x, .string ((s.extract (k + 1) s.size).extract 0 m), .bool true])) (((w.drewN N).setCell ⟨p, 1, none⟩ (.int .i64 ((k : Int) + (1 + (m : Int))))).drewN N')) := HOK.out m HLEN.out hle
        have hle' : (m : Int) ≤ ((s.size - (k + 1) : Nat) : Int) := by omega
        clear HNO HOK HLEN
        go_enter Tryz.func65, Tryz.ntmps65
        go_wp2_with fail
        go_quiet (fail)
        go_wp2_with fail
        go_quiet (fail)
        go_wp2_with fail
        go_quiet (fail)
        go_wp2_with fail
        all_goals
          refine bodyPost_ret (v := .tuple #[.int .i64 x, .string ((s.extract (k + 1) s.size).extract 0 m), .bool true]) (by simp [results, Tryz.results65, go_sem]) rfl ?_
          exact HK.out _ _
      · have HP : Hid (∀ n', NextPost base p cB zB sB A n s k ways shV outV st w (.returned (.tuple #[.int .i64 0, .string ⟨#[]⟩, .bool false])) (w.drewN n')) := HNO.out m (.inl ⟨HLEN.out, by omega⟩)
        have hle' : ((s.size - (k + 1) : Nat) : Int) < (m : Int) := by omega
        clear HNO HOK HLEN
        go_enter Tryz.func65, Tryz.ntmps65
        go_wp2_with fail
        go_quiet (fail)
        go_wp2_with fail
        go_quiet (fail)
        go_wp2_with fail
        all_goals
          refine bodyPost_ret (v := .tuple #[.int .i64 0, .string ⟨#[]⟩, .bool false]) (by simp [results, Tryz.results65, go_sem]) rfl ?_
          exact HP.out _
end
end Go.Proofs.YthcikinkicpicaaGreatDoor
