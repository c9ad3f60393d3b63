import Derived.Test.YthcikinkicpicaaGreatDoorA15
import Derived.Test.YthcikinkicpicaaGreatDoorA20
import Derived.Test.YthcikinkicpicaaGreatDoorA16

namespace Go.Proofs.YthcikinkicpicaaGreatDoor
open Go.RowKit

section
variable (base : Nat) (p cB zB sB A n : Nat) (s : ByteArray) (k : Int) (ways : Wy) (shV outV : Value) (st : St) (a : ByteArray) (l : List Int) (w : World)

set_option maxRecDepth 100000 in
set_option maxHeartbeats 400000 in
theorem fault_in (h : Dr base w p cB zB sB A n s k ways shV outV st) (e j : Int) (hlen : st.out.length ≤ 1000000000000) :
    Calls Tryz.prog 66 #[.pointer (some ⟨p, 0, none⟩), .int .i64 e, .int .i64 j] w (RepPost base p cB zB sB A n s k ways shV st w { k := 0, a := e, b := j, c := 0 }) := by
  have hr := reply_in base p cB zB sB A n s k ways shV outV st w h { k := 0, a := e, b := j, c := 0 } hlen
  have HR : Hid (Calls Tryz.prog 96 #[.pointer (some ⟨p, 0, none⟩), .agg #[.int .i64 0, .int .i64 e, .int .i64 j, .int .i64 0]] w (RepPost base p cB zB sB A n s k ways shV st w { k := 0, a := e, b := j, c := 0 })) := hr
  clear hr h
  go_enter Tryz.func66, Tryz.ntmps66
  go_wp2_with fail
  refine HR.out.mono ?_
  rintro e' w1 ⟨rfl, hx⟩
  go_wp2_with fail
  go_end0
  exact ⟨rfl, hx⟩

set_option maxRecDepth 100000 in
set_option maxHeartbeats 400000 in
theorem counted_in (h : Dr base w p cB zB sB A n s k ways shV outV st) (_hq : st.qs.length = 4) (x : Int) (x0 : 0 ≤ x) (x1 : x ≤ 255) :
    Calls Tryz.prog 99 #[.pointer (some ⟨p, 29, none⟩), .int .i64 x] w fun e w' =>
      e = .returned (.tuple #[.int .i64 (if 4 ≤ x then 0 else if (qAt st x.toNat).on then 0 else if (qAt st x.toNat).ever then (qAt st x.toNat).n else 0), .int .i64 (if 4 ≤ x then 2 else if (qAt st x.toNat).on then 3 else if (qAt st x.toNat).ever then 0 else 4)]) ∧ Below w.heap.size w w' := by
  have cp := cell_of h.bp
  simp only [xcells] at cp
  clear h
  by_cases hx : 4 ≤ x
  · rw [if_pos hx, if_pos hx]
    go_enter Tryz.func99, Tryz.ntmps99
    go_wp2
    refine bodyPost_ret (v := .tuple #[.int .i64 0, .int .i64 2]) (by simp [results, Tryz.results99, go_sem]) rfl ?_
    exact ⟨rfl, Below.refl _ _⟩
  · rw [if_neg hx, if_neg hx]
    have hx' : x = 0 ∨ x = 1 ∨ x = 2 ∨ x = 3 := by omega
    rcases hx' with rfl | rfl | rfl | rfl
    · show Calls _ _ _ _ fun e w' => e = .returned (.tuple #[.int .i64 (if (qAt st 0).on then 0 else if (qAt st 0).ever then (qAt st 0).n else 0), .int .i64 (if (qAt st 0).on then 3 else if (qAt st 0).ever then 0 else 4)]) ∧ Below w.heap.size w w'
      cases hon : (qAt st 0).on <;> cases hev : (qAt st 0).ever
      · simp only [hon, hev] at cp
        simp only [if_false, Bool.false_eq_true]
        go_enter Tryz.func99, Tryz.ntmps99
        go_wp2
        refine bodyPost_ret (v := .tuple #[.int .i64 0, .int .i64 4]) (by simp [results, Tryz.results99, go_sem]) rfl ?_
        exact ⟨rfl, Below.refl _ _⟩
      · simp only [hon, hev] at cp
        simp only [if_true, if_false, Bool.false_eq_true]
        go_enter Tryz.func99, Tryz.ntmps99
        go_wp2
        refine bodyPost_ret (v := .tuple #[.int .i64 (qAt st 0).n, .int .i64 0]) (by simp [results, Tryz.results99, go_sem]) rfl ?_
        exact ⟨rfl, Below.refl _ _⟩
      · simp only [hon, hev] at cp
        simp only [if_true, if_false, Bool.false_eq_true]
        go_enter Tryz.func99, Tryz.ntmps99
        go_wp2
        refine bodyPost_ret (v := .tuple #[.int .i64 0, .int .i64 3]) (by simp [results, Tryz.results99, go_sem]) rfl ?_
        exact ⟨rfl, Below.refl _ _⟩
      · simp only [hon, hev] at cp
        simp only [if_true]
        go_enter Tryz.func99, Tryz.ntmps99
        go_wp2
        refine bodyPost_ret (v := .tuple #[.int .i64 0, .int .i64 3]) (by simp [results, Tryz.results99, go_sem]) rfl ?_
        exact ⟨rfl, Below.refl _ _⟩
    · show Calls _ _ _ _ fun e w' => e = .returned (.tuple #[.int .i64 (if (qAt st 1).on then 0 else if (qAt st 1).ever then (qAt st 1).n else 0), .int .i64 (if (qAt st 1).on then 3 else if (qAt st 1).ever then 0 else 4)]) ∧ Below w.heap.size w w'
      cases hon : (qAt st 1).on <;> cases hev : (qAt st 1).ever
      · simp only [hon, hev] at cp
        simp only [if_false, Bool.false_eq_true]
        go_enter Tryz.func99, Tryz.ntmps99
        go_wp2
        refine bodyPost_ret (v := .tuple #[.int .i64 0, .int .i64 4]) (by simp [results, Tryz.results99, go_sem]) rfl ?_
        exact ⟨rfl, Below.refl _ _⟩
      · simp only [hon, hev] at cp
        simp only [if_true, if_false, Bool.false_eq_true]
        go_enter Tryz.func99, Tryz.ntmps99
        go_wp2
        refine bodyPost_ret (v := .tuple #[.int .i64 (qAt st 1).n, .int .i64 0]) (by simp [results, Tryz.results99, go_sem]) rfl ?_
        exact ⟨rfl, Below.refl _ _⟩
      · simp only [hon, hev] at cp
        simp only [if_true, if_false, Bool.false_eq_true]
        go_enter Tryz.func99, Tryz.ntmps99
        go_wp2
        refine bodyPost_ret (v := .tuple #[.int .i64 0, .int .i64 3]) (by simp [results, Tryz.results99, go_sem]) rfl ?_
        exact ⟨rfl, Below.refl _ _⟩
      · simp only [hon, hev] at cp
        simp only [if_true]
        go_enter Tryz.func99, Tryz.ntmps99
        go_wp2
        refine bodyPost_ret (v := .tuple #[.int .i64 0, .int .i64 3]) (by simp [results, Tryz.results99, go_sem]) rfl ?_
        exact ⟨rfl, Below.refl _ _⟩
    · show Calls _ _ _ _ fun e w' => e = .returned (.tuple #[.int .i64 (if (qAt st 2).on then 0 else if (qAt st 2).ever then (qAt st 2).n else 0), .int .i64 (if (qAt st 2).on then 3 else if (qAt st 2).ever then 0 else 4)]) ∧ Below w.heap.size w w'
      cases hon : (qAt st 2).on <;> cases hev : (qAt st 2).ever
      · simp only [hon, hev] at cp
        simp only [if_false, Bool.false_eq_true]
        go_enter Tryz.func99, Tryz.ntmps99
        go_wp2
        refine bodyPost_ret (v := .tuple #[.int .i64 0, .int .i64 4]) (by simp [results, Tryz.results99, go_sem]) rfl ?_
        exact ⟨rfl, Below.refl _ _⟩
      · simp only [hon, hev] at cp
        simp only [if_true, if_false, Bool.false_eq_true]
        go_enter Tryz.func99, Tryz.ntmps99
        go_wp2
        refine bodyPost_ret (v := .tuple #[.int .i64 (qAt st 2).n, .int .i64 0]) (by simp [results, Tryz.results99, go_sem]) rfl ?_
        exact ⟨rfl, Below.refl _ _⟩
      · simp only [hon, hev] at cp
        simp only [if_true, if_false, Bool.false_eq_true]
        go_enter Tryz.func99, Tryz.ntmps99
        go_wp2
        refine bodyPost_ret (v := .tuple #[.int .i64 0, .int .i64 3]) (by simp [results, Tryz.results99, go_sem]) rfl ?_
        exact ⟨rfl, Below.refl _ _⟩
      · simp only [hon, hev] at cp
        simp only [if_true]
        go_enter Tryz.func99, Tryz.ntmps99
        go_wp2
        refine bodyPost_ret (v := .tuple #[.int .i64 0, .int .i64 3]) (by simp [results, Tryz.results99, go_sem]) rfl ?_
        exact ⟨rfl, Below.refl _ _⟩
    · show Calls _ _ _ _ fun e w' => e = .returned (.tuple #[.int .i64 (if (qAt st 3).on then 0 else if (qAt st 3).ever then (qAt st 3).n else 0), .int .i64 (if (qAt st 3).on then 3 else if (qAt st 3).ever then 0 else 4)]) ∧ Below w.heap.size w w'
      cases hon : (qAt st 3).on <;> cases hev : (qAt st 3).ever
      · simp only [hon, hev] at cp
        simp only [if_false, Bool.false_eq_true]
        go_enter Tryz.func99, Tryz.ntmps99
        go_wp2
        refine bodyPost_ret (v := .tuple #[.int .i64 0, .int .i64 4]) (by simp [results, Tryz.results99, go_sem]) rfl ?_
        exact ⟨rfl, Below.refl _ _⟩
      · simp only [hon, hev] at cp
        simp only [if_true, if_false, Bool.false_eq_true]
        go_enter Tryz.func99, Tryz.ntmps99
        go_wp2
        refine bodyPost_ret (v := .tuple #[.int .i64 (qAt st 3).n, .int .i64 0]) (by simp [results, Tryz.results99, go_sem]) rfl ?_
        exact ⟨rfl, Below.refl _ _⟩
      · simp only [hon, hev] at cp
        simp only [if_true, if_false, Bool.false_eq_true]
        go_enter Tryz.func99, Tryz.ntmps99
        go_wp2
        refine bodyPost_ret (v := .tuple #[.int .i64 0, .int .i64 3]) (by simp [results, Tryz.results99, go_sem]) rfl ?_
        exact ⟨rfl, Below.refl _ _⟩
      · simp only [hon, hev] at cp
        simp only [if_true]
        go_enter Tryz.func99, Tryz.ntmps99
        go_wp2
        refine bodyPost_ret (v := .tuple #[.int .i64 0, .int .i64 3]) (by simp [results, Tryz.results99, go_sem]) rfl ?_
        exact ⟨rfl, Below.refl _ _⟩

set_option maxRecDepth 100000 in
set_option maxHeartbeats 400000 in
theorem tellCount_in (h : Dr base w p cB zB sB A n s k ways shV outV st) (ha : ArgsOf a l) (hl : l.length = 1) (hq : st.qs.length = 4) (hlen : st.out.length ≤ 1000000000000) :
    Calls Tryz.prog 64 #[.pointer (some ⟨p, 0, none⟩), .string a] w (CmdPost base p s k ways w ways.v (st.cmd 14 l)) := by
  have z0 : (0 : Int) < (a.size : Int) := by have := ha.size; omega
  have i0 : 0 < a.size := by have := ha.size; omega
  have e0 := ha.w64 0 (by omega) i0
  obtain ⟨b0, b1⟩ := ha.ok.at 0
  have hc : st.cmd 14 l = if 4 ≤ l.getD 0 0 then (st, 2) else st.query 14 (l.getD 0 0) := by simp [St.cmd, badB, St.does]
  rw [hc]
  clear hc ha hl
  generalize l.getD 0 0 = x at *
  have hcn := counted_in base p cB zB sB A n s k ways shV outV st w h hq x b0 b1
  have hqr : st.query 14 x = if (qAt st x.toNat).on then (st, 3) else if (qAt st x.toNat).ever then ({ st with out := st.out ++ [{ k := 4, a := x, b := (qAt st x.toNat).n, c := 0 }] }, 0) else (st, 4) := by simp [St.query, qAt, q0]
  rw [hqr]
  have HD : Hid (Dr base w p cB zB sB A n s k ways shV outV st) := h
  generalize qAt st x.toNat = q at *
  clear h hqr
  have HC : Hid (Calls Tryz.prog 99 #[.pointer (some ⟨p, 29, none⟩), .int .i64 x] w fun e w' =>
      e = .returned (.tuple #[.int .i64 (if 4 ≤ x then 0 else if q.on then 0 else if q.ever then q.n else 0), .int .i64 (if 4 ≤ x then 2 else if q.on then 3 else if q.ever then 0 else 4)]) ∧ Below w.heap.size w w') := hcn
  clear hcn
  have HB : Hid (∀ w1, Below w.heap.size w w1 → Low base w w1) := fun w1 hb => HD.out.lowOf hb
  have HE : Hid (∀ w1 (e : Int), Below w.heap.size w w1 → CmdPost base p s k ways w ways.v (st, e) (.returned (.int .i64 e)) w1) := fun w1 e hb => ⟨rfl, _, _, _, _, _, _, _, HD.out.frame hb, HB.out w1 hb⟩
  by_cases hx : 4 ≤ x
  · rw [if_pos hx, if_pos hx] at HC
    rw [if_pos hx]
    go_enter Tryz.func64, Tryz.ntmps64
    go_wp2_with fail
    refine HC.out.mono ?_
    rintro e w1 ⟨rfl, hb1⟩
    go_wp2_with fail
    go_ret
    exact HE.out _ 2 hb1
  · rw [if_neg hx, if_neg hx] at HC
    rw [if_neg hx]
    cases hon : q.on
    · cases hev : q.ever
      · simp only [hon, hev, if_false, Bool.false_eq_true] at HC ⊢
        go_enter Tryz.func64, Tryz.ntmps64
        go_wp2_with fail
        refine HC.out.mono ?_
        rintro e w1 ⟨rfl, hb1⟩
        go_wp2_with fail
        go_ret
        exact HE.out _ 4 hb1
      · simp only [hon, hev, if_true, if_false, Bool.false_eq_true] at HC ⊢
        go_enter Tryz.func64, Tryz.ntmps64
        go_wp2_with fail
        refine HC.out.mono ?_
        rintro e w1 ⟨rfl, hb1⟩
        have HR : Hid (Calls Tryz.prog 96 #[.pointer (some ⟨p, 0, none⟩), .agg #[.int .i64 4, .int .i64 x, .int .i64 q.n, .int .i64 0]] w1 (RepPost base p cB zB sB A n s k ways shV st w1 { k := 4, a := x, b := q.n, c := 0 })) :=
          reply_in base p cB zB sB A n s k ways shV outV st w1 (HD.out.frame hb1) { k := 4, a := x, b := q.n, c := 0 } hlen
        go_wp2_with fail
        refine HR.out.mono ?_
        rintro e w2 ⟨rfl, v', hd, hb2⟩
        go_wp2_with fail
        go_ret
        exact ⟨rfl, _, _, _, _, _, _, _, hd, (HB.out _ hb1).trans hb2⟩
    · simp only [hon, if_true] at HC ⊢
      go_enter Tryz.func64, Tryz.ntmps64
      go_wp2_with fail
      refine HC.out.mono ?_
      rintro e w1 ⟨rfl, hb1⟩
      go_wp2_with fail
      go_ret
      exact HE.out _ 3 hb1
end
end Go.Proofs.YthcikinkicpicaaGreatDoor

namespace Go.Proofs.YthcikinkicpicaaGreatDoor
open Go.RowKit

section
variable (base : Nat) (p cB zB sB A n : Nat) (s : ByteArray) (k : Int) (ways : Wy) (shV outV : Value) (st : St) (a : ByteArray) (l : List Int) (w : World)

set_option maxRecDepth 100000 in
set_option maxHeartbeats 2000000 in
theorem tellPixel_in (h : Dr base w p cB zB sB A n s k ways shV outV st) (K : Int) (hok : st.Ok K) (ha : ArgsOf a l) (hl : l.length = 3) (hlen : st.out.length ≤ 1000000000000) :
    Calls Tryz.prog 63 #[.pointer (some ⟨p, 0, none⟩), .string a] w (CmdPost base p s k ways w ways.v (st.cmd 13 l)) := by
  have i3 : 3 ≤ a.size := by have := ha.size; omega
  have z0 : (0 : Int) < (a.size : Int) := by omega
  have z1 : (1 : Int) < (a.size : Int) := by omega
  have z2 : (2 : Int) < (a.size : Int) := by omega
  have e0 := ha.w64 0 (by omega) (by omega)
  have e1 := ha.w64 1 (by omega) (by omega)
  have e2 := ha.w64 2 (by omega) (by omega)
  have f0 := ha.i64 0 (by omega) (by omega)
  have f1 := ha.i64 1 (by omega) (by omega)
  have f2 := ha.i64 2 (by omega) (by omega)
  obtain ⟨b00, b01⟩ := ha.ok.at 0
  obtain ⟨b10, b11⟩ := ha.ok.at 1
  obtain ⟨b20, b21⟩ := ha.ok.at 2
  have hc : st.cmd 13 l = if badB st.W st.H 13 l then (st, 2) else (st.pixel (l.getD 0 0) (l.getD 1 0) (l.getD 2 0), 0) := by simp [St.cmd, St.does]
  have hb : badB st.W st.H 13 l = (decide (l.getD 0 0 < 1) || (decide (3 < l.getD 0 0) || (decide (st.W ≤ l.getD 1 0) || decide (st.H ≤ l.getD 2 0)))) := by simp [badB]
  rw [hc, hb]
  have HD : Hid (Dr base w p cB zB sB A n s k ways shV outV st) := h
  clear hc hb ha hl
  generalize l.getD 0 0 = x0 at *
  generalize l.getD 1 0 = x1 at *
  generalize l.getD 2 0 = x2 at *
  obtain ⟨X, rfl⟩ := Int.eq_ofNat_of_zero_le b10
  obtain ⟨Y, rfl⟩ := Int.eq_ofNat_of_zero_le b20
  have HH : Hid (∀ W, Below w.heap.size w W → Calls Tryz.prog 94 #[.pointer (some ⟨p, 2, none⟩), .int .i64 X, .int .i64 Y] W fun e w' => e = .returned (.bool (decide ((X : Int) < st.W) && decide ((Y : Int) < st.H))) ∧ Below w.heap.size w w') := by
    intro W hb
    have hd := HD.out.frame hb
    refine (has_any' p W X Y st.W st.H (cell_of hd.bp 2) (cell_of hd.bp 3)).mono ?_
    rintro e w' ⟨rfl, rfl⟩
    exact ⟨rfl, hb⟩
  by_cases hin : (X : Int) < st.W ∧ (Y : Int) < st.H
  · obtain ⟨hX, hY⟩ := hin
    rw [decide_eq_true hX, decide_eq_true hY, Bool.and_self] at HH
    rw [decide_eq_false (show ¬ st.W ≤ (X : Int) by omega), decide_eq_false (show ¬ st.H ≤ (Y : Int) by omega), Bool.or_self, Bool.or_false]
    have hW1 := hok.W1
    have hH1 := hok.H1
    obtain ⟨hti, hA6, hn36⟩ := in_tile h.sf.hA h.sf.hn hX hY hW1 hH1
    have oOk : (dotAt st X Y).Ok := dotAt_ok hok X Y
    have HC : Hid (∀ W, Below w.heap.size w W → Calls Tryz.prog 95 #[.pointer (some ⟨p, 8, none⟩), .int .i64 X, .int .i64 Y] W fun e w' => e = .returned (.agg #[.int .u8 (dotAt st X Y).r, .int .u8 (dotAt st X Y).g, .int .u8 (dotAt st X Y).b]) ∧ Below w.heap.size w w') := by
      intro W hb
      obtain ⟨fc, fz, fs, ho⟩ := (HD.out.frame hb).open_
      have hp := ho.pix X Y hX hY
      refine (atC p 8 cB n A X Y fc W ho.c (by omega) (by omega) hA6 hti hn36).mono ?_
      rintro e w' ⟨rfl, hb'⟩
      refine ⟨?_, hb.trans (hb'.mono hb.size)⟩
      unfold dotAt
      rw [hp]
    have HZ : Hid (∀ W, Below w.heap.size w W → Calls Tryz.prog 97 #[.pointer (some ⟨p, 10, none⟩), .int .i64 X, .int .i64 Y] W fun e w' => e = .returned (.int .u16 (dotAt st X Y).d) ∧ Below w.heap.size w w') := by
      intro W hb
      obtain ⟨fc, fz, fs, ho⟩ := (HD.out.frame hb).open_
      have hp := ho.pix X Y hX hY
      refine (at16 p 10 zB n A X Y fz W ho.z (by omega) (by omega) hA6 hti hn36).mono ?_
      rintro e w' ⟨rfl, hb'⟩
      refine ⟨?_, hb.trans (hb'.mono hb.size)⟩
      unfold dotAt
      rw [hp]
    have HS : Hid (∀ W, Below w.heap.size w W → Calls Tryz.prog 98 #[.pointer (some ⟨p, 12, none⟩), .int .i64 X, .int .i64 Y] W fun e w' => e = .returned (.int .u8 (dotAt st X Y).s) ∧ Below w.heap.size w w') := by
      intro W hb
      obtain ⟨fc, fz, fs, ho⟩ := (HD.out.frame hb).open_
      have hp := ho.pix X Y hX hY
      refine (at8 p 12 sB n A X Y fs W ho.s (by omega) (by omega) hA6 hti hn36).mono ?_
      rintro e w' ⟨rfl, hb'⟩
      refine ⟨?_, hb.trans (hb'.mono hb.size)⟩
      unfold dotAt
      rw [hp]
    have HPx : Hid (∀ k0, st.pixel k0 X Y = { st with out := st.out ++ [pixRep (dotAt st X Y) k0] }) := fun k0 => rfl
    have HR : Hid (∀ w1 r, Below w.heap.size w w1 → Calls Tryz.prog 96 #[.pointer (some ⟨p, 0, none⟩), .agg #[.int .i64 r.k, .int .i64 r.a, .int .i64 r.b, .int .i64 r.c]] w1 fun e w' => e = .returned (.tuple #[]) ∧
        ∃ v', Dr base w' p cB zB sB A n s k ways shV v' { st with out := st.out ++ [r] } ∧ Low base w w') := by
      intro w1 r hb1
      refine (reply_in base p cB zB sB A n s k ways shV outV st w1 (HD.out.frame hb1) r hlen).mono ?_
      rintro e w' ⟨rfl, v', hd, hb2⟩
      have hbb : Low base w w1 := HD.out.lowOf hb1
      exact ⟨rfl, v', hd, hbb.trans hb2⟩
    obtain ⟨r0, r1, g0, g1, b0, b1, d0, d1, s0, s1⟩ := oOk
    clear h hok
    generalize dotAt st X Y = o at *
    have wr : IntKind.i64.wrap o.r = o.r := k64 (by omega)
    have wg : IntKind.i64.wrap o.g = o.g := k64 (by omega)
    have wb : IntKind.i64.wrap o.b = o.b := k64 (by omega)
    have wd : IntKind.i64.wrap o.d = o.d := k64 (by omega)
    have ws : IntKind.i64.wrap o.s = o.s := k64 (by omega)
    have hx : x0 = 1 ∨ x0 = 2 ∨ x0 = 3 ∨ x0 < 1 ∨ 3 < x0 := by omega
    rcases hx with rfl | rfl | rfl | hx | hx
    · show Calls _ _ _ _ (CmdPost base p s k ways w ways.v (st.pixel 1 X Y, 0))
      have ep : pixRep o 1 = ⟨1, o.r, o.g, o.b⟩ := rfl
      rw [HPx.out, ep]
      clear ep
      clear HPx HZ HS
      go_enter Tryz.func63, Tryz.ntmps63
      go_wp2_with fail
      go_quiet (fail)
      go_wp2_with (first
        | (go_at_call 94; refine (HH.out _ ((Below.refl _ _).drewN' _)).mono ?_; rintro e w0 ⟨rfl, hb0⟩)
        | (go_at_call 95; refine (HC.out _ hb0).mono ?_; rintro e w1 ⟨rfl, hb1⟩)
        | (go_at_call 96; refine (HR.out _ ⟨1, o.r, o.g, o.b⟩ (hb1.alloc hb1.size _)).mono ?_; rintro e w2 ⟨rfl, v', hd, hb2⟩))
      go_ret
      exact ⟨rfl, _, _, _, _, _, _, _, hd, hb2⟩
    · show Calls _ _ _ _ (CmdPost base p s k ways w ways.v (st.pixel 2 X Y, 0))
      have ep : pixRep o 2 = ⟨2, o.d, 0, 0⟩ := rfl
      rw [HPx.out, ep]
      clear ep
      clear HPx HC HS
      go_enter Tryz.func63, Tryz.ntmps63
      go_wp2_with fail
      go_quiet (fail)
      go_wp2_with (first
        | (go_at_call 94; refine (HH.out _ ((Below.refl _ _).drewN' _)).mono ?_; rintro e w0 ⟨rfl, hb0⟩)
        | (go_at_call 97; refine (HZ.out _ hb0).mono ?_; rintro e w1 ⟨rfl, hb1⟩)
        | (go_at_call 96; refine (HR.out _ ⟨2, o.d, 0, 0⟩ hb1).mono ?_; rintro e w2 ⟨rfl, v', hd, hb2⟩))
      go_ret
      exact ⟨rfl, _, _, _, _, _, _, _, hd, hb2⟩
    · show Calls _ _ _ _ (CmdPost base p s k ways w ways.v (st.pixel 3 X Y, 0))
      have ep : pixRep o 3 = ⟨3, o.s, 0, 0⟩ := rfl
      rw [HPx.out, ep]
      clear ep
      clear HPx HC HZ
      go_enter Tryz.func63, Tryz.ntmps63
      go_wp2_with fail
      go_quiet (fail)
      go_wp2_with (first
        | (go_at_call 94; refine (HH.out _ ((Below.refl _ _).drewN' _)).mono ?_; rintro e w0 ⟨rfl, hb0⟩)
        | (go_at_call 98; refine (HS.out _ hb0).mono ?_; rintro e w1 ⟨rfl, hb1⟩)
        | (go_at_call 96; refine (HR.out _ ⟨3, o.s, 0, 0⟩ hb1).mono ?_; rintro e w2 ⟨rfl, v', hd, hb2⟩))
      go_ret
      exact ⟨rfl, _, _, _, _, _, _, _, hd, hb2⟩
    · have hq : (decide (x0 < 1) || decide (3 < x0)) = true := by simp only [Bool.or_eq_true, decide_eq_true_eq]; omega
      rw [hq, if_pos rfl]
      have n1 : ¬ x0 = 1 := by omega
      have n2 : ¬ x0 = 2 := by omega
      have n3 : ¬ x0 = 3 := by omega
      clear HPx HC HZ HS HR hq
      go_enter Tryz.func63, Tryz.ntmps63
      go_wp2_with fail
      go_quiet (fail)
      go_wp2_with (go_at_call 94; refine (HH.out _ ((Below.refl _ _).drewN' _)).mono ?_; rintro e w0 ⟨rfl, hb0⟩)
      go_ret
      exact ⟨rfl, _, _, _, _, _, _, _, HD.out.frame hb0, HD.out.lowOf hb0⟩
    · have hq : (decide (x0 < 1) || decide (3 < x0)) = true := by simp only [Bool.or_eq_true, decide_eq_true_eq]; omega
      rw [hq, if_pos rfl]
      have n1 : ¬ x0 = 1 := by omega
      have n2 : ¬ x0 = 2 := by omega
      have n3 : ¬ x0 = 3 := by omega
      clear HPx HC HZ HS HR hq
      go_enter Tryz.func63, Tryz.ntmps63
      go_wp2_with fail
      go_quiet (fail)
      go_wp2_with (go_at_call 94; refine (HH.out _ ((Below.refl _ _).drewN' _)).mono ?_; rintro e w0 ⟨rfl, hb0⟩)
      go_ret
      exact ⟨rfl, _, _, _, _, _, _, _, HD.out.frame hb0, HD.out.lowOf hb0⟩
  · have hf : (decide ((X : Int) < st.W) && decide ((Y : Int) < st.H)) = false := by
      rw [Bool.and_eq_false_iff, decide_eq_false_iff_not, decide_eq_false_iff_not]; omega
    have ht : (decide (x0 < 1) || (decide (3 < x0) || (decide (st.W ≤ (X : Int)) || decide (st.H ≤ (Y : Int))))) = true := by
      simp only [Bool.or_eq_true, decide_eq_true_eq]; omega
    rw [hf] at HH
    rw [ht, if_pos rfl]
    clear hf ht h hok
    go_enter Tryz.func63, Tryz.ntmps63
    go_wp2_with fail
    go_quiet (fail)
    go_wp2_with (go_at_call 94; refine (HH.out _ ((Below.refl _ _).drewN' _)).mono ?_; rintro e w0 ⟨rfl, hb0⟩)
    go_ret
    exact ⟨rfl, _, _, _, _, _, _, _, HD.out.frame hb0, HD.out.lowOf hb0⟩
end
end Go.Proofs.YthcikinkicpicaaGreatDoor

namespace Go.Proofs.YthcikinkicpicaaGreatDoor
open Go.RowKit

/-- What a reply turns. -/
def RS (p : Nat) (w : World) (i : Nat) : Prop := i = p ∨ ∃ cur, w.heap[i]? = some (.cells cur 25 (0, 0))

section
variable {base : Nat} {w w1 w' : World} {p cB zB sB A n : Nat} {s : ByteArray} {k : Int} {ways : Wy} {shV outV : Value} {st : St}
theorem Dr.pushK (h : Dr base w p cB zB sB A n s k ways shV outV st) (hb : Below w.heap.size w w1) {v' : Value} (hg : w1.grownBy w' outV.ownBlock) : Kept (RS p w) w (w'.setCell ⟨p, 42, none⟩ v') := by
  have hob := owns_block h.out
  refine ⟨hg.os.trans hb.os, hg.tape.trans hb.tape, hg.output.trans hb.output, by rw [hs_set]; exact Nat.le_trans hb.size hg.size, fun i hi hn => ?_⟩
  rw [heap_set_ne (fun e => hn (.inl e)), hg.block i (Nat.lt_of_lt_of_le hi hb.size) (fun e => hn (.inr (hob i e.symm))), hb.block i hi]
end

section
variable (base : Nat) (p cB zB sB A n : Nat) (s : ByteArray) (k : Int) (ways : Wy) (shV outV : Value) (st : St) (w : World)

def RepPostK (r : Rep) (e : Ending) (w' : World) : Prop := e = .returned (.tuple #[]) ∧ ∃ v', Dr base w' p cB zB sB A n s k ways shV v' { st with out := st.out ++ [r] } ∧ Low base w w' ∧ Kept (RS p w) w w'

set_option maxRecDepth 100000 in
set_option maxHeartbeats 400000 in
theorem reply_k (h : Dr base w p cB zB sB A n s k ways shV outV st) (r : Rep) (hlen : st.out.length ≤ 1000000000000) :
    Calls Tryz.prog 96 #[.pointer (some ⟨p, 0, none⟩), .agg #[.int .i64 r.k, .int .i64 r.a, .int .i64 r.b, .int .i64 r.c]] w (RepPostK base p cB zB sB A n s k ways shV st w r) := by
  have cp := cell_of h.bp
  simp only [xcells] at cp
  have fp := frozen_of h.bp
  have lp := lt_of_heap h.bp
  obtain ⟨i0, hi, hz0, hz1, hz2⟩ := info_parts Tryz.infoReply
  have hbs : base ≤ w.heap.size := by have := h.b0; omega
  have HO : Hid (w.ownsRow base 25 4 outV st.out.length (rcells st.out)) := h.out
  have HD : Hid (Dr base w p cB zB sB A n s k ways shV outV st) := h
  clear h
  go_enter Tryz.func96, Tryz.ntmps96
  go_wp2_with fail
  go_region_law (refine step_append_own rfl (.tmp 8) (.tmp 10) 22 rfl base 25 i0 _ 4 32 Tryz.underlying22 hi hz0 hz1 hz2 rfl (by decide) outV st.out.length (rcells st.out) (by simp [Act.eval]) (by exact (HD.out.frame below2.drew).out) ⟨w.heap.size + 1, 0, none⟩ 1 1 [.int .i64 r.k, .int .i64 r.a, .int .i64 r.b, .int .i64 r.c] (by simp [Act.eval]) rfl (by exact lit4d (w.alloc _) _ _ _ _ _ _ (by simp)) (one4 _ _ _ _) (by unfold maxLen; omega) (by omega) (Nat.le_trans hbs (by exact below2.drew.size)) ?_; intro v' w' hown' hgrow'; obtain ⟨g, cap', rfl⟩ := owned_form hown'; have hpp := (HD.out.frame below2.drew).pcell hgrow'; have cp' := cell_of hpp; simp only [xcells] at cp'; have fp' := frozen_of hpp)
  all_goals
    have P := (HD.out.frame below2.drew).push (r := r) hgrow' hown'
    have PK := fun v => HD.out.pushK (v' := v) below2.drew hgrow'
    clear hown' hgrow' hpp cp' fp'
    go_wp2_with fail
    go_end0
    exact ⟨rfl, _, P.1, (HD.out.lowOf below2.drew).trans P.2, PK _⟩

set_option maxRecDepth 100000 in
set_option maxHeartbeats 400000 in
theorem fault_k (h : Dr base w p cB zB sB A n s k ways shV outV st) (e j : Int) (hlen : st.out.length ≤ 1000000000000) :
    Calls Tryz.prog 66 #[.pointer (some ⟨p, 0, none⟩), .int .i64 e, .int .i64 j] w (RepPostK base p cB zB sB A n s k ways shV st w { k := 0, a := e, b := j, c := 0 }) := by
  have hr := reply_k base p cB zB sB A n s k ways shV outV st w h { k := 0, a := e, b := j, c := 0 } hlen
  have HR : Hid (Calls Tryz.prog 96 #[.pointer (some ⟨p, 0, none⟩), .agg #[.int .i64 0, .int .i64 e, .int .i64 j, .int .i64 0]] w (RepPostK base p cB zB sB A n s k ways shV st w { k := 0, a := e, b := j, c := 0 })) := hr
  clear hr h
  go_enter Tryz.func66, Tryz.ntmps66
  go_wp2_with fail
  refine HR.out.mono ?_
  rintro e' w1 ⟨rfl, hx⟩
  go_wp2_with fail
  go_end0
  exact ⟨rfl, hx⟩

end
end Go.Proofs.YthcikinkicpicaaGreatDoor
