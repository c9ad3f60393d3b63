import Derived.Test.YthcikinkicpicaaGreatDoorA22
import Derived.Test.YthcikinkicpicaaGreatDoorA21
import Derived.Test.YthcikinkicpicaaGreatDoorA16
import Derived.Test.YthcikinkicpicaaGreatDoorA12

namespace Go.Proofs.YthcikinkicpicaaGreatDoor
open Go.RowKit

section
variable (base : Nat) (p cB zB sB A n : Nat) (s : ByteArray) (k : Int) (ways : Wy) (shV outV : Value) (st : St) (w : World)

theorem Dr.failing (h : Dr base w p cB zB sB A n s k ways shV outV st) : Calls Tryz.prog 117 #[.pointer (some ⟨p, 14, none⟩)] w fun e w' => e = .returned (.bool (failB st.T)) ∧ w' = w :=
  showsFailing_any p w st.T (cell_of h.bp 14) (cell_of h.bp 16) (cell_of h.bp 19) (cell_of h.bp 20) (cell_of h.bp 21)
theorem Dr.counting (h : Dr base w p cB zB sB A n s k ways shV outV st) (hq : st.qs.length = 4) : Calls Tryz.prog 119 #[.pointer (some ⟨p, 29, none⟩)] w fun e w' => e = .returned (.bool (anyOn st.qs)) ∧ w' = w := by
  have e : anyOn st.qs = ((qAt st 0).on || (qAt st 1).on || (qAt st 2).on || (qAt st 3).on) := by
    unfold qAt
    match hs : st.qs, hq with
    | [a, b, c, d], _ => rw [anyOn4]; rfl
  rw [e]
  exact counting_any p w _ _ _ _ (cell_of h.bp 30) (cell_of h.bp 33) (cell_of h.bp 36) (cell_of h.bp 39)

set_option maxRecDepth 100000 in
set_option maxHeartbeats 1000000 in
theorem cannotBeSeen_in (h : Dr base w p cB zB sB A n s k ways shV outV st) (K : Int) (hok : st.Ok K) (q : Nat) (t : Tr) (ht : t.Ok) (hq : w.heap[q]? = some (.cells (trT t) 165 (0, 0))) :
    Calls Tryz.prog 88 #[.pointer (some ⟨p, 0, none⟩), .pointer (some ⟨q, 0, none⟩)] w fun e w' =>
      e = .returned (.bool (decide (((winBx st).meet t.bounds).c = 0 ∨ ((winBx st).meet t.bounds).r = 0) || (!failB st.T && !passB st.T (anyOn st.qs)))) ∧ Below w.heap.size w w' := by
  have lp := lt_of_heap h.bp
  have lq := lt_of_heap hq
  have HP : Hid (∀ W, Below w.heap.size w W → W.cell? ⟨p, 4, none⟩ = some (.int .i64 st.wx) ∧ W.cell? ⟨p, 5, none⟩ = some (.int .i64 st.wy) ∧ W.cell? ⟨p, 6, none⟩ = some (.int .i64 st.ww) ∧ W.cell? ⟨p, 7, none⟩ = some (.int .i64 st.wh) ∧
      W.cell? ⟨q, 20, none⟩ = some (.int .i64 t.bounds.x) ∧ W.cell? ⟨q, 21, none⟩ = some (.int .i64 t.bounds.y) ∧ W.cell? ⟨q, 22, none⟩ = some (.int .i64 t.bounds.c) ∧ W.cell? ⟨q, 23, none⟩ = some (.int .i64 t.bounds.r)) := fun W hW => by
    have c1 := cell_of ((hW.block _ lp).trans h.bp)
    have c2 := cell_of ((hW.block _ lq).trans hq)
    exact ⟨c1 4, c1 5, c1 6, c1 7, c2 20, c2 21, c2 22, c2 23⟩
  have HM : Hid (∀ W : World, Below w.heap.size w W → Calls Tryz.prog 90 #[.agg #[.int .i64 st.wx, .int .i64 st.wy, .int .i64 st.ww, .int .i64 st.wh], .agg #[.int .i64 t.bounds.x, .int .i64 t.bounds.y, .int .i64 t.bounds.c, .int .i64 t.bounds.r]] W fun e w' => e = .returned (bxV ((winBx st).meet t.bounds)) ∧ Below w.heap.size w w' ∧
      w'.cell? ⟨p, 4, none⟩ = some (.int .i64 st.wx) ∧ w'.cell? ⟨p, 5, none⟩ = some (.int .i64 st.wy) ∧ w'.cell? ⟨p, 6, none⟩ = some (.int .i64 st.ww) ∧ w'.cell? ⟨p, 7, none⟩ = some (.int .i64 st.wh) ∧
      w'.cell? ⟨q, 20, none⟩ = some (.int .i64 t.bounds.x) ∧ w'.cell? ⟨q, 21, none⟩ = some (.int .i64 t.bounds.y) ∧ w'.cell? ⟨q, 22, none⟩ = some (.int .i64 t.bounds.c) ∧ w'.cell? ⟨q, 23, none⟩ = some (.int .i64 t.bounds.r)) := by
    intro W hW
    refine (meet_any _ _ (win_in st K hok) (bounds_in t ht) W).mono ?_
    rintro e w' ⟨rfl, hb'⟩
    have hb2 : Below w.heap.size w w' := hW.trans (hb'.mono hW.size)
    exact ⟨rfl, hb2, HP.out w' hb2⟩
  have HE : Hid (∀ W : World, Below w.heap.size w W → Calls Tryz.prog 100 #[bxV ((winBx st).meet t.bounds)] W fun e w' => e = .returned (.bool (decide (((winBx st).meet t.bounds).c = 0 ∨ ((winBx st).meet t.bounds).r = 0))) ∧ Below w.heap.size w w' ∧
      w'.cell? ⟨p, 4, none⟩ = some (.int .i64 st.wx) ∧ w'.cell? ⟨p, 5, none⟩ = some (.int .i64 st.wy) ∧ w'.cell? ⟨p, 6, none⟩ = some (.int .i64 st.ww) ∧ w'.cell? ⟨p, 7, none⟩ = some (.int .i64 st.wh) ∧
      w'.cell? ⟨q, 20, none⟩ = some (.int .i64 t.bounds.x) ∧ w'.cell? ⟨q, 21, none⟩ = some (.int .i64 t.bounds.y) ∧ w'.cell? ⟨q, 22, none⟩ = some (.int .i64 t.bounds.c) ∧ w'.cell? ⟨q, 23, none⟩ = some (.int .i64 t.bounds.r)) := by
    intro W hW
    refine (isEmpty_any _ W).mono ?_
    rintro e w' ⟨rfl, hb'⟩
    have hb2 : Below w.heap.size w w' := hW.trans (hb'.mono hW.size)
    exact ⟨rfl, hb2, HP.out w' hb2⟩
  have HF : Hid (∀ W : World, Below w.heap.size w W → Calls Tryz.prog 117 #[.pointer (some ⟨p, 14, none⟩)] W fun e w' => e = .returned (.bool (failB st.T)) ∧ w' = W) := fun W hW => Dr.failing base p cB zB sB A n s k ways shV outV st W (h.frame hW)
  have HC : Hid (∀ W : World, Below w.heap.size w W → Calls Tryz.prog 119 #[.pointer (some ⟨p, 29, none⟩)] W fun e w' => e = .returned (.bool (anyOn st.qs)) ∧ w' = W) := fun W hW => Dr.counting base p cB zB sB A n s k ways shV outV st W (h.frame hW) hok.qs
  have HS : Hid (∀ W : World, Below w.heap.size w W → Calls Tryz.prog 118 #[.pointer (some ⟨p, 14, none⟩), .bool (anyOn st.qs)] W fun e w' => e = .returned (.bool (passB st.T (anyOn st.qs))) ∧ ∃ m, w' = W.drewN m) := by
    intro W hW
    have cp := cell_of (h.frame hW).bp
    exact showsPassing_any p W st.T (anyOn st.qs) (cp 14) (cp 15) (cp 16) (cp 19) (cp 22) (cp 24)
  obtain ⟨z0, z1, z2, z3, z4, z5, z6, z7⟩ := HP.out w (Below.refl _ _)
  clear HP h hok ht hq
  generalize (winBx st).meet t.bounds = M at *
  generalize t.bounds = B at *
  generalize failB st.T = fl at *
  generalize anyOn st.qs = an at *
  generalize passB st.T an = ps at *
  cases hM : decide (M.c = 0 ∨ M.r = 0)
  · rw [hM] at HE
    cases fl
    · go_enter Tryz.func88, Tryz.ntmps88
      go_wp2_with fail
      go_region_held (fun w' => w'.cell? ⟨p, 4, none⟩ = some (.int .i64 st.wx) ∧ w'.cell? ⟨p, 5, none⟩ = some (.int .i64 st.wy) ∧ w'.cell? ⟨p, 6, none⟩ = some (.int .i64 st.ww) ∧ w'.cell? ⟨p, 7, none⟩ = some (.int .i64 st.wh) ∧
        w'.cell? ⟨q, 20, none⟩ = some (.int .i64 B.x) ∧ w'.cell? ⟨q, 21, none⟩ = some (.int .i64 B.y) ∧ w'.cell? ⟨q, 22, none⟩ = some (.int .i64 B.c) ∧ w'.cell? ⟨q, 23, none⟩ = some (.int .i64 B.r)) (go_keep)
        ((first
          | (go_at_call 90; refine (HM.out _ (Below.refl _ _).drew).mono ?_; rintro e w1 ⟨rfl, hb1, r0, r1, r2, r3, r4, r5, r6, r7⟩)
          | (go_at_call 100; refine (HE.out _ hb1).mono ?_; rintro e w2 ⟨rfl, hb2, s0, s1, s2, s3, s4, s5, s6, s7⟩)))
      go_wp2_with fail
      go_quiet ((first
        | (go_at_call 117; refine Calls.quiet_of_same (HF.out _ (hb2.drewN' _)))
        | (go_at_call 119; refine Calls.quiet_of_same (HC.out _ (hb2.drewN' _)))
        | (go_at_call 118; refine Calls.quiet_of (HS.out _ (hb2.drewN' _)))))
      go_wp2_with fail
      go_ret
      exact ⟨ret_bool (by simp), hb2.drewN' _⟩
    · go_enter Tryz.func88, Tryz.ntmps88
      go_wp2_with fail
      go_region_held (fun w' => w'.cell? ⟨p, 4, none⟩ = some (.int .i64 st.wx) ∧ w'.cell? ⟨p, 5, none⟩ = some (.int .i64 st.wy) ∧ w'.cell? ⟨p, 6, none⟩ = some (.int .i64 st.ww) ∧ w'.cell? ⟨p, 7, none⟩ = some (.int .i64 st.wh) ∧
        w'.cell? ⟨q, 20, none⟩ = some (.int .i64 B.x) ∧ w'.cell? ⟨q, 21, none⟩ = some (.int .i64 B.y) ∧ w'.cell? ⟨q, 22, none⟩ = some (.int .i64 B.c) ∧ w'.cell? ⟨q, 23, none⟩ = some (.int .i64 B.r)) (go_keep)
        ((first
          | (go_at_call 90; refine (HM.out _ (Below.refl _ _).drew).mono ?_; rintro e w1 ⟨rfl, hb1, r0, r1, r2, r3, r4, r5, r6, r7⟩)
          | (go_at_call 100; refine (HE.out _ hb1).mono ?_; rintro e w2 ⟨rfl, hb2, s0, s1, s2, s3, s4, s5, s6, s7⟩)))
      go_wp2_with fail
      go_quiet ((go_at_call 117; refine Calls.quiet_of_same (HF.out _ (hb2.drewN' _))))
      go_wp2_with fail
      go_ret
      exact ⟨ret_bool (by simp), hb2.drewN' _⟩
  · rw [hM] at HE
    go_enter Tryz.func88, Tryz.ntmps88
    go_wp2_with fail
    go_region_held (fun w' => w'.cell? ⟨p, 4, none⟩ = some (.int .i64 st.wx) ∧ w'.cell? ⟨p, 5, none⟩ = some (.int .i64 st.wy) ∧ w'.cell? ⟨p, 6, none⟩ = some (.int .i64 st.ww) ∧ w'.cell? ⟨p, 7, none⟩ = some (.int .i64 st.wh) ∧
      w'.cell? ⟨q, 20, none⟩ = some (.int .i64 B.x) ∧ w'.cell? ⟨q, 21, none⟩ = some (.int .i64 B.y) ∧ w'.cell? ⟨q, 22, none⟩ = some (.int .i64 B.c) ∧ w'.cell? ⟨q, 23, none⟩ = some (.int .i64 B.r)) (go_keep)
      ((first
        | (go_at_call 90; refine (HM.out _ (Below.refl _ _).drew).mono ?_; rintro e w1 ⟨rfl, hb1, r0, r1, r2, r3, r4, r5, r6, r7⟩)
        | (go_at_call 100; refine (HE.out _ hb1).mono ?_; rintro e w2 ⟨rfl, hb2, s0, s1, s2, s3, s4, s5, s6, s7⟩)))
    go_wp2_with fail
    go_ret
    exact ⟨ret_bool (by simp), hb2⟩
end
end Go.Proofs.YthcikinkicpicaaGreatDoor

namespace Go.Proofs.YthcikinkicpicaaGreatDoor
open Go.RowKit

/-- A tile's part: in one tile, in the pane. -/
structure PartIn (st : St) (A n : Nat) (x y nx ny : Nat) : Prop where
  x1 : (x : Int) + nx ≤ st.W
  y1 : (y : Int) + ny ≤ st.H
  c1 : 1 ≤ nx
  r1 : 1 ≤ ny
  tile : ∀ X Y, x ≤ X → X < x + nx → y ≤ Y → Y < y + ny → X / 4 = x / 4 ∧ Y / 4 = y / 4

section
variable (base : Nat) (p cB zB sB A n : Nat) (s : ByteArray) (k : Int) (ways : Wy) (shV outV : Value) (st : St) (w : World)

/-- Ahead of the last question: what comes lies at C, the part at the call's first block. -/
structure DcI (w : World) (C x y nx ny : Nat) (cl cm : Int) (W : World) : Prop where
  bx : W.heap[w.heap.size]? = some (.cells #[.int .i64 x, .int .i64 y, .int .i64 nx, .int .i64 ny] 66 (0, 0))
  co : W.heap[C]? = some (.cells #[.int .u16 cl, .int .u16 cm] 221 (0, 0))
  lo : Below w.heap.size w W
theorem DcI.next {w : World} {C x y nx ny : Nat} {cl cm : Int} {W W' : World} (h : DcI w C x y nx ny cl cm W) (hb : Below W.heap.size W W') : DcI w C x y nx ny cl cm W' :=
  ⟨(hb.block _ (lt_of_heap h.bx)).trans h.bx, (hb.block _ (lt_of_heap h.co)).trans h.co, h.lo.trans (hb.mono h.lo.size)⟩

set_option maxRecDepth 100000 in
set_option maxHeartbeats 1000000 in
theorem depthsDecide_in (h : Dr base w p cB zB sB A n s k ways shV outV st) (K : Int) (hok : st.Ok K) (q : Nat) (t : Tr) (ht : t.Ok) (hq : w.heap[q]? = some (.cells (trT t) 165 (0, 0))) (x y nx ny : Nat) (hP : PartIn st A n x y nx ny) :
    Calls Tryz.prog 101 #[.pointer (some ⟨p, 0, none⟩), .pointer (some ⟨q, 0, none⟩), boxV x y nx ny] w fun e w' =>
      ∃ r, e = .returned (.bool r) ∧ (r = true → ∃ m, 0 ≤ m ∧ (rowsL (x : Int) nx ny y).foldl t.px st = { st with work := st.work + m }) ∧ Below w.heap.size w w' := by
  have lp := lt_of_heap h.bp
  have hW1 := hok.W1
  have hH1 := hok.H1
  have px1 := hP.x1
  have py1 := hP.y1
  have pc1 := hP.c1
  have pr1 := hP.r1
  obtain ⟨fc, fz, fs, ho⟩ := h.open_
  have hA6 := (in_tile (X := x) (Y := y) h.sf.hA h.sf.hn (by omega) (by omega) hW1 hH1)
  have HF : Hid (∀ W : World, Below w.heap.size w W → Calls Tryz.prog 117 #[.pointer (some ⟨p, 14, none⟩)] W fun e w' => e = .returned (.bool (failB st.T)) ∧ w' = W) := fun W hW => Dr.failing base p cB zB sB A n s k ways shV outV st W (h.frame hW)
  have HDp : Hid (∀ W : World, Below w.heap.size w W → Calls Tryz.prog 125 #[.pointer (some ⟨q, 0, none⟩)] W fun e w2 => e = .returned (spn16 t.ld t.hd) ∧ Below W.heap.size W w2) := fun W hW => depths_any q t.a t.b t.c t.ar _ W ((hW.block _ (lt_of_heap hq)).trans hq) ht.a ht.b ht.c
  have HSp : Hid (∀ C cl cm W, DcI w C x y nx ny cl cm W → Calls Tryz.prog 127 #[.pointer (some ⟨p, 10, none⟩), boxV x y nx ny] W fun e w' => ∃ lo hi, e = .returned (spn16 lo hi) ∧
      (∀ X Y, x ≤ X → X < x + nx → y ≤ Y → Y < y + ny → lo ≤ fz (tNo A X Y) (iNo X Y) ∧ fz (tNo A X Y) (iNo X Y) ≤ hi) ∧ DcI w C x y nx ny cl cm w' ∧ w'.cell? ⟨p, 14, none⟩ = some (.int .u8 st.T.depth) ∧ w'.cell? ⟨C, 0, none⟩ = some (.int .u16 cl) ∧ w'.cell? ⟨C, 1, none⟩ = some (.int .u16 cm) ∧
      w'.cell? ⟨w.heap.size, 0, none⟩ = some (.int .i64 x) ∧ w'.cell? ⟨w.heap.size, 1, none⟩ = some (.int .i64 y) ∧ w'.cell? ⟨w.heap.size, 2, none⟩ = some (.int .i64 nx) ∧ w'.cell? ⟨w.heap.size, 3, none⟩ = some (.int .i64 ny)) := by
    intro C cl cm W hW
    have hz := ho.z.below hW.lo
    refine (spanIn16 p 10 zB n A fz x y nx ny W hz (by omega) (by omega) pc1 pr1 hA6.2.1 hA6.2.2 (fun X Y h1 h2 h3 h4 => ?_)).mono ?_
    · obtain ⟨e1, e2⟩ := hP.tile X Y h1 h2 h3 h4
      refine ⟨(in_tile (X := X) (Y := Y) h.sf.hA h.sf.hn (by omega) (by omega) hW1 hH1).1, ?_⟩
      unfold tNo; rw [e1, e2]
    · rintro e w' ⟨lo, hi, rfl, hb, hb'⟩
      have h' := hW.next hb'
      exact ⟨lo, hi, rfl, hb, h', cell_of (h.frame h'.lo).bp 14, cell_of h'.co 0, cell_of h'.co 1, cell_of h'.bx 0, cell_of h'.bx 1, cell_of h'.bx 2, cell_of h'.bx 3⟩
  have HMp : Hid (∀ cl cm tl tm C W, DcI w C x y nx ny cl cm W → Calls Tryz.prog 126 #[.int .u8 st.T.depth, .agg #[.int .u16 cl, .int .u16 cm], .agg #[.int .u16 tl, .int .u16 tm]] W fun e w' => e = .returned (.bool (mayB st.T.depth cl cm tl tm)) ∧ DcI w C x y nx ny cl cm w' ∧ w'.cell? ⟨p, 14, none⟩ = some (.int .u8 st.T.depth) ∧ w'.cell? ⟨C, 0, none⟩ = some (.int .u16 cl) ∧ w'.cell? ⟨C, 1, none⟩ = some (.int .u16 cm) ∧
      w'.cell? ⟨w.heap.size, 0, none⟩ = some (.int .i64 x) ∧ w'.cell? ⟨w.heap.size, 1, none⟩ = some (.int .i64 y) ∧ w'.cell? ⟨w.heap.size, 2, none⟩ = some (.int .i64 nx) ∧ w'.cell? ⟨w.heap.size, 3, none⟩ = some (.int .i64 ny)) := by
    intro cl cm tl tm C W hW
    refine (mayPass_any st.T.depth cl cm tl tm W hok.T.depth0 hok.T.depth1).mono ?_
    rintro e w' ⟨rfl, hb'⟩
    have h' := hW.next hb'
    exact ⟨rfl, h', cell_of (h.frame h'.lo).bp 14, cell_of h'.co 0, cell_of h'.co 1, cell_of h'.bx 0, cell_of h'.bx 1, cell_of h'.bx 2, cell_of h'.bx 3⟩
  have HEnd : Hid (∀ cl cm tl tm W, failB st.T = false → (if bringsB st.sh then cl ≤ 0 ∧ 65535 ≤ cm else cl ≤ t.ld ∧ t.hd ≤ cm) → (∀ X Y, x ≤ X → X < x + nx → y ≤ Y → Y < y + ny → tl ≤ fz (tNo A X Y) (iNo X Y) ∧ fz (tNo A X Y) (iNo X Y) ≤ tm) → Below w.heap.size w W →
      ∃ r, Ending.returned (.bool (!mayB st.T.depth cl cm tl tm)) = .returned (.bool r) ∧ (r = true → ∃ m, 0 ≤ m ∧ (rowsL (x : Int) nx ny y).foldl t.px st = { st with work := st.work + m }) ∧ Below w.heap.size w W) := by
    intro cl cm tl tm W hf hc hz hW
    refine ⟨_, rfl, fun hr => ?_, hW⟩
    refine decided t ht st K hok _ cl cm tl tm hf (by simpa using hr) hc (fun pt hpt => ?_)
    rw [mem_rowsL] at hpt
    obtain ⟨X, Y, rfl⟩ : ∃ X Y : Nat, pt = ((X : Int), (Y : Int)) := ⟨pt.1.toNat, pt.2.toNat, Prod.ext (by show pt.1 = _; omega) (by show pt.2 = _; omega)⟩
    dsimp only at hpt ⊢
    rw [ho.pix X Y (by omega) (by omega)]
    exact hz X Y (by omega) (by omega) (by omega) (by omega)
  have HP14 : Hid (∀ W, Below w.heap.size w W → W.cell? ⟨p, 14, none⟩ = some (.int .u8 st.T.depth) ∧ W.cell? ⟨p, 27, none⟩ = some (.bool (bringsB st.sh))) := fun W hW => ⟨cell_of (h.frame hW).bp 14, cell_of (h.frame hW).bp 27⟩
  have HB0 : Hid (Below w.heap.size w (w.alloc (.cells #[.int .i64 x, .int .i64 y, .int .i64 nx, .int .i64 ny] 66))) := below1
  have HI : Hid (∀ w1, Below (w.alloc (.cells #[.int .i64 x, .int .i64 y, .int .i64 nx, .int .i64 ny] 66)).heap.size (w.alloc (.cells #[.int .i64 x, .int .i64 y, .int .i64 nx, .int .i64 ny] 66)) w1 → ∀ cl cm, DcI w w1.heap.size x y nx ny cl cm (w1.alloc (.cells #[.int .u16 cl, .int .u16 cm] 221))) := by
    intro w1 hb1 cl cm
    have l1 := hb1.size
    rw [World.size_alloc] at l1
    exact ⟨(heap_alloc_old (by omega) _).trans ((hb1.block _ (by simp)).trans (heap_alloc_new _ _)), heap_alloc_new _ _, (HB0.out.trans (hb1.mono (by simp))).alloc (by omega) _⟩
  clear h hok ht hq hP ho hA6 px1 py1 pc1 pr1 hW1 hH1
  cases hfl : failB st.T
  · rw [hfl] at HF HEnd
    cases hbr : bringsB st.sh
    · rw [hbr] at HP14 HEnd
      go_enter Tryz.func101, Tryz.ntmps101
      go_upto_region 6 with (first
        | (go_at_call 117; refine (HF.out _ HB0.out).mono ?_; rintro e w' ⟨rfl, rfl⟩)
        | (go_at_call 125; refine (HDp.out _ HB0.out).mono ?_; rintro e w1 ⟨rfl, hb1⟩; obtain ⟨c14, c27⟩ := HP14.out _ (HI.out w1 hb1 t.ld t.hd).lo))
      refine gen_w (DcI w w1.heap.size x y nx ny t.ld t.hd) (Code.wp _ _ _ _) _ (HI.out w1 hb1 t.ld t.hd) ?_
      intro W2 hW2
      have HW2 : Hid (DcI w w1.heap.size x y nx ny t.ld t.hd W2) := hW2
      have ca := cell_of hW2.bx
      have cc := cell_of hW2.co
      clear c14 c27
      obtain ⟨c14, c27⟩ := HP14.out W2 hW2.lo
      clear hW2 hb1 HI HDp HF
      generalize w1.heap.size = C at *
      go_region_held (fun w' => w'.cell? ⟨p, 14, none⟩ = some (.int .u8 st.T.depth) ∧ w'.cell? ⟨C, 0, none⟩ = some (.int .u16 t.ld) ∧ w'.cell? ⟨C, 1, none⟩ = some (.int .u16 t.hd) ∧ w'.cell? ⟨w.heap.size, 0, none⟩ = some (.int .i64 x) ∧ w'.cell? ⟨w.heap.size, 1, none⟩ = some (.int .i64 y) ∧ w'.cell? ⟨w.heap.size, 2, none⟩ = some (.int .i64 nx) ∧ w'.cell? ⟨w.heap.size, 3, none⟩ = some (.int .i64 ny)) (go_keep)
        ((first
          | (go_at_call 127; refine (HSp.out C t.ld t.hd _ (HW2.out.next (Below.refl _ _).drew)).mono ?_; rintro e w3 ⟨lo, hi, rfl, hz, g3, r0, r1, r2, r3, r4, r5, r6⟩)
          | (go_at_call 126; refine (HMp.out t.ld t.hd lo hi C _ g3).mono ?_; rintro e w4 ⟨rfl, g4, s0, s1, s2, s3, s4, s5, s6⟩)))
      all_goals
        go_wp2_with fail
        go_ret
        exact HEnd.out _ _ _ _ _ (by first | trivial | rfl) (by simp) hz g4.lo
    · rw [hbr] at HP14 HEnd
      have HIs : Hid (∀ w1, Below (w.alloc (.cells #[.int .i64 x, .int .i64 y, .int .i64 nx, .int .i64 ny] 66)).heap.size (w.alloc (.cells #[.int .i64 x, .int .i64 y, .int .i64 nx, .int .i64 ny] 66)) w1 → DcI w w1.heap.size x y nx ny 0 65535 (w1.alloc (.cells #[.int .u16 0, .int .u16 65535] 221))) := fun w1 hb1 => HI.out w1 hb1 0 65535
      go_enter Tryz.func101, Tryz.ntmps101
      go_upto_region 6 with (first
        | (go_at_call 117; refine (HF.out _ HB0.out).mono ?_; rintro e w' ⟨rfl, rfl⟩)
        | (go_at_call 125; refine (HDp.out _ HB0.out).mono ?_; rintro e w1 ⟨rfl, hb1⟩; obtain ⟨c14, c27⟩ := HP14.out _ (HI.out w1 hb1 t.ld t.hd).lo))
      refine gen_w (DcI w w1.heap.size x y nx ny 0 65535) (Code.wp _ _ _ _) _ (HIs.out w1 hb1) ?_
      intro W2 hW2
      have HW2 : Hid (DcI w w1.heap.size x y nx ny 0 65535 W2) := hW2
      have ca := cell_of hW2.bx
      have cc := cell_of hW2.co
      clear c14 c27
      obtain ⟨c14, c27⟩ := HP14.out W2 hW2.lo
      clear hW2 hb1 HI HDp HF HIs
      generalize w1.heap.size = C at *
      go_region_held (fun w' => w'.cell? ⟨p, 14, none⟩ = some (.int .u8 st.T.depth) ∧ w'.cell? ⟨C, 0, none⟩ = some (.int .u16 0) ∧ w'.cell? ⟨C, 1, none⟩ = some (.int .u16 65535) ∧ w'.cell? ⟨w.heap.size, 0, none⟩ = some (.int .i64 x) ∧ w'.cell? ⟨w.heap.size, 1, none⟩ = some (.int .i64 y) ∧ w'.cell? ⟨w.heap.size, 2, none⟩ = some (.int .i64 nx) ∧ w'.cell? ⟨w.heap.size, 3, none⟩ = some (.int .i64 ny)) (go_keep)
        ((first
          | (go_at_call 127; refine (HSp.out C 0 65535 _ (HW2.out.next (Below.refl _ _).drew)).mono ?_; rintro e w3 ⟨lo, hi, rfl, hz, g3, r0, r1, r2, r3, r4, r5, r6⟩)
          | (go_at_call 126; refine (HMp.out 0 65535 lo hi C _ g3).mono ?_; rintro e w4 ⟨rfl, g4, s0, s1, s2, s3, s4, s5, s6⟩)))
      all_goals
        go_wp2_with fail
        go_ret
        exact HEnd.out _ _ _ _ _ (by first | trivial | rfl) (by simp) hz g4.lo
  · rw [hfl] at HF
    go_enter Tryz.func101, Tryz.ntmps101
    go_wp2_with (go_at_call 117; refine (HF.out _ HB0.out).mono ?_; rintro e w' ⟨rfl, rfl⟩)
    go_ret
    exact ⟨false, rfl, (fun h => by cases h), HB0.out⟩
end
end Go.Proofs.YthcikinkicpicaaGreatDoor
