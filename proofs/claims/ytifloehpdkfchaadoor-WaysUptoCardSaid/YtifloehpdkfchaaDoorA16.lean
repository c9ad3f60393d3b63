import Derived.Test.YtifloehpdkfchaaDoorA15
import Derived.Test.YtifloehpdkfchaaDoorA12
import Derived.Test.YtifloehpdkfchaaDoorA14
import Derived.Test.YtifloehpdkfchaaDoorA01

namespace Go.Proofs.YtifloehpdkfchaaDoor
open Go.RowKit
section
variable (base : Nat) (p cB zB sB A n : Nat) (s : ByteArray) (k ways : Int) (shV outV : Value) (st : St) (w : World)

/-- What becomes of the pane where a pixel is tested. -/
def St.tested (st : St) (X Y : Nat) (f : Dot) : St :=
  { st with dots := st.dots.set ((Y : Int) * st.W + X).toNat (dotRes st.T f (dotAt st X Y)).1, qs := if (dotRes st.T f (dotAt st X Y)).2 then st.qs.map count else st.qs }

abbrev smpO (X Y : Nat) (f : Dot) : Obj := .cells #[.int .i64 X, .int .i64 Y, .int .u8 f.r, .int .u8 f.g, .int .u8 f.b, .int .u16 f.d] 167 (0, 0)

structure BW (X Y : Nat) (f : Dot) (w W : World) : Prop where
  lo : Below w.heap.size w W
  bx : W.heap[w.heap.size]? = some (smpO X Y f)
theorem BW.next {X Y : Nat} {f : Dot} {w W W' : World} (h : BW X Y f w W) (hb : Below W.heap.size W W') : BW X Y f w W' :=
  ⟨h.lo.trans (hb.mono h.lo.size), (hb.block _ (lt_of_heap h.bx)).trans h.bx⟩

/-- Ahead of the stencil's store: the drawer holds st1, and kd is what is done. -/
structure Lf (X Y : Nat) (f : Dot) (st1 : St) (kd : Int) : Prop where
  eq : { st1 with dots := st1.dots.set ((Y : Int) * st1.W + X).toNat { st1.dots.getD ((Y : Int) * st1.W + X).toNat dot0 with s := made st.T kd (dotAt st X Y).s } } = st.tested X Y f
  T : st1.T = st.T
  W : st1.W = st.W
  H : st1.H = st.H
  len : st1.dots.length = st.dots.length

theorem lf_fail {st : St} {X Y : Nat} {f : Dot} (h : testB st.T.test (iand st.T.value st.T.which) (iand (dotAt st X Y).s st.T.which) = false) : Lf st X Y f st st.T.fail := by
  refine ⟨?_, rfl, rfl, rfl, rfl⟩
  unfold St.tested dotRes
  rw [if_pos h]
  rfl
theorem lf_dfail {st : St} {X Y : Nat} {f : Dot} (h : testB st.T.test (iand st.T.value st.T.which) (iand (dotAt st X Y).s st.T.which) = true) (h2 : testB st.T.depth f.d (dotAt st X Y).d = false) : Lf st X Y f st st.T.dfail := by
  refine ⟨?_, rfl, rfl, rfl, rfl⟩
  unfold St.tested dotRes
  rw [h, if_neg (by decide), if_pos h2]
  rfl
theorem lf_pass {K : Int} {st : St} {X Y : Nat} {f : Dot} (hok : st.Ok K) (hX : (X : Int) < st.W) (hY : (Y : Int) < st.H) (h : testB st.T.test (iand st.T.value st.T.which) (iand (dotAt st X Y).s st.T.which) = true) (h2 : testB st.T.depth f.d (dotAt st X Y).d = true) :
    Lf st X Y f { st.putDot X Y (wrDot st.T f (dotAt st X Y)) with qs := st.qs.map count } st.T.pass := by
  refine ⟨?_, rfl, rfl, rfl, by simp [St.putDot]⟩
  have hl : ((Y : Int) * st.W + X).toNat < st.dots.length := by
    have h0 := hok.W0
    have h1 : ((Y : Int) + 1) * st.W ≤ st.H * st.W := Int.mul_le_mul_of_nonneg_right (by omega) (by omega)
    rw [Int.add_mul, Int.one_mul, Int.mul_comm st.H] at h1
    have h3 : 0 ≤ (Y : Int) * st.W := Int.mul_nonneg (by omega) (by omega)
    have := hok.len
    omega
  unfold St.tested dotRes
  rw [h, h2, if_neg (by decide), if_neg (by decide)]
  simp only [St.putDot, List.set_set, List.getD_eq_getElem?_getD, List.getElem?_set_self hl, Option.getD_some, wrDot, if_true]

def TwPost (X Y : Nat) (f : Dot) (e : Ending) (w' : World) : Prop :=
  e = .returned (.tuple #[]) ∧ Dr base w' p cB zB sB A n s k ways shV outV (st.tested X Y f) ∧ Kept (fun g => g = p ∨ g = cB ∨ g = zB ∨ g = sB) w w'

theorem dotAt_ok {K : Int} {st : St} (hok : st.Ok K) (X Y : Nat) : (dotAt st X Y).Ok := by
  unfold dotAt
  rw [List.getD_eq_getElem?_getD]
  cases h : st.dots[((Y : Int) * st.W + X).toNat]? with
  | none => exact ⟨by decide, by decide, by decide, by decide, by decide, by decide, by decide, by decide, by decide, by decide⟩
  | some o => exact hok.dots o (List.mem_of_getElem? h)

/-- Ahead of the stencil's store. -/
structure Phi (X Y : Nat) (f : Dot) (st1 : St) (W : World) : Prop where
  dr : Dr base W p cB zB sB A n s k ways shV outV st1
  bx : W.heap[w.heap.size]? = some (smpO X Y f)
  kp : Kept (fun g => g = p ∨ g = cB ∨ g = zB) w W

section
variable {base p cB zB sB A n : Nat} {s : ByteArray} {k ways : Int} {shV outV : Value} {st st1 : St} {w W W0 : World} {X Y : Nat} {f : Dot} {kd : Int}
theorem tw_changed (hP : Phi base p cB zB sB A n s k ways shV outV w X Y f st1 W) (hL : Lf st X Y f st1 kd) (hT : st.T.Ok) (ok : (dotAt st X Y).Ok) (hb : Below W.heap.size W W0) :
    Calls Tryd.prog 94 #[.pointer (some ⟨p, 16, none⟩), .int .u8 (dotAt st X Y).s, .int .u8 kd] W0 fun e w' => e = .returned (.int .u8 (made st.T kd (dotAt st X Y).s)) ∧ Below W.heap.size W w' ∧
      w'.cell? ⟨w.heap.size, 0, none⟩ = some (.int .i64 X) ∧ w'.cell? ⟨w.heap.size, 1, none⟩ = some (.int .i64 Y) := by
  have cp := cell_of (hP.dr.frame hb).bp
  have c17 := cp 17
  have c19 := cp 19
  simp only [xcells, hL.T] at c17 c19
  refine (changed_u8 p W0 st.T.value st.T.writes kd (dotAt st X Y).s ok.s0 ok.s1 c17 c19).mono ?_
  rintro e w' ⟨rfl, hb'⟩
  have hb2 : Below W.heap.size W w' := hb.trans (hb'.mono hb.size)
  have bx := cell_of ((hb2.block _ (lt_of_heap hP.bx)).trans hP.bx)
  exact ⟨by rw [made_bits st.T kd _ hT ok.s0 ok.s1], hb2, bx 0, bx 1⟩

theorem tw_set (h : Dr base w p cB zB sB A n s k ways shV outV st) {K : Int} (hok : st.Ok K) (hX : (X : Int) < st.W) (hY : (Y : Int) < st.H) (hP : Phi base p cB zB sB A n s k ways shV outV w X Y f st1 W) (hL : Lf st X Y f st1 kd) (hb : Below W.heap.size W W0) :
    Calls Tryd.prog 93 #[.pointer (some ⟨p, 12, none⟩), .int .i64 X, .int .i64 Y, .int .u8 (made st.T kd (dotAt st X Y).s)] W0 fun e w' => TwPost base p cB zB sB A n s k ways shV outV st w X Y f e w' ∧
      w'.cell? ⟨w.heap.size, 0, none⟩ = some (.int .i64 X) ∧ w'.cell? ⟨w.heap.size, 1, none⟩ = some (.int .i64 Y) := by
  have hl := hL.len
  have ls : sB < w.heap.size := by
    obtain ⟨_, _, _, _, _, _, cur, hs, _⟩ := h.sf.ex
    exact lt_of_heap hs
  refine (sten_set hP.dr hb (by rw [hL.W]; exact hok.W1) (by rw [hL.H]; exact hok.H1) (by rw [hL.W]; have := hok.W0; omega) (by rw [hL.W, hL.H, hl]; exact hok.len) (by rw [hL.W]; exact hX) (by rw [hL.H]; exact hY) _).mono ?_
  rintro e w' ⟨rfl, hd, hk⟩
  rw [hL.eq] at hd
  have bx := cell_of ((hk.block _ (lt_of_heap hP.bx) (by omega)).trans hP.bx)
  exact ⟨⟨rfl, hd, (hP.kp.mono (fun _ e => by omega)).trans (hk.mono (fun _ e => by omega))⟩, bx 0, bx 1⟩
end

set_option maxRecDepth 100000 in
set_option maxHeartbeats 2000000 in
theorem testAndWrite_in (K : Int) (h : Dr base w p cB zB sB A n s k ways shV outV st) (hok : st.Ok K) (hK : K ≤ 1000000000000000) (X Y : Nat) (hX : (X : Int) < st.W) (hY : (Y : Int) < st.H) (f : Dot) :
    Calls Tryd.prog 84 #[.pointer (some ⟨p, 0, none⟩), smpV X Y f.r f.g f.b f.d] w (TwPost base p cB zB sB A n s k ways shV outV st w X Y f) := by
  obtain ⟨hn, hA6, hn36⟩ := in_tile h.sf.hA h.sf.hn hX hY hok.W1 hok.H1
  have hW1 := hok.W1
  have hH1 := hok.H1
  have hx24 : X < 24 := by omega
  have hy24 : Y < 24 := by omega
  have lp := lt_of_heap h.bp
  have HD : Hid (Dr base w p cB zB sB A n s k ways shV outV st) := h
  have oOk : (dotAt st X Y).Ok := dotAt_ok hok X Y
  have HS : Hid (∀ W, BW X Y f w W → Calls Tryd.prog 67 #[.pointer (some ⟨p, 12, none⟩), .int .i64 X, .int .i64 Y] W fun e w2 => e = .returned (.int .u8 (dotAt st X Y).s) ∧ BW X Y f w w2 ∧
      w2.cell? ⟨w.heap.size, 0, none⟩ = some (.int .i64 X) ∧ w2.cell? ⟨w.heap.size, 1, none⟩ = some (.int .i64 Y)) := by
    intro W hW
    obtain ⟨fc, fz, fs, ho⟩ := (HD.out.frame hW.lo).open_
    refine (at8 p 12 sB n A X Y fs W ho.s hx24 hy24 hA6 hn hn36).mono ?_
    rintro e w2 ⟨rfl, hb2⟩
    have hx := hW.next hb2
    refine ⟨by unfold dotAt; rw [ho.pix X Y hX hY], hx, cell_of hx.bx 0, cell_of hx.bx 1⟩
  have HZ : Hid (∀ W, BW X Y f w W → Calls Tryd.prog 66 #[.pointer (some ⟨p, 10, none⟩), .int .i64 X, .int .i64 Y] W fun e w2 => e = .returned (.int .u16 (dotAt st X Y).d) ∧ BW X Y f w w2 ∧
      w2.cell? ⟨w.heap.size, 0, none⟩ = some (.int .i64 X) ∧ w2.cell? ⟨w.heap.size, 1, none⟩ = some (.int .i64 Y) ∧ w2.cell? ⟨w.heap.size, 5, none⟩ = some (.int .u16 f.d) ∧ w2.cell? ⟨p, 14, none⟩ = some (.int .u8 st.T.depth)) := by
    intro W hW
    obtain ⟨fc, fz, fs, ho⟩ := (HD.out.frame hW.lo).open_
    refine (at16 p 10 zB n A X Y fz W ho.z hx24 hy24 hA6 hn hn36).mono ?_
    rintro e w2 ⟨rfl, hb2⟩
    have hx := hW.next hb2
    refine ⟨by unfold dotAt; rw [ho.pix X Y hX hY], hx, cell_of hx.bx 0, cell_of hx.bx 1, cell_of hx.bx 5, cell_of (HD.out.frame hx.lo).bp 14⟩
  have HP : Hid (∀ W, BW X Y f w W → Calls Tryd.prog 90 #[.pointer (some ⟨p, 16, none⟩), .int .u8 (dotAt st X Y).s] W fun e w2 => e = .returned (.bool (testB st.T.test (iand st.T.value st.T.which) (iand (dotAt st X Y).s st.T.which))) ∧ BW X Y f w w2) := by
    intro W hW
    have cp := cell_of (HD.out.frame hW.lo).bp
    have hT := hok.T
    rw [← u8_and st.T.value st.T.which hT.value0 hT.value1 hT.which0 hT.which1, ← u8_and (dotAt st X Y).s st.T.which oOk.s0 oOk.s1 hT.which0 hT.which1]
    refine (spasses_u8 p W st.T.test st.T.value st.T.which (dotAt st X Y).s hT.test0 hT.test1 (cp 16) (cp 17) (cp 18)).mono ?_
    rintro e w2 ⟨rfl, hb2⟩
    exact ⟨rfl, hW.next hb2⟩
  have HB0 : Hid (BW X Y f w (w.alloc (smpO X Y f))) := ⟨below1, heap_alloc_new _ _⟩
  have HT : Hid (st.T.Ok) := hok.T
  generalize ho : dotAt st X Y = o at *
  go_enter Tryd.func84, Tryd.ntmps84
  go_wp2_with fail
  refine gen_w (BW X Y f w) (Code.wp _ _ _ _) _ HB0.out ?_
  intro W1 hW1
  have HW1 : Hid (BW X Y f w W1) := hW1
  have bx := cell_of hW1.bx
  clear hW1 HB0 h
  go_region_held (fun w2 => w2.cell? ⟨w.heap.size, 0, none⟩ = some (.int .i64 X) ∧ w2.cell? ⟨w.heap.size, 1, none⟩ = some (.int .i64 Y)) (go_keep)
    ((go_at_call 67; refine (HS.out _ (HW1.out.next (Below.refl _ _).drew)).mono ?_; rintro e w2 ⟨rfl, hB2, r0, r1⟩))
  all_goals
    have HB2 : Hid (BW X Y f w w2) := hB2
    have c22 := cell_of (HD.out.frame hB2.lo).bp 22
    simp only [xcells] at c22
    clear hB2 r0 r1 bx HW1
    cases ht : testB st.T.test (iand st.T.value st.T.which) (iand o.s st.T.which)
    case' false =>
      rw [ht] at HP
      go_wp2_with (go_at_call 90; refine (HP.out _ HB2.out).mono ?_; rintro e w3 ⟨rfl, hB3⟩; have c20 := cell_of (HD.out.frame hB3.lo).bp 20; simp only [xcells] at c20)
      have HL : Hid (Lf st X Y f st st.T.fail) := lf_fail (by rw [ho]; exact ht)
      refine gen_w (Phi base p cB zB sB A n s k ways shV outV w X Y f st) (Code.wp _ _ _ _) _ ⟨HD.out.frame hB3.lo, hB3.bx, (Kept.refl _ w).below hB3.lo⟩ ?_
      intro W8 hW8
    case' true =>
      rw [ht] at HP
      go_wp2_with (go_at_call 90; refine (HP.out _ HB2.out).mono ?_; rintro e w3 ⟨rfl, hB3⟩)
      have HB3 : Hid (BW X Y f w w3) := hB3
      have c14 := cell_of (HD.out.frame hB3.lo).bp 14
      have bx3 := cell_of hB3.bx
      simp only [xcells] at c14
      clear hB3 c22 HB2
      cases hz : testB st.T.depth f.d o.d
      all_goals
        have HQ : Hid (∀ w', Calls Tryd.prog 91 #[.int .u8 st.T.depth, .int .u16 f.d, .int .u16 o.d] w' fun e w'' => e = .returned (.bool (testB st.T.depth f.d o.d)) ∧ w'' = w') := fun w' => passes16_any st.T.depth f.d o.d w' HT.out.depth0 HT.out.depth1
        rw [hz] at HQ
        go_region_held (fun w2 => w2.cell? ⟨w.heap.size, 0, none⟩ = some (.int .i64 X) ∧ w2.cell? ⟨w.heap.size, 1, none⟩ = some (.int .i64 Y) ∧ w2.cell? ⟨w.heap.size, 5, none⟩ = some (.int .u16 f.d) ∧ w2.cell? ⟨p, 14, none⟩ = some (.int .u8 st.T.depth)) (go_keep)
          ((first
            | (go_at_call 66; refine (HZ.out _ (HB3.out.next (Below.refl _ _).drew)).mono ?_; rintro e w4 ⟨rfl, hB4, r0, r1, r5, r14⟩)
            | (go_at_call 91; refine (HQ.out _).mono ?_; rintro e w' ⟨rfl, rfl⟩)))
      case' false =>
        have c21 := cell_of (HD.out.frame hB4.lo).bp 21
        simp only [xcells] at c21
        go_wp2_with fail
        have HL : Hid (Lf st X Y f st st.T.dfail) := lf_dfail (by rw [ho]; exact ht) (by rw [ho]; exact hz)
        refine gen_w (Phi base p cB zB sB A n s k ways shV outV w X Y f st) (Code.wp _ _ _ _) _ ⟨HD.out.frame hB4.lo, hB4.bx, (Kept.refl _ w).below hB4.lo⟩ ?_
        intro W8 hW8
      case' true =>
        have HB4 : Hid (BW X Y f w _) := hB4
        have bx4 := cell_of hB4.bx
        clear hB4 bx3 r0 r1 r5 r14 HB3 c14
        go_wp2_with (go_at_call 92; refine (write_in base p cB zB sB A n s k ways shV outV st _ K (HD.out.frame HB4.out.lo) hok hK X Y hX hY f).mono ?_; rintro e w5 ⟨rfl, hd5, hk5⟩)
        have HL : Hid (Lf st X Y f { st.putDot X Y (wrDot st.T f (dotAt st X Y)) with qs := st.qs.map count } st.T.pass) := lf_pass hok hX hY (by rw [ho]; exact ht) (by rw [ho]; exact hz)
        refine gen_w (Phi base p cB zB sB A n s k ways shV outV w X Y f { st.putDot X Y (wrDot st.T f (dotAt st X Y)) with qs := st.qs.map count }) (Code.wp _ _ _ _) _ ⟨hd5, (hk5.block _ (lt_of_heap HB4.out.bx) ?_).trans HB4.out.bx, ((Kept.refl _ w).below HB4.out.lo).trans hk5⟩ ?_
        · obtain ⟨_, _, _, _, ⟨c1, b1, _⟩, ⟨c2, b2, _⟩, _⟩ := HD.out.sf.ex
          have l1 := lt_of_heap b1
          have l2 := lt_of_heap b2
          omega
        intro W8 hW8
  all_goals
    have HW8 : Hid (Phi base p cB zB sB A n s k ways shV outV w X Y f _ W8) := hW8
    have bx8 := cell_of hW8.bx
    have HC : Hid (∀ W0, Below W8.heap.size W8 W0 → Calls Tryd.prog 94 #[.pointer (some ⟨p, 16, none⟩), .int .u8 o.s, .int .u8 _] W0 fun e w' => e = .returned (.int .u8 (made st.T _ o.s)) ∧ Below W8.heap.size W8 w' ∧
      w'.cell? ⟨w.heap.size, 0, none⟩ = some (.int .i64 X) ∧ w'.cell? ⟨w.heap.size, 1, none⟩ = some (.int .i64 Y)) := fun W0 hb0 => by
        have hq := tw_changed hW8 HL.out HT.out (by rw [ho]; exact oOk) hb0
        rw [ho] at hq
        exact hq
    have HF : Hid (∀ W0, Below W8.heap.size W8 W0 → Calls Tryd.prog 93 #[.pointer (some ⟨p, 12, none⟩), .int .i64 X, .int .i64 Y, .int .u8 (made st.T _ o.s)] W0 fun e w' => TwPost base p cB zB sB A n s k ways shV outV st w X Y f e w' ∧
      w'.cell? ⟨w.heap.size, 0, none⟩ = some (.int .i64 X) ∧ w'.cell? ⟨w.heap.size, 1, none⟩ = some (.int .i64 Y)) := fun W0 hb0 => by
        have hq := tw_set HD.out hok hX hY hW8 HL.out hb0
        rw [ho] at hq
        exact hq
    clear hW8 HW8 HL
    go_region_held (fun w2 => w2.cell? ⟨w.heap.size, 0, none⟩ = some (.int .i64 X) ∧ w2.cell? ⟨w.heap.size, 1, none⟩ = some (.int .i64 Y)) (go_keep)
      ((first
        | (go_at_call 94; refine (HC.out _ (Below.refl _ _).drew).mono ?_; rintro e w9 ⟨rfl, hb9, r0, r1⟩)
        | (go_at_call 93; refine (HF.out _ hb9).mono ?_; rintro e w10 ⟨⟨rfl, hd10, hk10⟩, q0, q1⟩)))
    all_goals
      go_end0
      exact ⟨rfl, hd10, hk10⟩
end
end Go.Proofs.YtifloehpdkfchaaDoor

namespace Go.Proofs.YtifloehpdkfchaaDoor
open Go.RowKit
section
variable {base : Nat} {p cB zB sB A n : Nat} {s : ByteArray} {k ways : Int} {shV outV : Value} {st : St} {w : World}

theorem shade_any {K : Int} {W : World} (h : Dr base W p cB zB sB A n s k ways shV outV st) (hok : st.Ok K) (S : Nat) (d : Dot) (x y : Int) (hS : W.heap[S]? = some (.cells #[.int .i64 x, .int .i64 y, .int .u8 d.r, .int .u8 d.g, .int .u8 d.b, .int .u16 d.d] 167 (0, 0)))
    (hd : d.Ok) (x0 : 0 ≤ x) (x1 : x < 24) (y0 : 0 ≤ y) (y1 : y < 24) :
    Calls Tryd.prog 83 #[.pointer (some ⟨S, 0, none⟩), shV] W (ShPost S 0 x y W (shRun st.sh [d.r, d.g, d.b, x, y, d.d, 0, 0] d.d 0)) := by
  rcases h.sh with ⟨hbad, ⟨rfl, hnil⟩ | ⟨g, m, cur, rfl, hl, hg, hc⟩⟩
  · rw [hnil]; exact shade_nil S d x y W hS hd x0 x1 y0 y1
  · exact shade_in S g m st.sh d x y W hS ⟨hl, cur, hg, hc⟩ (by have := hok.shl; omega) hok.sh hbad hd x0 x1 y0 y1

/-- The pixel's shader says whether it goes on. -/
theorem dot_none {d : Dot} {x y kk : Int} (h : shRun st.sh [d.r, d.g, d.b, x, y, d.d, 0, 0] d.d 0 = (kk, none)) : st.dot d x y = { st with work := st.work + kk } := by
  have h2 := shRun_add st.sh.length st.sh [d.r, d.g, d.b, x, y, d.d, 0, 0] d.d 0 st.work (Nat.le_refl _)
  rw [h, Int.zero_add] at h2
  unfold St.dot shaded
  rw [h2]
  simp only [Int.add_comm]
theorem dot_some {d : Dot} {X Y : Nat} {kk z : Int} {r : List Int} (h : shRun st.sh [d.r, d.g, d.b, X, Y, d.d, 0, 0] d.d 0 = (kk, some (r, z))) :
    st.dot d X Y = St.tested { st with work := st.work + kk } X Y { r := within (r.getD 0 0) 0 255, g := within (r.getD 1 0) 0 255, b := within (r.getD 2 0) 0 255, d := z, s := d.s } := by
  have h2 := shRun_add st.sh.length st.sh [d.r, d.g, d.b, (X : Int), (Y : Int), d.d, 0, 0] d.d 0 st.work (Nat.le_refl _)
  rw [h, Int.zero_add] at h2
  unfold St.dot shaded St.tested dotAt
  rw [h2]
  simp only [Int.add_comm kk]

/-- What is asked of drawPixel. -/
def PixAll (base p cB zB sB A n : Nat) (s : ByteArray) (k ways : Int) (shV outV : Value) (q : Nat) (a b c : Cor) (area : Int) (front : Bool) : Prop :=
  ∀ (st : St) (K : Int) (X Y : Nat) (w : World), Dr base w p cB zB sB A n s k ways shV outV st → st.Ok K → K + 16 ≤ 1000000000000000 → (X : Int) < st.W → (Y : Int) < st.H → w.heap[q]? = some (.cells (trc a b c area front) 124 (0, 0)) →
    Calls Tryd.prog 77 #[.pointer (some ⟨p, 0, none⟩), .pointer (some ⟨q, 0, none⟩), .int .i64 X, .int .i64 Y] w fun e w' =>
      e = .returned (.tuple #[]) ∧ Dr base w' p cB zB sB A n s k ways shV outV (st.px a b c area (X, Y)) ∧ Kept (fun i => i = p ∨ i = cB ∨ i = zB ∨ i = sB) w w'

/-- Behind the shader: nothing old has turned. -/
structure PxW (base p cB zB sB A n : Nat) (s : ByteArray) (k ways : Int) (shV outV : Value) (st : St) (w W : World) : Prop where
  dr : Dr base W p cB zB sB A n s k ways shV outV st
  lo : Below w.heap.size w W

theorem work_ok {K : Int} {st : St} (h : st.Ok K) {kk : Int} (h0 : 0 ≤ kk) (h1 : kk ≤ 16) : St.Ok (K + 16) { st with work := st.work + kk } := by
  have a := h.work0
  have b := h.work1
  exact { Ok_mono h (show K ≤ K + 16 by omega) with work0 := by show 0 ≤ st.work + kk; omega, work1 := by show st.work + kk ≤ K + 16; omega }

set_option maxRecDepth 100000 in
set_option maxHeartbeats 2000000 in
theorem drawPixel_in (q : Nat) (a b c : Cor) (area : Int) (front : Bool) (ha : a.Ok) (hb : b.Ok) (hc : c.Ok) (harea : edge a b c.x c.y = area) (hpos : 0 < area) :
    PixAll base p cB zB sB A n s k ways shV outV q a b c area front := by
  intro st K X Y w h hok hK hX hY hq
  have hW1 := hok.W1
  have hH1 := hok.H1
  have lp := lt_of_heap h.bp
  have HD : Hid (Dr base w p cB zB sB A n s k ways shV outV st) := h
  have hsm := sample_any q a b c area front X Y w hq ha hb hc harea hpos (by omega) (by omega) (by omega) (by omega)
  cases hcov : covB a b c X Y
  · have HSm : Hid (Calls Tryd.prog 82 #[.pointer (some ⟨q, 0, none⟩), .int .i64 X, .int .i64 Y] w fun e w' => e = .returned (.tuple #[smpV 0 0 0 0 0 0, .bool false]) ∧ Below w.heap.size w w') := by
      refine hsm.mono ?_
      rintro e w' ⟨(⟨_, v, rfl, rfl⟩ | ⟨h1, _⟩), hb'⟩
      · exact ⟨rfl, hb'⟩
      · rw [hcov] at h1; cases h1
    have hpx : st.px a b c area (X, Y) = st := by unfold St.px; rw [hcov]; rfl
    rw [hpx]
    clear hsm hcov hpx h hq
    go_enter Tryd.func77, Tryd.ntmps77
    go_wp2_with (go_at_call 82; refine HSm.out.mono ?_; rintro e w1 ⟨rfl, hb1⟩)
    (try simp only [Exit.inBlock, Exit.then])
    refine bodyPost_ret (results_none rfl _ _ _) rfl ?_
    exact ⟨rfl, HD.out.frame (hb1.alloc hb1.size _), (Kept.refl _ w).below (hb1.alloc hb1.size _)⟩
  · have hdok := pix_ok a b c area X Y ha hb hc harea hpos hcov
    have HSm : Hid (Calls Tryd.prog 82 #[.pointer (some ⟨q, 0, none⟩), .int .i64 X, .int .i64 Y] w fun e w' => e = .returned (.tuple #[smpV X Y (pix a b c area X Y).r (pix a b c area X Y).g (pix a b c area X Y).b (pix a b c area X Y).d, .bool true]) ∧ Below w.heap.size w w') := by
      refine hsm.mono ?_
      rintro e w' ⟨(⟨h1, _⟩ | ⟨_, rfl⟩), hb'⟩
      · rw [hcov] at h1; cases h1
      · exact ⟨rfl, hb'⟩
    have hpx : st.px a b c area (X, Y) = st.dot (pix a b c area X Y) X Y := by unfold St.px; rw [hcov]; rfl
    rw [hpx]
    clear hsm hcov hpx hq
    generalize pix a b c area X Y = d at *
    have HSh : Hid (∀ w1, Below w.heap.size w w1 → Calls Tryd.prog 83 #[.pointer (some ⟨w1.heap.size, 0, none⟩), shV] (w1.alloc (.cells #[.int .i64 X, .int .i64 Y, .int .u8 d.r, .int .u8 d.g, .int .u8 d.b, .int .u16 d.d] 167)) (ShPost w1.heap.size 0 X Y (w1.alloc (.cells #[.int .i64 X, .int .i64 Y, .int .u8 d.r, .int .u8 d.g, .int .u8 d.b, .int .u16 d.d] 167)) (shRun st.sh [d.r, d.g, d.b, X, Y, d.d, 0, 0] d.d 0))) := by
      intro w1 hb1
      exact shade_any (HD.out.frame (hb1.alloc hb1.size _)) hok _ d X Y (heap_alloc_new _ _) hdok (by omega) (by omega) (by omega) (by omega)
    have hwk := shRun_work st.sh.length st.sh [d.r, d.g, d.b, (X : Int), (Y : Int), d.d, 0, 0] d.d 0 (Nat.le_refl _)
    have hshl := hok.shl
    obtain ⟨kk, res, hfin⟩ : ∃ kk res, shRun st.sh [d.r, d.g, d.b, (X : Int), (Y : Int), d.d, 0, 0] d.d 0 = (kk, res) := ⟨_, _, rfl⟩
    rw [hfin] at HSh hwk
    have k0 : 0 ≤ kk := hwk.1
    have k1 : kk ≤ 16 := by have := hwk.2; simp only at this; omega
    have wk0 := hok.work0
    have wk1 := hok.work1
    have hwr : IntKind.i64.wrap (st.work + kk) = st.work + kk := k64 (by omega)
    have HP : Hid (∀ (w1 w2 : World), Below w.heap.size w w1 → Kept (· = w1.heap.size) (w1.alloc (.cells #[.int .i64 X, .int .i64 Y, .int .u8 d.r, .int .u8 d.g, .int .u8 d.b, .int .u16 d.d] 167)) w2 → Below w.heap.size w w2) := by
      intro w1 w2 hb1 hk2
      have l1 := hb1.size
      have hb2 : Below w.heap.size w (w1.alloc (.cells #[.int .i64 X, .int .i64 Y, .int .u8 d.r, .int .u8 d.g, .int .u8 d.b, .int .u16 d.d] 167)) := hb1.alloc hb1.size _
      exact ⟨hk2.os.trans hb2.os, hk2.tape.trans hb2.tape, hk2.output.trans hb2.output, Nat.le_trans hb2.size hk2.size, fun i hi => (hk2.block i (Nat.lt_of_lt_of_le hi hb2.size) (by omega)).trans (hb2.block i hi)⟩
    have HE : Hid (∀ w2, Below w.heap.size w w2 → Dr base (w2.setCell ⟨p, 40, none⟩ (.int .i64 (st.work + kk))) p cB zB sB A n s k ways shV outV { st with work := st.work + kk } ∧ Kept (fun i => i = p ∨ i = cB ∨ i = zB ∨ i = sB) w (w2.setCell ⟨p, 40, none⟩ (.int .i64 (st.work + kk)))) := by
      intro w2 hb2
      have hd2 := HD.out.frame hb2
      refine ⟨hd2.put ((heap_set_same hd2.bp 40 _).trans rfl) (kept_set1 p 40 _) rfl rfl rfl rfl rfl, ((Kept.refl _ w).below hb2).trans ((kept_set1 p 40 _).mono (fun _ => .inl))⟩
    have HOK : Hid (St.Ok (K + 16) { st with work := st.work + kk }) := work_ok hok k0 k1
    cases res with
    | none =>
      have hdot := dot_none hfin
      rw [hdot]
      clear hfin hwk hdot h hok
      go_enter Tryd.func77, Tryd.ntmps77
      go_wp2_with (first
        | (go_at_call 82; refine HSm.out.mono ?_; rintro e w1 ⟨rfl, hb1⟩; have l1 := hb1.size; have ne1 : p < w1.heap.size := (by omega); have c25 : ∀ ob, (w1.alloc ob).cell? ⟨p, 25, none⟩ = some shV := fun ob => (World.cell?_alloc_past _ _ _ ne1).trans (cell_of (HD.out.frame hb1).bp 25))
        | (go_at_call 83; refine (HSh.out w1 hb1).mono ?_; rintro e w2 ⟨hk2, rfl⟩; have hb2 := HP.out w1 w2 hb1 hk2; have c40 : w2.cell? ⟨p, 40, none⟩ = some (.int .i64 st.work) := cell_of (HD.out.frame hb2).bp 40; have f40 := frozen_of (HD.out.frame hb2).bp 40))
      go_end0
      exact ⟨rfl, HE.out _ hb2⟩
    | some rz =>
      obtain ⟨r, z⟩ := rz
      have hdot := dot_some hfin
      rw [hdot]
      generalize hf : ({ r := within (r.getD 0 0) 0 255, g := within (r.getD 1 0) 0 255, b := within (r.getD 2 0) 0 255, d := z, s := d.s } : Dot) = f at *
      have er : within (r.getD 0 0) 0 255 = f.r := by rw [← hf]
      have eg : within (r.getD 1 0) 0 255 = f.g := by rw [← hf]
      have eb : within (r.getD 2 0) 0 255 = f.b := by rw [← hf]
      have ez : z = f.d := by rw [← hf]
      unfold ShPost at HSh
      simp only [er, eg, eb, ez] at HSh
      have HW : Hid (∀ w3, Dr base w3 p cB zB sB A n s k ways shV outV { st with work := st.work + kk } → Kept (fun i => i = p ∨ i = cB ∨ i = zB ∨ i = sB) w w3 → Calls Tryd.prog 84 #[.pointer (some ⟨p, 0, none⟩), smpV X Y f.r f.g f.b f.d] w3 fun e w4 => e = .returned (.tuple #[]) ∧
          Dr base w4 p cB zB sB A n s k ways shV outV (St.tested { st with work := st.work + kk } X Y f) ∧ Kept (fun i => i = p ∨ i = cB ∨ i = zB ∨ i = sB) w w4) := by
        intro w3 hd3 hk3
        refine (testAndWrite_in base p cB zB sB A n s k ways shV outV { st with work := st.work + kk } w3 (K + 16) hd3 HOK.out hK X Y hX hY f).mono ?_
        rintro e w4 ⟨rfl, hd4, hk4⟩
        exact ⟨rfl, hd4, hk3.trans hk4⟩
      clear hfin hwk hdot h hok hf er eg eb ez
      go_enter Tryd.func77, Tryd.ntmps77
      go_wp2_with (first
        | (go_at_call 82; refine HSm.out.mono ?_; rintro e w1 ⟨rfl, hb1⟩; have l1 := hb1.size; have ne1 : p < w1.heap.size := (by omega); have c25 : ∀ ob, (w1.alloc ob).cell? ⟨p, 25, none⟩ = some shV := fun ob => (World.cell?_alloc_past _ _ _ ne1).trans (cell_of (HD.out.frame hb1).bp 25))
        | (go_at_call 83; refine (HSh.out w1 hb1).mono ?_; rintro e w2 ⟨hk2, rfl, hs2⟩; have hb2 := HP.out w1 w2 hb1 hk2; have c40 : w2.cell? ⟨p, 40, none⟩ = some (.int .i64 st.work) := cell_of (HD.out.frame hb2).bp 40; have f40 := frozen_of (HD.out.frame hb2).bp 40; have cs2 := cell_of hs2)
        | (go_at_call 84; refine (HW.out _ (HE.out _ hb2).1 (HE.out _ hb2).2).mono ?_; rintro e w4 ⟨rfl, hd4, hk4⟩))
      go_end0
      exact ⟨rfl, hd4, hk4⟩
end
end Go.Proofs.YtifloehpdkfchaaDoor
