import Derived.Test.YthcikinkicpicaaGreatDoorA19
import Derived.Test.YthcikinkicpicaaGreatDoorA16

namespace Go.Proofs.YthcikinkicpicaaGreatDoor
open Go.RowKit
section
variable (base : Nat) (p cB zB sB A n : Nat) (s : ByteArray) (k : Int) (ways : Wy) (shV outV : Value) (st : St) (w : World)

/-- What becomes of the pane where a pixel is tested. -/
def St.tested (st : St) (X Y : Nat) (f : Dot) : St :=
  { st with dots := st.dots.set ((Y : Int) * st.W + X).toNat (dotRes st.T f (dotAt st X Y)).1, qs := if (dotRes st.T f (dotAt st X Y)).2 then st.qs.map count else st.qs }

abbrev smpO (X Y : Nat) (f : Dot) : Obj := .cells #[.int .i64 X, .int .i64 Y, .int .u8 f.r, .int .u8 f.g, .int .u8 f.b, .int .u16 f.d] 226 (0, 0)

structure BW (X Y : Nat) (f : Dot) (w W : World) : Prop where
  lo : Below w.heap.size w W
  bx : W.heap[w.heap.size]? = some (smpO X Y f)
theorem BW.next {X Y : Nat} {f : Dot} {w W W' : World} (h : BW X Y f w W) (hb : Below W.heap.size W W') : BW X Y f w W' :=
  ⟨h.lo.trans (hb.mono h.lo.size), (hb.block _ (lt_of_heap h.bx)).trans h.bx⟩

/-- Do both tests pass; what is then done with the stencil. -/
def tPass (T : Tst) (f o : Dot) : Bool := (dotRes T f o).2
def kdOf (T : Tst) (f o : Dot) : Int :=
  if testB T.test (iand T.value T.which) (iand o.s T.which) = false then T.fail else if testB T.depth f.d o.d = false then T.dfail else T.pass
/-- The stencil is done with; nothing is written yet. -/
def St.stn (st : St) (X Y : Nat) (f : Dot) : St := st.putDot X Y { dotAt st X Y with s := made st.T (kdOf st.T f (dotAt st X Y)) (dotAt st X Y).s }

theorem res_fail {T : Tst} {f o : Dot} (h : testB T.test (iand T.value T.which) (iand o.s T.which) = false) : tPass T f o = false ∧ kdOf T f o = T.fail := by
  unfold tPass kdOf dotRes
  rw [if_pos h, if_pos h]
  exact ⟨rfl, rfl⟩
theorem res_dfail {T : Tst} {f o : Dot} (h : testB T.test (iand T.value T.which) (iand o.s T.which) = true) (h2 : testB T.depth f.d o.d = false) : tPass T f o = false ∧ kdOf T f o = T.dfail := by
  unfold tPass kdOf dotRes
  rw [h, if_neg (by decide), if_pos h2, if_neg (by decide), if_pos h2]
  exact ⟨rfl, rfl⟩
theorem res_pass {T : Tst} {f o : Dot} (h : testB T.test (iand T.value T.which) (iand o.s T.which) = true) (h2 : testB T.depth f.d o.d = true) : tPass T f o = true ∧ kdOf T f o = T.pass := by
  simp [tPass, kdOf, dotRes, h, h2]

theorem idx_dots {K : Int} {st : St} {X Y : Nat} (hok : st.Ok K) (hX : (X : Int) < st.W) (hY : (Y : Int) < st.H) : ((Y : Int) * st.W + X).toNat < st.dots.length := by
  have h0 := hok.W0
  have h1 : ((Y : Int) + 1) * st.W ≤ st.H * st.W := Int.mul_le_mul_of_nonneg_right (by omega) (by omega)
  rw [Int.add_mul, Int.one_mul, Int.mul_comm st.H] at h1
  have h3 : 0 ≤ (Y : Int) * st.W := Int.mul_nonneg (by omega) (by omega)
  have := hok.len
  omega

/-- Where a test fails, that is all. -/
theorem stn_fail {st : St} {X Y : Nat} {f g : Dot} (hd : g.d = f.d) (h : tPass st.T f (dotAt st X Y) = false) : st.stn X Y f = st.tested X Y g := by
  unfold St.stn St.tested St.putDot
  cases h1 : testB st.T.test (iand st.T.value st.T.which) (iand (dotAt st X Y).s st.T.which)
  · rw [(res_fail (f := f) h1).2]
    unfold dotRes
    rw [if_pos h1]; rfl
  · cases h2 : testB st.T.depth f.d (dotAt st X Y).d
    · rw [(res_dfail h1 h2).2]
      unfold dotRes
      rw [hd, h1, if_neg (by decide), if_pos h2]; rfl
    · rw [(res_pass h1 h2).1] at h; cases h
/-- Where both pass, it is written. -/
theorem stn_pass {K : Int} {st : St} {X Y : Nat} {f g : Dot} (hok : st.Ok K) (hX : (X : Int) < st.W) (hY : (Y : Int) < st.H) (hd : g.d = f.d) (h : tPass st.T f (dotAt st X Y) = true) :
    { (st.stn X Y f).putDot X Y (wrDot (st.stn X Y f).T g (dotAt (st.stn X Y f) X Y)) with qs := (st.stn X Y f).qs.map count } = st.tested X Y g := by
  have hl := idx_dots hok hX hY
  cases h1 : testB st.T.test (iand st.T.value st.T.which) (iand (dotAt st X Y).s st.T.which)
  · rw [(res_fail h1).1] at h; cases h
  · cases h2 : testB st.T.depth f.d (dotAt st X Y).d
    · rw [(res_dfail h1 h2).1] at h; cases h
    · have e := (res_pass h1 h2).2
      unfold St.tested dotRes
      rw [hd, h1, h2, if_neg (by decide), if_neg (by decide)]
      unfold St.stn
      rw [e]
      simp only [St.putDot, dotAt, List.set_set, List.getD_eq_getElem?_getD, List.getElem?_set_self hl, Option.getD_some, wrDot, if_true, hd]

def TsPost (X Y : Nat) (f : Dot) (e : Ending) (w' : World) : Prop :=
  e = .returned (.bool (tPass st.T f (dotAt st X Y))) ∧ Dr base w' p cB zB sB A n s k ways shV outV (st.stn X Y f) ∧ Kept (fun g => g = p ∨ g = cB ∨ g = zB ∨ g = sB) w w'

theorem dotAt_ok {K : Int} {st : St} (hok : st.Ok K) (X Y : Nat) : (dotAt st X Y).Ok := by
  unfold dotAt
  rw [List.getD_eq_getElem?_getD]
  cases h : st.dots[((Y : Int) * st.W + X).toNat]? with
  | none => exact ⟨by decide, by decide, by decide, by decide, by decide, by decide, by decide, by decide, by decide, by decide⟩
  | some o => exact hok.dots o (List.mem_of_getElem? h)

section
variable {base p cB zB sB A n : Nat} {s : ByteArray} {k : Int} {ways : Wy} {shV outV : Value} {st : St} {w W W0 : World} {X Y : Nat} {f : Dot} {kd : Int}
theorem ts_changed (h : Dr base w p cB zB sB A n s k ways shV outV st) (hT : st.T.Ok) (ok : (dotAt st X Y).Ok) (hb : BW X Y f w W) (kd : Int) :
    Calls Tryz.prog 148 #[.pointer (some ⟨p, 16, none⟩), .int .u8 (dotAt st X Y).s, .int .u8 kd] W fun e w' => e = .returned (.int .u8 (made st.T kd (dotAt st X Y).s)) ∧ BW X Y f w w' ∧
      w'.cell? ⟨w.heap.size, 0, none⟩ = some (.int .i64 X) ∧ w'.cell? ⟨w.heap.size, 1, none⟩ = some (.int .i64 Y) := by
  have cp := cell_of (h.frame hb.lo).bp
  have c17 := cp 17
  have c19 := cp 19
  simp only [xcells] at c17 c19
  refine (changed_u8 p W st.T.value st.T.writes kd (dotAt st X Y).s ok.s0 ok.s1 c17 c19).mono ?_
  rintro e w' ⟨rfl, hb'⟩
  have hb2 := hb.next hb'
  have bx := cell_of hb2.bx
  exact ⟨by rw [made_bits st.T kd _ hT ok.s0 ok.s1], hb2, bx 0, bx 1⟩

theorem ts_set (h : Dr base w p cB zB sB A n s k ways shV outV st) {K : Int} (hok : st.Ok K) (hX : (X : Int) < st.W) (hY : (Y : Int) < st.H) (hb : BW X Y f w W) (hkd : kdOf st.T f (dotAt st X Y) = kd) :
    Calls Tryz.prog 147 #[.pointer (some ⟨p, 12, none⟩), .int .i64 X, .int .i64 Y, .int .u8 (made st.T kd (dotAt st X Y).s)] W fun e w' => e = .returned (.tuple #[]) ∧ (Dr base w' p cB zB sB A n s k ways shV outV (st.stn X Y f) ∧ Kept (fun g => g = p ∨ g = cB ∨ g = zB ∨ g = sB) w w') ∧
      w'.cell? ⟨w.heap.size, 0, none⟩ = some (.int .i64 X) ∧ w'.cell? ⟨w.heap.size, 1, none⟩ = some (.int .i64 Y) := by
  have ls : sB < w.heap.size := by
    obtain ⟨_, _, _, _, _, _, cur, hs, _⟩ := h.sf.ex
    exact lt_of_heap hs
  have hd := h.frame hb.lo
  refine (sten_set hd (Below.refl _ _) hok.W1 hok.H1 (by have := hok.W0; omega) hok.len hX hY _).mono ?_
  rintro e w' ⟨rfl, hd', hk⟩
  have bx := cell_of ((hk.block _ (lt_of_heap hb.bx) (by omega)).trans hb.bx)
  refine ⟨rfl, ⟨?_, ((Kept.refl _ w).below hb.lo).trans (hk.mono (fun _ e => by omega))⟩, bx 0, bx 1⟩
  unfold St.stn St.putDot
  rw [hkd]
  exact hd'
end

set_option maxRecDepth 100000 in
set_option maxHeartbeats 2000000 in
theorem test_in (K : Int) (h : Dr base w p cB zB sB A n s k ways shV outV st) (hok : st.Ok K) (X Y : Nat) (hX : (X : Int) < st.W) (hY : (Y : Int) < st.H) (f : Dot) :
    Calls Tryz.prog 131 #[.pointer (some ⟨p, 0, none⟩), smpV X Y f.r f.g f.b f.d] w (TsPost base p cB zB sB A n s k ways shV outV st w X Y f) := by
  obtain ⟨hn, hA6, hn36⟩ := in_tile h.sf.hA h.sf.hn hX hY hok.W1 hok.H1
  have hW1 := hok.W1
  have hH1 := hok.H1
  have hx24 : X < 24 := by omega
  have hy24 : Y < 24 := by omega
  have lp := lt_of_heap h.bp
  have HD : Hid (Dr base w p cB zB sB A n s k ways shV outV st) := h
  have oOk : (dotAt st X Y).Ok := dotAt_ok hok X Y
  have HS : Hid (∀ W, BW X Y f w W → Calls Tryz.prog 98 #[.pointer (some ⟨p, 12, none⟩), .int .i64 X, .int .i64 Y] W fun e w2 => e = .returned (.int .u8 (dotAt st X Y).s) ∧ BW X Y f w w2 ∧
      w2.cell? ⟨w.heap.size, 0, none⟩ = some (.int .i64 X) ∧ w2.cell? ⟨w.heap.size, 1, none⟩ = some (.int .i64 Y)) := by
    intro W hW
    obtain ⟨fc, fz, fs, ho⟩ := (HD.out.frame hW.lo).open_
    refine (at8 p 12 sB n A X Y fs W ho.s hx24 hy24 hA6 hn hn36).mono ?_
    rintro e w2 ⟨rfl, hb2⟩
    have hx := hW.next hb2
    refine ⟨by unfold dotAt; rw [ho.pix X Y hX hY], hx, cell_of hx.bx 0, cell_of hx.bx 1⟩
  have HZ : Hid (∀ W, BW X Y f w W → Calls Tryz.prog 97 #[.pointer (some ⟨p, 10, none⟩), .int .i64 X, .int .i64 Y] W fun e w2 => e = .returned (.int .u16 (dotAt st X Y).d) ∧ BW X Y f w w2 ∧
      w2.cell? ⟨w.heap.size, 0, none⟩ = some (.int .i64 X) ∧ w2.cell? ⟨w.heap.size, 1, none⟩ = some (.int .i64 Y) ∧ w2.cell? ⟨w.heap.size, 5, none⟩ = some (.int .u16 f.d) ∧ w2.cell? ⟨p, 14, none⟩ = some (.int .u8 st.T.depth)) := by
    intro W hW
    obtain ⟨fc, fz, fs, ho⟩ := (HD.out.frame hW.lo).open_
    refine (at16 p 10 zB n A X Y fz W ho.z hx24 hy24 hA6 hn hn36).mono ?_
    rintro e w2 ⟨rfl, hb2⟩
    have hx := hW.next hb2
    refine ⟨by unfold dotAt; rw [ho.pix X Y hX hY], hx, cell_of hx.bx 0, cell_of hx.bx 1, cell_of hx.bx 5, cell_of (HD.out.frame hx.lo).bp 14⟩
  have HP : Hid (∀ W, BW X Y f w W → Calls Tryz.prog 146 #[.pointer (some ⟨p, 16, none⟩), .int .u8 (dotAt st X Y).s] W fun e w2 => e = .returned (.bool (testB st.T.test (iand st.T.value st.T.which) (iand (dotAt st X Y).s st.T.which))) ∧ BW X Y f w w2) := by
    intro W hW
    have cp := cell_of (HD.out.frame hW.lo).bp
    have hT := hok.T
    rw [← u8_and st.T.value st.T.which hT.value0 hT.value1 hT.which0 hT.which1, ← u8_and (dotAt st X Y).s st.T.which oOk.s0 oOk.s1 hT.which0 hT.which1]
    refine (spasses_u8 p W st.T.test st.T.value st.T.which (dotAt st X Y).s hT.test0 hT.test1 (cp 16) (cp 17) (cp 18)).mono ?_
    rintro e w2 ⟨rfl, hb2⟩
    exact ⟨rfl, hW.next hb2⟩
  have HB0 : Hid (BW X Y f w (w.alloc (smpO X Y f))) := ⟨below1, heap_alloc_new _ _⟩
  have HT : Hid (st.T.Ok) := hok.T
  have HC : Hid (∀ W kd, BW X Y f w W → Calls Tryz.prog 148 #[.pointer (some ⟨p, 16, none⟩), .int .u8 (dotAt st X Y).s, .int .u8 kd] W fun e w' => e = .returned (.int .u8 (made st.T kd (dotAt st X Y).s)) ∧ BW X Y f w w' ∧
      w'.cell? ⟨w.heap.size, 0, none⟩ = some (.int .i64 X) ∧ w'.cell? ⟨w.heap.size, 1, none⟩ = some (.int .i64 Y)) := fun W kd hW => ts_changed h HT.out oOk hW kd
  have HF : Hid (∀ W kd, BW X Y f w W → kdOf st.T f (dotAt st X Y) = kd → Calls Tryz.prog 147 #[.pointer (some ⟨p, 12, none⟩), .int .i64 X, .int .i64 Y, .int .u8 (made st.T kd (dotAt st X Y).s)] W fun e w' => e = .returned (.tuple #[]) ∧ (Dr base w' p cB zB sB A n s k ways shV outV (st.stn X Y f) ∧ Kept (fun g => g = p ∨ g = cB ∨ g = zB ∨ g = sB) w w') ∧
      w'.cell? ⟨w.heap.size, 0, none⟩ = some (.int .i64 X) ∧ w'.cell? ⟨w.heap.size, 1, none⟩ = some (.int .i64 Y)) := fun W kd hW hk => ts_set h hok hX hY hW hk
  have HRf := @res_fail st.T f (dotAt st X Y)
  have HRd := @res_dfail st.T f (dotAt st X Y)
  have HRp := @res_pass st.T f (dotAt st X Y)
  unfold TsPost
  generalize st.stn X Y f = st' at *
  generalize hkd : kdOf st.T f (dotAt st X Y) = kd at *
  generalize hps : tPass st.T f (dotAt st X Y) = ps at *
  clear hkd hps
  generalize ho : dotAt st X Y = o at *
  clear ho oOk
  have HRf' : Hid (testB st.T.test (iand st.T.value st.T.which) (iand o.s st.T.which) = false → ps = false ∧ kd = st.T.fail) := HRf
  have HRd' : Hid (testB st.T.test (iand st.T.value st.T.which) (iand o.s st.T.which) = true → testB st.T.depth f.d o.d = false → ps = false ∧ kd = st.T.dfail) := HRd
  have HRp' : Hid (testB st.T.test (iand st.T.value st.T.which) (iand o.s st.T.which) = true → testB st.T.depth f.d o.d = true → ps = true ∧ kd = st.T.pass) := HRp
  clear HRf HRd HRp hok hn
  go_enter Tryz.func131, Tryz.ntmps131
  go_wp2_with fail
  refine gen_w (BW X Y f w) (Code.wp _ _ _ _) _ HB0.out ?_
  intro W1 hW1
  have HW1 : Hid (BW X Y f w W1) := hW1
  have bx := cell_of hW1.bx
  clear hW1 HB0 h
  go_region_held (fun w2 => w2.cell? ⟨w.heap.size, 0, none⟩ = some (.int .i64 X) ∧ w2.cell? ⟨w.heap.size, 1, none⟩ = some (.int .i64 Y)) (go_keep)
    ((go_at_call 98; refine (HS.out _ (HW1.out.next (Below.refl _ _).drew)).mono ?_; rintro e w2 ⟨rfl, hB2, r0, r1⟩))
  all_goals
    have HB2 : Hid (BW X Y f w w2) := hB2
    have c22 := cell_of (HD.out.frame hB2.lo).bp 22
    simp only [xcells] at c22
    clear hB2 r0 r1 bx HW1
    cases ht : testB st.T.test (iand st.T.value st.T.which) (iand o.s st.T.which)
    case' false =>
      rw [ht] at HP
      obtain ⟨rfl, rfl⟩ := HRf'.out ht
      go_wp2_with (go_at_call 146; refine (HP.out _ HB2.out).mono ?_; rintro e w3 ⟨rfl, hB3⟩; have c20 := cell_of (HD.out.frame hB3.lo).bp 20; simp only [xcells] at c20)
      refine gen_w (BW X Y f w) (Code.wp _ _ _ _) _ hB3 ?_
      intro W8 hW8
    case' true =>
      rw [ht] at HP
      go_wp2_with (go_at_call 146; refine (HP.out _ HB2.out).mono ?_; rintro e w3 ⟨rfl, hB3⟩)
      have HB3 : Hid (BW X Y f w w3) := hB3
      have c14 := cell_of (HD.out.frame hB3.lo).bp 14
      have bx3 := cell_of hB3.bx
      simp only [xcells] at c14
      clear hB3 c22 HB2
      cases hz : testB st.T.depth f.d o.d
      all_goals
        have HQ : Hid (∀ w', Calls Tryz.prog 142 #[.int .u8 st.T.depth, .int .u16 f.d, .int .u16 o.d] w' fun e w'' => e = .returned (.bool (testB st.T.depth f.d o.d)) ∧ w'' = w') := fun w' => passes16_any st.T.depth f.d o.d w' HT.out.depth0 HT.out.depth1
        rw [hz] at HQ
        go_region_held (fun w2 => w2.cell? ⟨w.heap.size, 0, none⟩ = some (.int .i64 X) ∧ w2.cell? ⟨w.heap.size, 1, none⟩ = some (.int .i64 Y) ∧ w2.cell? ⟨w.heap.size, 5, none⟩ = some (.int .u16 f.d) ∧ w2.cell? ⟨p, 14, none⟩ = some (.int .u8 st.T.depth)) (go_keep)
          ((first
            | (go_at_call 97; refine (HZ.out _ (HB3.out.next (Below.refl _ _).drew)).mono ?_; rintro e w4 ⟨rfl, hB4, r0, r1, r5, r14⟩)
            | (go_at_call 142; refine (HQ.out _).mono ?_; rintro e w' ⟨rfl, rfl⟩)))
      case' false =>
        obtain ⟨rfl, rfl⟩ := HRd'.out ht hz
        have c21 := cell_of (HD.out.frame hB4.lo).bp 21
        simp only [xcells] at c21
        go_wp2_with fail
        refine gen_w (BW X Y f w) (Code.wp _ _ _ _) _ hB4 ?_
        intro W8 hW8
      case' true =>
        obtain ⟨rfl, rfl⟩ := HRp'.out ht hz
        go_wp2_with fail
        refine gen_w (BW X Y f w) (Code.wp _ _ _ _) _ hB4 ?_
        intro W8 hW8
  all_goals
    have HW8 : Hid (BW X Y f w W8) := hW8
    have bx8 := cell_of hW8.bx
    clear hW8
    go_region_held (fun w2 => w2.cell? ⟨w.heap.size, 0, none⟩ = some (.int .i64 X) ∧ w2.cell? ⟨w.heap.size, 1, none⟩ = some (.int .i64 Y)) (go_keep)
      ((first
        | (go_at_call 148; refine (HC.out _ _ (HW8.out.next (Below.refl _ _).drew)).mono ?_; rintro e w9 ⟨rfl, hB9, r0, r1⟩)
        | (go_at_call 147; refine (HF.out _ _ hB9 rfl).mono ?_; rintro e w10 ⟨rfl, hd10, q0, q1⟩)))
    all_goals
      go_wp2_with fail
      go_ret
      exact ⟨rfl, hd10.1, hd10.2⟩
end
end Go.Proofs.YthcikinkicpicaaGreatDoor
