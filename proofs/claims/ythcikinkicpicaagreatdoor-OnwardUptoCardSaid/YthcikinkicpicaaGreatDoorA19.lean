import Derived.Test.YthcikinkicpicaaGreatDoorA16

namespace Go.Proofs.YthcikinkicpicaaGreatDoor
open Go.RowKit
section
variable (base : Nat) (p cB zB sB A n : Nat) (s : ByteArray) (k : Int) (ways : Wy) (shV outV : Value) (st : St) (w : World)

theorem lt_of_heap' {w : World} {b : Nat} {o : Obj} (h : w.heap[b]? = some o) : b < w.heap.size := lt_of_heap h

/-- A pixel that is written: its stencil stays. -/
def wrDot (T : Tst) (f o : Dot) : Dot :=
  { r := if iand T.colours 1 = 0 then o.r else f.r, g := if iand T.colours 2 = 0 then o.g else f.g, b := if iand T.colours 4 = 0 then o.b else f.b, d := if T.write = 1 then f.d else o.d, s := o.s }

def dotAt (st : St) (X Y : Nat) : Dot := st.dots.getD ((Y : Int) * st.W + X).toNat dot0
def St.putDot (st : St) (X Y : Nat) (d : Dot) : St := { st with dots := st.dots.set ((Y : Int) * st.W + X).toNat d }

def WrPost (X Y : Nat) (f : Dot) (e : Ending) (w' : World) : Prop :=
  e = .returned (.tuple #[]) ∧ Dr base w' p cB zB sB A n s k ways shV outV { st.putDot X Y (wrDot st.T f (dotAt st X Y)) with qs := st.qs.map count } ∧ Kept (fun g => g = p ∨ g = cB ∨ g = zB) w w'

/-- The depth is written, if it is. -/
def zNew (T : Tst) (f : Dot) (z : Int) : Int := if T.write = 1 then f.d else z

/-- Behind the depth's store: the surfaces are open, the depth's turned. -/
structure AfterZ (X Y : Nat) (f : Dot) (fc : Nat → Nat → Col) (fz fs : Nat → Nat → Int) (w1 : World) : Prop where
  box : w1.heap[w.heap.size]? = some (.cells #[.int .i64 X, .int .i64 Y, .int .u8 f.r, .int .u8 f.g, .int .u8 f.b, .int .u16 f.d] 226 (0, 0))
  kp : Kept (· = zB) w w1
  z : ∃ cur, w1.heap[zB]? = some (.cells cur 201 (0, 0)) ∧ TilesU cur .u16 n (if st.T.write = 1 then upd fz (tNo A X Y) (iNo X Y) f.d else fz)

/-- Behind the read of the old colour: it lies at C, and is mixed there. -/
structure AfterC (X Y : Nat) (f : Dot) (fc : Nat → Nat → Col) (fz fs : Nat → Nat → Int) (C : Nat) (c : Col) (w1 : World) : Prop where
  z : AfterZ zB A n st w X Y f fc fz fs w1
  col : w1.heap[C]? = some (.cells #[.int .u8 c.r, .int .u8 c.g, .int .u8 c.b] 120 (0, 0))
  ne : C ≠ w.heap.size
  ge : w.heap.size ≤ C

theorem and8 (c : Int) (h0 : 0 ≤ c) (h7 : c ≤ 7) : bits .and .u8 c 1 = iand c 1 ∧ bits .and .u8 c 2 = iand c 2 ∧ bits .and .u8 c 4 = iand c 4 := by
  have hc : c = 0 ∨ c = 1 ∨ c = 2 ∨ c = 3 ∨ c = 4 ∨ c = 5 ∨ c = 6 ∨ c = 7 := by omega
  rcases hc with rfl | rfl | rfl | rfl | rfl | rfl | rfl | rfl <;> exact ⟨by decide, by decide, by decide⟩

/-- How far the colours are mixed. -/
def mixC (T : Tst) (f : Dot) (o : Col) (j : Nat) : Col :=
  ⟨if 0 < j ∧ iand T.colours 1 ≠ 0 then f.r else o.r, if 1 < j ∧ iand T.colours 2 ≠ 0 then f.g else o.g, if 2 < j ∧ iand T.colours 4 ≠ 0 then f.b else o.b⟩

theorem AfterZ.at_ {zB A n : Nat} {st : St} {w w1 w2 : World} {X Y : Nat} {f : Dot} {fc : Nat → Nat → Col} {fz fs : Nat → Nat → Int} (h : AfterZ zB A n st w X Y f fc fz fs w1) (_hz : zB < w.heap.size) (hb : Below w1.heap.size w1 w2) : AfterZ zB A n st w X Y f fc fz fs w2 := by
  obtain ⟨cur, h1, h2⟩ := h.z
  exact ⟨(hb.block _ (lt_of_heap h.box)).trans h.box, h.kp.below hb, cur, (hb.block _ (lt_of_heap h1)).trans h1, h2⟩

theorem AfterC.set_ {zB A n : Nat} {st : St} {w w1 : World} {X Y : Nat} {f : Dot} {fc : Nat → Nat → Col} {fz fs : Nat → Nat → Int} {C : Nat} {c c' : Col} (h : AfterC zB A n st w X Y f fc fz fs C c w1) (hz : zB < w.heap.size) (w2 : World) (hk : Kept (· = C) w1 w2)
    (hc : w2.heap[C]? = some (.cells #[.int .u8 c'.r, .int .u8 c'.g, .int .u8 c'.b] 120 (0, 0))) : AfterC zB A n st w X Y f fc fz fs C c' w2 := by
  obtain ⟨cur, h1, h2⟩ := h.z.z
  have hzC : zB ≠ C := fun e => by have := h.ge; omega
  have ge := h.ge
  refine ⟨⟨(hk.block _ (lt_of_heap h.z.box) (fun e => h.ne e.symm)).trans h.z.box, ⟨hk.os.trans h.z.kp.os, hk.tape.trans h.z.kp.tape, hk.output.trans h.z.kp.output, Nat.le_trans h.z.kp.size hk.size, fun i hi hs => (hk.block i (Nat.lt_of_lt_of_le hi h.z.kp.size) (fun e => ?_)).trans (h.z.kp.block i hi hs)⟩, cur, (hk.block _ (lt_of_heap h1) hzC).trans h1, h2⟩, hc, h.ne, h.ge⟩
  subst e
  omega

theorem upd_same (f : Nat → Nat → Int) (t i : Nat) : upd f t i (f t i) = f := by
  funext a b
  unfold upd
  split
  · rename_i h; rw [h.1, h.2]
  · rfl

theorem write_end {base p cB zB sB A n : Nat} {s : ByteArray} {k : Int} {ways : Wy} {shV outV : Value} {st : St} {w w1 w0 : World} {X Y : Nat} {f : Dot} {fc : Nat → Nat → Col} {fz fs : Nat → Nat → Int} {C : Nat} {K : Int}
    (h : Dr base w p cB zB sB A n s k ways shV outV st) (ho : Open p cB zB sB A n st w fc fz fs) (hok : st.Ok K) (hX : (X : Int) < st.W) (hY : (Y : Int) < st.H)
    (hA : AfterC zB A n st w X Y f fc fz fs C (mixC st.T f (fc (tNo A X Y) (iNo X Y)) 3) w1) (hb : Below w1.heap.size w1 w0) :
    Calls Tryz.prog 150 #[.pointer (some ⟨p, 8, none⟩), .int .i64 X, .int .i64 Y, (mixC st.T f (fc (tNo A X Y) (iNo X Y)) 3).v] w0 fun e w3 => e = .returned (.tuple #[]) ∧ Dr base w3 p cB zB sB A n s k ways shV outV (st.putDot X Y (wrDot st.T f (dotAt st X Y))) ∧ Kept (fun g => g = p ∨ g = cB ∨ g = zB) w w3 ∧ ∀ i, w.heap.size ≤ i → i < w1.heap.size → w3.heap[i]? = w1.heap[i]? := by
  obtain ⟨hn, hA6, hn36⟩ := in_tile h.sf.hA h.sf.hn hX hY hok.W1 hok.H1
  have hW1 := hok.W1
  have hH1 := hok.H1
  have lp := lt_of_heap h.bp
  obtain ⟨cuc, hgc, htc⟩ := ho.c.blk
  obtain ⟨cuz, hgz, htz⟩ := ho.z.blk
  obtain ⟨cus, hgs, hts⟩ := ho.s.blk
  have lc := lt_of_heap hgc
  have ls := lt_of_heap hgs
  have hcz : cB ≠ zB := ne_types hgc hgz (by decide)
  have hsz : sB ≠ zB := ne_types hgs hgz (by decide)
  have hsc : sB ≠ cB := ne_types hgs hgc (by decide)
  have hpz : p ≠ zB := ne_types h.bp hgz (by decide)
  have l1 := hA.z.kp.size
  have tr : ∀ i, i < w.heap.size → i ≠ zB → w0.heap[i]? = w.heap[i]? := fun i hi hn => (hb.block i (by omega)).trans (hA.z.kp.block i hi hn)
  have cl : ∀ o, w0.cell? ⟨p, o, none⟩ = w.cell? ⟨p, o, none⟩ := fun o => World.cell?_of_block (a := ⟨p, o, none⟩) (tr p lp hpz)
  have hsf : SurfC w0 p 8 cB A n 196 fc := ⟨(cl 8).trans ho.c.hA, (cl 9).trans ho.c.hT, cuc, (tr cB lc hcz).trans hgc, htc⟩
  refine (setC p 8 cB n A X Y fc _ w0 hsf (by omega) (by omega) hA6 hn hn36).mono ?_
  rintro e w3 ⟨rfl, ⟨cur', hc', ht'⟩, hk⟩
  obtain ⟨cz, hz1, hz2⟩ := hA.z.z
  have lz1 := lt_of_heap hz1
  have hkk : Kept (fun g => g = cB ∨ g = zB) w w3 := ((hA.z.kp.below hb).mono (fun _ e => .inr e)).trans (hk.mono (fun _ e => .inl e))
  suffices hfin : _ ∧ Low base w w3 from ⟨rfl, hfin.1, hkk.mono (fun _ => .inr), fun i g l => (hk.block i (by have := hb.size; omega) (fun e => by omega)).trans (hb.block i l)⟩
  have hpx := ho.pix.put (by have := hok.W0; omega) h.sf.hA hok.len hX hY (mixC st.T f (fc (tNo A X Y) (iNo X Y)) 3) (if st.T.write = 1 then f.d else fz (tNo A X Y) (iNo X Y)) (fs (tNo A X Y) (iNo X Y))
  rw [upd_same fs] at hpx
  have hdot : wrDot st.T f (dotAt st X Y) = { r := (mixC st.T f (fc (tNo A X Y) (iNo X Y)) 3).r, g := (mixC st.T f (fc (tNo A X Y) (iNo X Y)) 3).g, b := (mixC st.T f (fc (tNo A X Y) (iNo X Y)) 3).b, d := if st.T.write = 1 then f.d else fz (tNo A X Y) (iNo X Y), s := fs (tNo A X Y) (iNo X Y) } := by
    unfold wrDot dotAt mixC
    rw [ho.pix X Y hX hY]
    simp only [Nat.reduceLT, true_and, ne_eq, ite_not]
  unfold St.putDot
  rw [hdot]
  refine h.surf hkk (fun g e => e.elim .inl (fun e => .inr (.inl e))) _ ⟨h.sf.hA, h.sf.hn, _, _, _, hpx, ⟨cur', hc', ht'⟩, ⟨cz, ?_, ?_⟩, cus, ?_, hts⟩
  · exact (hk.block _ (Nat.lt_of_lt_of_le lz1 hb.size) (fun e => hcz e.symm)).trans ((hb.block _ lz1).trans hz1)
  · split at hz2
    · rename_i e; rw [if_pos e]; exact hz2
    · rename_i e; rw [if_neg e, upd_same]; exact hz2
  · exact (hk.block _ (by have := hb.size; omega) hsc).trans ((tr sB ls hsz).trans hgs)

set_option maxRecDepth 100000 in
set_option maxHeartbeats 1000000 in
theorem write_in (K : Int) (h : Dr base w p cB zB sB A n s k ways shV outV st) (hok : st.Ok K) (hK : K ≤ 1000000000000000) (X Y : Nat) (hX : (X : Int) < st.W) (hY : (Y : Int) < st.H) (f : Dot) :
    Calls Tryz.prog 132 #[.pointer (some ⟨p, 0, none⟩), smpV X Y f.r f.g f.b f.d] w (WrPost base p cB zB sB A n s k ways shV outV st w X Y f) := by
  obtain ⟨fc, fz, fs, ho⟩ := h.open_
  obtain ⟨hn, hA6, hn36⟩ := in_tile h.sf.hA h.sf.hn hX hY hok.W1 hok.H1
  have hW1 := hok.W1
  have hH1 := hok.H1
  have lp := lt_of_heap h.bp
  have cp0 := cell_of h.bp
  simp only [xcells] at cp0
  have hb1 := (below1 (w := w) (o1 := .cells #[.int .i64 X, .int .i64 Y, .int .u8 f.r, .int .u8 f.g, .int .u8 f.b, .int .u16 f.d] 226))
  have HD : Hid (Dr base w p cB zB sB A n s k ways shV outV st) := h
  have HO : Hid (Open p cB zB sB A n st w fc fz fs) := ho
  obtain ⟨cuz, hgz, htz⟩ := ho.z.blk
  have lz := lt_of_heap hgz
  have hzp : zB ≠ p := ne_types hgz h.bp (by decide)
  -- the first part
  have HZ : Hid (∀ w0, Below w.heap.size w w0 → w0.heap[w.heap.size]? = some (.cells #[.int .i64 X, .int .i64 Y, .int .u8 f.r, .int .u8 f.g, .int .u8 f.b, .int .u16 f.d] 226 (0, 0)) → st.T.write = 1 →
      Calls Tryz.prog 149 #[.pointer (some ⟨p, 10, none⟩), .int .i64 X, .int .i64 Y, .int .u16 f.d] w0 fun e w1 => e = .returned (.tuple #[]) ∧ AfterZ zB A n st w X Y f fc fz fs w1 ∧
        w1.cell? ⟨w.heap.size, 0, none⟩ = some (.int .i64 X) ∧ w1.cell? ⟨w.heap.size, 1, none⟩ = some (.int .i64 Y) ∧ w1.cell? ⟨w.heap.size, 5, none⟩ = some (.int .u16 f.d)) := by
    intro w0 hb0 hbx hwr
    have hs0 : SurfU w0 p 10 zB A n .u16 201 fz := ⟨(hb0.cell (p := ⟨p, 10, none⟩) lp).trans HO.out.z.hA, (hb0.cell (p := ⟨p, 11, none⟩) lp).trans HO.out.z.hT, cuz, (hb0.block _ lz).trans hgz, htz⟩
    refine (set16 p 10 zB n A X Y fz f.d w0 hs0 (by omega) (by omega) hA6 hn hn36).mono ?_
    rintro e w1 ⟨rfl, ⟨cur', hc', ht'⟩, hk⟩
    have hbx1 := (hk.block _ (lt_of_heap hbx) (by omega)).trans hbx
    refine ⟨rfl, ⟨hbx1, ((Kept.refl _ w).below hb0).trans hk, cur', hc', by rw [if_pos hwr]; exact ht'⟩, cell_of hbx1 0, cell_of hbx1 1, cell_of hbx1 5⟩
  have HAT : Hid (∀ w1 w0, AfterZ zB A n st w X Y f fc fz fs w1 → Below w1.heap.size w1 w0 → Calls Tryz.prog 95 #[.pointer (some ⟨p, 8, none⟩), .int .i64 X, .int .i64 Y] w0 fun e w2 => e = .returned (fc (tNo A X Y) (iNo X Y)).v ∧ Below w1.heap.size w1 w2 ∧
      (w2.cell? ⟨w.heap.size, 0, none⟩ = some (.int .i64 X) ∧ w2.cell? ⟨w.heap.size, 1, none⟩ = some (.int .i64 Y)) ∧ ∀ ob, w0.heap[w1.heap.size]? = some ob → w2.heap[w1.heap.size]? = some ob) := by
    intro w1 w0 hz h0
    obtain ⟨cuc, hgc, htc⟩ := HO.out.c.blk
    have lc := lt_of_heap hgc
    have hcz : cB ≠ zB := ne_types hgc hgz (by decide)
    have l1 := hz.kp.size
    have tr : ∀ i, i < w.heap.size → i ≠ zB → w0.heap[i]? = w.heap[i]? := fun i hi hn => (h0.block i (by omega)).trans (hz.kp.block i hi hn)
    have cl : ∀ o, w0.cell? ⟨p, o, none⟩ = w.cell? ⟨p, o, none⟩ := fun o => World.cell?_of_block (a := ⟨p, o, none⟩) (tr p lp (fun e => hzp e.symm))
    have hsc : SurfC w0 p 8 cB A n 196 fc := ⟨(cl 8).trans HO.out.c.hA, (cl 9).trans HO.out.c.hT, cuc, (tr cB lc hcz).trans hgc, htc⟩
    refine (atC p 8 cB n A X Y fc w0 hsc (by omega) (by omega) hA6 hn hn36).mono ?_
    rintro e w2 ⟨rfl, hb2⟩
    have hbx := (hb2.block _ (Nat.lt_of_lt_of_le (lt_of_heap hz.box) h0.size)).trans ((h0.block _ (lt_of_heap hz.box)).trans hz.box)
    exact ⟨rfl, h0.trans (hb2.mono h0.size), ⟨cell_of hbx 0, cell_of hbx 1⟩, fun ob hob => (hb2.block _ (lt_of_heap' hob)).trans hob⟩
  cases hwr : decide (st.T.write = 1)
  case' true =>
    rw [hwr] at cp0
    have hw1 : st.T.write = 1 := by simpa using hwr
    go_enter Tryz.func132, Tryz.ntmps132
    go_wp2_with fail
    go_region_held (fun w2 => w2.cell? ⟨w.heap.size, 0, none⟩ = some (.int .i64 X) ∧ w2.cell? ⟨w.heap.size, 1, none⟩ = some (.int .i64 Y) ∧ w2.cell? ⟨w.heap.size, 5, none⟩ = some (.int .u16 f.d)) (go_keep)
      ((go_at_call 149; refine (HZ.out _ (below1.drew) (heap_alloc_new _ _) hw1).mono ?_; rintro e w1 ⟨rfl, hAZ, r0, r1, r5⟩))
    clear r0 r1 r5 hw1
    go_wp2_with fail
  case' false =>
    rw [hwr] at cp0
    have hw1 : ¬ st.T.write = 1 := by simpa using hwr
    have HAZ : Hid (AfterZ zB A n st w X Y f fc fz fs (w.alloc (.cells #[.int .i64 X, .int .i64 Y, .int .u8 f.r, .int .u8 f.g, .int .u8 f.b, .int .u16 f.d] 226))) :=
      ⟨heap_alloc_new _ _, (Kept.refl _ w).alloc _, cuz, (heap_alloc_old lz _).trans hgz, by rw [if_neg hw1]; exact htz⟩
    go_enter Tryz.func132, Tryz.ntmps132
    go_wp2_with fail
    refine gen_w (AfterZ zB A n st w X Y f fc fz fs) (Code.wp _ _ _ _) _ HAZ.out ?_
    intro w1 hAZ
    clear HAZ hw1
  all_goals
    have bx := cell_of hAZ.box
    have HA : Hid (AfterZ zB A n st w X Y f fc fz fs w1) := hAZ
    have l1 := lt_of_heap hAZ.box
    have ne1 : w.heap.size ≠ w1.heap.size := by omega
    have ne1' : w1.heap.size ≠ w.heap.size := by omega
    have c24w : w.cell? ⟨p, 24, none⟩ = some (.int .u8 st.T.colours) := cp0 24
    clear hAZ cp0 h ho
    go_region_held (fun w2 => w2.cell? ⟨w.heap.size, 0, none⟩ = some (.int .i64 X) ∧ w2.cell? ⟨w.heap.size, 1, none⟩ = some (.int .i64 Y)) (go_keep)
      ((go_at_call 95; refine (HAT.out w1 _ HA.out (by first | exact (Below.refl _ _).drew | exact ((Below.refl _ _).drew.alloc (Nat.le_refl _) _))).mono ?_; rintro e w2 ⟨rfl, hb2, ⟨r0, r1⟩, hob⟩; have ne2 : w.heap.size ≠ w2.heap.size := (by have := hb2.size; omega); have ne2' : w2.heap.size ≠ w.heap.size := (by have := hb2.size; omega); (try (have hob' := hob _ (heap_alloc_new _ _); have cz := cell_of hob'; have fz2 := frozen_of hob'))))
  all_goals
    have l2 := hb2.size
    generalize hold : fc (tNo A X Y) (iNo X Y) = old

    first
      | (have hob2 := hob'
         refine gen_w (AfterC zB A n st w X Y f fc fz fs w1.heap.size old) (Exit.then _ _ Exit.normal _) _ ?_ ?_
         · refine AfterC.set_ (c := ⟨0, 0, 0⟩) ⟨HA.out.at_ lz hb2, hob2, ne1', by omega⟩ lz _ (((kept_set1 _ 0 _).trans (kept_set1 _ 1 _)).trans (kept_set1 _ 2 _)) ?_
           exact (heap_set_same (heap_set_same (heap_set_same hob2 0 _) 1 _) 2 _).trans rfl
         intro W hW
         generalize w1.heap.size = C at hW ⊢)
      | (refine gen_w (AfterC zB A n st w X Y f fc fz fs w2.heap.size old) (Exit.then _ _ Exit.normal _) _ ?_ ?_
         · exact ⟨(HA.out.at_ lz hb2).at_ lz ((Below.refl _ _).alloc (Nat.le_refl _) _), heap_alloc_new _ _, ne2', by omega⟩
         intro W hW
         generalize w2.heap.size = C at hW ⊢)
  all_goals
    have HW : Hid (AfterC zB A n st w X Y f fc fz fs C old W) := hW
    have hc8 := and8 st.T.colours hok.T.colours0 hok.T.colours1
    clear hW hgz htz hb1 bx HA
    go_wp2_with fail
    go_loopg [32] 3 (fun m i wr => ∃ j : Nat, j + m = 3 ∧ i = .int .i64 j ∧ AfterC zB A n st w X Y f fc fz fs C (mixC st.T f old j) wr)
    case atStart => exact ⟨0, rfl, rfl, HW.out⟩
    case round =>
      obtain ⟨j, hj, rfl, hA⟩ := hrel
      have c24 : wr.cell? ⟨p, 24, none⟩ = some (.int .u8 st.T.colours) := (World.cell?_of_block (a := ⟨p, 24, none⟩) (hA.z.kp.block p lp (fun e => hzp e.symm))).trans c24w
      have bx := cell_of hA.z.box
      have cc := cell_of hA.col
      have fcc := frozen_of hA.col
      have HA : Hid (AfterC zB A n st w X Y f fc fz fs C (mixC st.T f old j) wr) := hA
      have neC := hA.ne
      clear hA HW c24w
      have hj' : j = 0 ∨ j = 1 ∨ j = 2 ∨ j = 3 := by omega
      rcases hj' with rfl | rfl | rfl | rfl
      · obtain rfl : gk = 3 := by omega
        by_cases hb : iand st.T.colours 1 = 0
        · have h8 : bits .and .u8 st.T.colours 1 = 0 := hc8.1.trans hb
          clear hc8
          have hm : mixC st.T f old 1 = mixC st.T f old 0 := by unfold mixC; simp [hb]
          go_wp2_with fail
          go_quiet (fail)
          go_wp2_with fail
          go_roundg 2
          case rel => exact ⟨1, by omega, by go_num, by rw [hm]; exact HA.out.set_ lz _ ((Kept.refl _ _).drewN _) HA.out.col⟩
          case measure => omega
        · have h8 : bits .and .u8 st.T.colours 1 ≠ 0 := fun e => hb (hc8.1.symm.trans e)
          clear hc8
          go_wp2_with fail
          go_quiet (fail)
          go_wp2_with fail
          go_roundg 2
          case rel =>
            refine ⟨1, by omega, by go_num, HA.out.set_ lz _ (((Kept.refl (· = C) wr).drewN _).set (.inl rfl) 0 _) ?_⟩
            refine (heap_set_same (w := wr.drewN _) HA.out.col 0 (.int .u8 f.r)).trans ?_
            simp [mixC, hb]
          case measure => omega
      · obtain rfl : gk = 2 := by omega
        by_cases hb : iand st.T.colours 2 = 0
        · have h8 : bits .and .u8 st.T.colours 2 = 0 := hc8.2.1.trans hb
          clear hc8
          have hm : mixC st.T f old 2 = mixC st.T f old 1 := by unfold mixC; simp [hb]
          go_wp2_with fail
          go_quiet (fail)
          go_wp2_with fail
          go_roundg 1
          case rel => exact ⟨2, by omega, by go_num, by rw [hm]; exact HA.out.set_ lz _ ((Kept.refl _ _).drewN _) HA.out.col⟩
          case measure => omega
        · have h8 : bits .and .u8 st.T.colours 2 ≠ 0 := fun e => hb (hc8.2.1.symm.trans e)
          clear hc8
          go_wp2_with fail
          go_quiet (fail)
          go_wp2_with fail
          go_roundg 1
          case rel =>
            refine ⟨2, by omega, by go_num, HA.out.set_ lz _ (((Kept.refl (· = C) wr).drewN _).set (.inl rfl) 1 _) ?_⟩
            refine (heap_set_same (w := wr.drewN _) HA.out.col 1 (.int .u8 f.g)).trans ?_
            simp [mixC, hb]
          case measure => omega
      · obtain rfl : gk = 1 := by omega
        by_cases hb : iand st.T.colours 4 = 0
        · have h8 : bits .and .u8 st.T.colours 4 = 0 := hc8.2.2.trans hb
          clear hc8
          have hm : mixC st.T f old 3 = mixC st.T f old 2 := by unfold mixC; simp [hb]
          go_wp2_with fail
          go_quiet (fail)
          go_wp2_with fail
          go_roundg 0
          case rel => exact ⟨3, by omega, by go_num, by rw [hm]; exact HA.out.set_ lz _ ((Kept.refl _ _).drewN _) HA.out.col⟩
          case measure => omega
        · have h8 : bits .and .u8 st.T.colours 4 ≠ 0 := fun e => hb (hc8.2.2.symm.trans e)
          clear hc8
          go_wp2_with fail
          go_quiet (fail)
          go_wp2_with fail
          go_roundg 0
          case rel =>
            refine ⟨3, by omega, by go_num, HA.out.set_ lz _ (((Kept.refl (· = C) wr).drewN _).set (.inl rfl) 2 _) ?_⟩
            refine (heap_set_same (w := wr.drewN _) HA.out.col 2 (.int .u8 f.b)).trans ?_
            simp [mixC, hb]
          case measure => omega
      · obtain rfl : gk = 0 := by omega
        have HE : Hid (∀ w0, Below wr.heap.size wr w0 → Calls Tryz.prog 150 #[.pointer (some ⟨p, 8, none⟩), .int .i64 X, .int .i64 Y, (mixC st.T f old 3).v] w0 fun e w3 => e = .returned (.tuple #[]) ∧ Dr base w3 p cB zB sB A n s k ways shV outV (st.putDot X Y (wrDot st.T f (dotAt st X Y))) ∧ Kept (fun g => g = p ∨ g = cB ∨ g = zB) w w3 ∧ w3.cell? ⟨w.heap.size, 0, none⟩ = some (.int .i64 X) ∧ w3.cell? ⟨w.heap.size, 1, none⟩ = some (.int .i64 Y) ∧ w3.cell? ⟨C, 0, none⟩ = some (.int .u8 (mixC st.T f old 3).r) ∧ w3.cell? ⟨C, 1, none⟩ = some (.int .u8 (mixC st.T f old 3).g) ∧ w3.cell? ⟨C, 2, none⟩ = some (.int .u8 (mixC st.T f old 3).b)) := by
          intro w0 hb0
          have hh := HA.out
          rw [← hold] at hh ⊢
          refine (write_end HD.out HO.out hok hX hY hh hb0).mono ?_
          rintro e w3 ⟨rfl, h1, h2, h3⟩
          have b1 := cell_of ((h3 _ (Nat.le_refl _) (lt_of_heap hh.z.box)).trans hh.z.box)
          have b2 := cell_of ((h3 _ hh.ge (lt_of_heap hh.col)).trans hh.col)
          exact ⟨rfl, h1, h2, b1 0, b1 1, b2 0, b2 1, b2 2⟩
        have HQ : Hid (st.qs.length = 4 ∧ ∀ q ∈ st.qs, 0 ≤ q.n ∧ q.n ≤ 1000000000000000) := ⟨hok.qs, fun q hq => ⟨(hok.qn q hq).1, by have := (hok.qn q hq).2; omega⟩⟩
        clear hc8 HA
        generalize mixC st.T f old 3 = m3 at *
        go_wp2_with fail
        go_region_held (fun w2 => w2.cell? ⟨w.heap.size, 0, none⟩ = some (.int .i64 X) ∧ w2.cell? ⟨w.heap.size, 1, none⟩ = some (.int .i64 Y) ∧ w2.cell? ⟨C, 0, none⟩ = some (.int .u8 m3.r) ∧ w2.cell? ⟨C, 1, none⟩ = some (.int .u8 m3.g) ∧ w2.cell? ⟨C, 2, none⟩ = some (.int .u8 m3.b)) (go_keep)
          ((go_at_call 150; refine (HE.out _ (Below.refl _ _).drew).mono ?_; rintro e w3 ⟨rfl, hd3, hb3, r0, r1, r2, r3, r4⟩))
        all_goals
          have HD3 : Hid (Dr base w3 p cB zB sB A n s k ways shV outV (st.putDot X Y (wrDot st.T f (dotAt st X Y)))) := hd3
          clear hd3
          go_wp2_with (go_at_call 151; refine (countOne_in base p cB zB sB A n s k ways shV outV (st.putDot X Y (wrDot st.T f (dotAt st X Y))) w3 HD3.out HQ.out.1 HQ.out.2).mono ?_; rintro e w4 ⟨rfl, hd4, hk4⟩)
          go_end0
          exact ⟨rfl, hd4, hb3.trans (hk4.mono (fun _ => .inl))⟩
end
end Go.Proofs.YthcikinkicpicaaGreatDoor
