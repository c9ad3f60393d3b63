import Derived.Test.YthcikinkicpicaaGreatDoorA20
import Derived.Test.YthcikinkicpicaaGreatDoorA18
import Derived.Test.YthcikinkicpicaaGreatDoorA23

namespace Go.Proofs.YthcikinkicpicaaGreatDoor
open Go.RowKit
section
variable {base : Nat} {p cB zB sB A n : Nat} {s : ByteArray} {k : Int} {ways : Wy} {shV outV : Value} {st : St} {w : World}

theorem shade_any {K : Int} {W : World} (h : Dr base W p cB zB sB A n s k ways shV outV st) (hok : st.Ok K) (S : Nat) (d : Dot) (x y : Int) (hS : W.heap[S]? = some (.cells #[.int .i64 x, .int .i64 y, .int .u8 d.r, .int .u8 d.g, .int .u8 d.b, .int .u16 d.d] 226 (0, 0)))
    (hd : d.Ok) (x0 : 0 ≤ x) (x1 : x < 24) (y0 : 0 ≤ y) (y1 : y < 24) :
    Calls Tryz.prog 145 #[.pointer (some ⟨S, 0, none⟩), shV] W (ShPost S 0 x y W (shRun st.sh [d.r, d.g, d.b, x, y, d.d, 0, 0] d.d 0)) := by
  rcases h.sh with ⟨hbad, ⟨rfl, hnil⟩ | ⟨g, m, cur, rfl, hl, hg, hc⟩⟩
  · rw [hnil]; exact shade_nil S d x y W hS hd x0 x1 y0 y1
  · exact shade_in S g m st.sh d x y W hS ⟨hl, cur, hg, hc⟩ (by have := hok.shl; omega) hok.sh hbad hd x0 x1 y0 y1

/-- The pixel's shader says whether it goes on. -/
theorem dot_none {d : Dot} {x y kk : Int} (h : shRun st.sh [d.r, d.g, d.b, x, y, d.d, 0, 0] d.d 0 = (kk, none)) : st.dot d x y = { st with work := st.work + kk } := by
  have h2 := shRun_add st.sh.length st.sh [d.r, d.g, d.b, x, y, d.d, 0, 0] d.d 0 st.work (Nat.le_refl _)
  rw [h, Int.zero_add] at h2
  unfold St.dot shaded
  rw [h2]
  simp only [Int.add_comm]
theorem dot_some {d : Dot} {X Y : Nat} {kk z : Int} {r : List Int} (h : shRun st.sh [d.r, d.g, d.b, X, Y, d.d, 0, 0] d.d 0 = (kk, some (r, z))) :
    st.dot d X Y = St.tested { st with work := st.work + kk } X Y { r := within (r.getD 0 0) 0 255, g := within (r.getD 1 0) 0 255, b := within (r.getD 2 0) 0 255, d := z, s := d.s } := by
  have h2 := shRun_add st.sh.length st.sh [d.r, d.g, d.b, (X : Int), (Y : Int), d.d, 0, 0] d.d 0 st.work (Nat.le_refl _)
  rw [h, Int.zero_add] at h2
  unfold St.dot shaded St.tested dotAt
  rw [h2]
  simp only [Int.add_comm kk]

theorem work_ok {K : Int} {st : St} (h : st.Ok K) {kk : Int} (h0 : 0 ≤ kk) (h1 : kk ≤ 16) : St.Ok (K + 16) { st with work := st.work + kk } := by
  have a := h.work0
  have b := h.work1
  exact { Ok_mono h (show K ≤ K + 16 by omega) with work0 := by show 0 ≤ st.work + kk; omega, work1 := by show st.work + kk ≤ K + 16; omega }

theorem stn_ok {K : Int} {st : St} (h : st.Ok K) (X Y : Nat) (f : Dot) : (st.stn X Y f).Ok K := by
  have hd := dotAt_ok h X Y
  have m := made_bd st.T (kdOf st.T f (dotAt st X Y)) (dotAt st X Y).s h.T.writes0 h.T.writes1
  refine ⟨h.W0, h.W1, h.H0, h.H1, ?_, ?_, h.T, h.wx0, h.wy0, h.ww0, h.wh0, h.wx1, h.wy1, h.sh, h.shl, h.qs, h.qn, h.work0, h.work1⟩
  · show ((st.dots.set _ _).length : Int) = _
    rw [List.length_set]; exact h.len
  · intro o ho
    rcases mem_set ho with h1 | h1
    · exact h.dots o h1
    · rw [h1]
      exact ⟨hd.r0, hd.r1, hd.g0, hd.g1, hd.b0, hd.b1, hd.d0, hd.d1, m.1, m.2⟩

abbrev smpB (X Y : Nat) (d : Dot) : Obj := .cells #[.int .i64 X, .int .i64 Y, .int .u8 d.r, .int .u8 d.g, .int .u8 d.b, .int .u16 d.d] 226 (0, 0)

/-- A shader has run at a sample: the steps are counted. -/
def ShdPost (base p cB zB sB A n : Nat) (s : ByteArray) (k : Int) (ways : Wy) (shV outV : Value) (st : St) (S X Y : Nat) (d : Dot) (w : World) (r : Int × Option (List Int × Int)) (e : Ending) (w' : World) : Prop :=
  e = .returned (.bool r.2.isSome) ∧ Dr base w' p cB zB sB A n s k ways shV outV { st with work := st.work + r.1 } ∧ Kept (fun g => g = p ∨ g = S) w w' ∧
    ∀ rr z, r.2 = some (rr, z) → w'.heap[S]? = some (smpB X Y { r := within (rr.getD 0 0) 0 255, g := within (rr.getD 1 0) 0 255, b := within (rr.getD 2 0) 0 255, d := z, s := d.s })

set_option maxRecDepth 100000 in
set_option maxHeartbeats 1000000 in
theorem shadeSample_in {K : Int} (h : Dr base w p cB zB sB A n s k ways shV outV st) (hok : st.Ok K) (hK : K ≤ 1000000000000000) (S X Y : Nat) (d : Dot) (hS : w.heap[S]? = some (smpB X Y d)) (hd : d.Ok) (x1 : X < 24) (y1 : Y < 24) :
    Calls Tryz.prog 130 #[.pointer (some ⟨p, 0, none⟩), .pointer (some ⟨S, 0, none⟩)] w (ShdPost base p cB zB sB A n s k ways shV outV st S X Y d w (shRun st.sh [d.r, d.g, d.b, X, Y, d.d, 0, 0] d.d 0)) := by
  have hwk := shRun_work st.sh.length st.sh [d.r, d.g, d.b, (X : Int), (Y : Int), d.d, 0, 0] d.d 0 (Nat.le_refl _)
  have hshl := hok.shl
  have wk0 := hok.work0
  have wk1 := hok.work1
  have hsh := shade_any h hok S d X Y hS hd (by omega) (by omega) (by omega) (by omega)
  obtain ⟨kk, res, hfin⟩ : ∃ kk res, shRun st.sh [d.r, d.g, d.b, (X : Int), (Y : Int), d.d, 0, 0] d.d 0 = (kk, res) := ⟨_, _, rfl⟩
  rw [hfin] at hsh hwk ⊢
  have k0 : 0 ≤ kk := hwk.1
  have k1 : kk ≤ 16 := by have := hwk.2; simp only at this; omega
  have hwr : IntKind.i64.wrap (st.work + kk) = st.work + kk := k64 (by omega)
  have hpS : p ≠ S := ne_types h.bp hS (by decide)
  have c25 : w.cell? ⟨p, 25, none⟩ = some shV := cell_of h.bp 25
  have HP : Hid (∀ w2, Kept (· = S) w w2 → w2.cell? ⟨p, 43, none⟩ = some (.int .i64 st.work) ∧ w2.frozen? ⟨p, 43, none⟩ = false ∧ Dr base (w2.setCell ⟨p, 43, none⟩ (.int .i64 (st.work + kk))) p cB zB sB A n s k ways shV outV { st with work := st.work + kk } ∧ Kept (fun g => g = p ∨ g = S) w (w2.setCell ⟨p, 43, none⟩ (.int .i64 (st.work + kk)))) := by
    intro w2 hk2
    have hb := (hk2.block p (lt_of_heap h.bp) hpS).trans h.bp
    obtain ⟨fc, fz, fs, _, ⟨c1, b1, t1⟩, ⟨c2, b2, t2⟩, c3, b3, t3⟩ := h.sf.ex
    have hd2 : Dr base w2 p cB zB sB A n s k ways shV outV st := ⟨hb, h.sf.kept hk2 (ne_types b1 hS (by decide)) (ne_types b2 hS (by decide)) (ne_types b3 hS (by decide)) rfl rfl rfl, h.sh.kept hk2 (fun g cur hg => ne_types hg hS (by decide)), owns_kept h.out hk2 (fun g cur hg => ne_types hg hS (by decide)), h.b0, h.b1, h.b2, h.b3, (hk2.block _ (lt_of_heap h.mp) (ne_map h.mp hS)).trans h.mp, h.b4⟩
    exact ⟨cell_of hb 43, frozen_of hb 43, hd2.put ((heap_set_same hd2.bp 43 _).trans rfl) (kept_set1 p 43 _) rfl rfl rfl rfl rfl, (hk2.mono (fun _ e => .inr e)).trans ((kept_set1 p 43 _).mono (fun _ => .inl))⟩
  cases res with
  | none =>
    have HS : Hid (Calls Tryz.prog 145 #[.pointer (some ⟨S, 0, none⟩), shV] w (ShPost S 0 X Y w (kk, none))) := hsh
    unfold ShdPost
    clear hsh hfin hwk h hok hS hd
    go_enter Tryz.func130, Tryz.ntmps130
    go_wp2_with (go_at_call 145; refine HS.out.mono ?_; rintro e w2 ⟨hk2, rfl⟩; obtain ⟨c43, f43, hd2, hk3⟩ := HP.out w2 hk2; have HD2 : Hid (Dr base (w2.setCell ⟨p, 43, none⟩ (.int .i64 (st.work + kk))) p cB zB sB A n s k ways shV outV { st with work := st.work + kk }) := hd2; have HK3 : Hid (Kept (fun g => g = p ∨ g = S) w (w2.setCell ⟨p, 43, none⟩ (.int .i64 (st.work + kk)))) := hk3; clear hd2 hk3)
    go_ret
    exact ⟨rfl, HD2.out, HK3.out, fun rr z h => by cases h⟩
  | some rz =>
    obtain ⟨rr, z⟩ := rz
    have HS : Hid (Calls Tryz.prog 145 #[.pointer (some ⟨S, 0, none⟩), shV] w (ShPost S 0 X Y w (kk, some (rr, z)))) := hsh
    have HSS : Hid (∀ w2 : World, ∀ (f : Dot), w2.heap[S]? = some (smpB X Y f) → (w2.setCell ⟨p, 43, none⟩ (.int .i64 (st.work + kk))).heap[S]? = some (smpB X Y f)) := fun w2 f h2 => (heap_set_ne hpS.symm _ _).trans h2
    unfold ShdPost
    clear hsh hfin hwk h hok hS hd
    go_enter Tryz.func130, Tryz.ntmps130
    go_wp2_with (go_at_call 145; refine HS.out.mono ?_; rintro e w2 ⟨hk2, rfl, hs2⟩; obtain ⟨c43, f43, hd2, hk3⟩ := HP.out w2 hk2; have HD2 : Hid (Dr base (w2.setCell ⟨p, 43, none⟩ (.int .i64 (st.work + kk))) p cB zB sB A n s k ways shV outV { st with work := st.work + kk }) := hd2; have HK3 : Hid (Kept (fun g => g = p ∨ g = S) w (w2.setCell ⟨p, 43, none⟩ (.int .i64 (st.work + kk)))) := hk3; have HS2 := HSS.out w2 { r := within (rr.getD 0 0) 0 255, g := within (rr.getD 1 0) 0 255, b := within (rr.getD 2 0) 0 255, d := z, s := d.s } hs2; clear hd2 hk3 hs2)
    go_ret
    refine ⟨rfl, HD2.out, HK3.out, fun rr' z' h => ?_⟩
    simp only [Option.some.injEq, Prod.mk.injEq] at h
    obtain ⟨rfl, rfl⟩ := h
    exact HS2
end
end Go.Proofs.YthcikinkicpicaaGreatDoor

namespace Go.Proofs.YthcikinkicpicaaGreatDoor
open Go.RowKit
section
variable {base : Nat} {p cB zB sB A n : Nat} {s : ByteArray} {k : Int} {ways : Wy} {shV outV : Value} {w : World}

abbrev PS (p cB zB sB : Nat) (g : Nat) : Prop := g = p ∨ g = cB ∨ g = zB ∨ g = sB

theorem Kept.new {S' S : Nat → Prop} {w W w2 : World} (hb : Below w.heap.size w W) (hk : Kept S' W w2) (h : ∀ i, i < w.heap.size → S' i → S i) : Kept S w w2 :=
  ⟨hk.os.trans hb.os, hk.tape.trans hb.tape, hk.output.trans hb.output, Nat.le_trans hb.size hk.size, fun i hi hn => (hk.block i (Nat.lt_of_lt_of_le hi hb.size) (fun h' => hn (h i hi h'))).trans (hb.block i hi)⟩

/-- What is asked of drawPixel. -/
def PixAll (pl : Prop) (base p cB zB sB A n : Nat) (s : ByteArray) (k : Int) (ways : Wy) (shV outV : Value) (q : Nat) (t : Tr) : Prop :=
  ∀ (st : St) (K : Int) (X Y : Nat) (w : World), Dr base w p cB zB sB A n s k ways shV outV st → st.Ok K → K + 16 ≤ 1000000000000000 → (X : Int) < st.W → (Y : Int) < st.H → w.heap[q]? = some (.cells (trT t) 165 (0, 0)) →
    Calls Tryz.prog 103 #[.pointer (some ⟨p, 0, none⟩), .pointer (some ⟨q, 0, none⟩), .int .i64 X, .int .i64 Y] w fun e w' =>
      e = .returned (.tuple #[]) ∧ (∃ st', Near pl (t.px st (X, Y)) st' ∧ st.work ≤ st'.work ∧ Dr base w' p cB zB sB A n s k ways shV outV st') ∧ Kept (PS p cB zB sB) w w'

/-- The sample lies at S. -/
structure PxI (base p cB zB sB A n : Nat) (s : ByteArray) (k : Int) (ways : Wy) (shV outV : Value) (S X Y : Nat) (w : World) (st : St) (d : Dot) (W : World) : Prop where
  dr : Dr base W p cB zB sB A n s k ways shV outV st
  lo : Kept (PS p cB zB sB) w W
  bs : W.heap[S]? = some (smpB X Y d)

theorem PxI.drew {S X Y : Nat} {st : St} {d : Dot} {W W' : World} (h : PxI base p cB zB sB A n s k ways shV outV S X Y w st d W) (hb : Below W.heap.size W W') : PxI base p cB zB sB A n s k ways shV outV S X Y w st d W' :=
  ⟨h.dr.frame hb, h.lo.below hb, (hb.block _ (lt_of_heap h.bs)).trans h.bs⟩

theorem near_stn {pl : Prop} (hpl : ¬ pl) {st : St} {X Y : Nat} {d f : Dot} {kk : Int} (k0 : 0 ≤ kk) (hf : f.d = d.d) (hno : tPass st.T d (dotAt st X Y) = false) :
    Near pl (St.tested { st with work := st.work + kk } X Y f) (st.stn X Y d) := by
  refine near_idle hpl (m := kk) k0 ?_
  rw [stn_fail hf hno]
  rfl
theorem stn_pass_w {K : Int} {st : St} {X Y : Nat} {f g : Dot} (hok : st.Ok K) (hX : (X : Int) < st.W) (hY : (Y : Int) < st.H) (hd : g.d = f.d) (h : tPass st.T f (dotAt st X Y) = true) (m : Int) :
    { St.putDot { st.stn X Y f with work := m } X Y (wrDot (st.stn X Y f).T g (dotAt { st.stn X Y f with work := m } X Y)) with qs := (st.stn X Y f).qs.map count } = St.tested { st with work := m } X Y g := by
  have e := stn_pass hok hX hY hd h
  have e1 : St.tested { st with work := m } X Y g = { St.tested st X Y g with work := m } := rfl
  rw [e1, ← e]
  rfl

set_option maxRecDepth 100000 in
set_option maxHeartbeats 8000000 in
theorem drawPixel_in (pl : Prop) (hpl : pl → useB ways.v 8 = false) (q : Nat) (t : Tr) (ht : t.Ok) :
    PixAll pl base p cB zB sB A n s k ways shV outV q t := by
  intro st K X Y w h hok hK hX hY hq
  have hW1 := hok.W1
  have hH1 := hok.H1
  have lp := lt_of_heap h.bp
  have HD : Hid (Dr base w p cB zB sB A n s k ways shV outV st) := h
  have hsm := sample_any q t.a t.b t.c t.ar ⟨t.f, t.bounds⟩ X Y w hq ht.a ht.b ht.c ht.ar ht.pos (by omega) (by omega) (by omega) (by omega)
  cases hcov : covB t.a t.b t.c X Y
  · have HSm : Hid (Calls Tryz.prog 128 #[.pointer (some ⟨q, 0, none⟩), .int .i64 X, .int .i64 Y] w fun e w' => e = .returned (.tuple #[smpV 0 0 0 0 0 0, .bool false]) ∧ Below w.heap.size w w') := by
      refine hsm.mono ?_
      rintro e w' ⟨(⟨_, v, rfl, rfl⟩ | ⟨h1, _⟩), hb'⟩
      · exact ⟨rfl, hb'⟩
      · rw [hcov] at h1; cases h1
    have hpx : t.px st (X, Y) = st := px_not t st (X, Y) hcov
    rw [hpx]
    clear hsm hcov hpx h hq
    go_enter Tryz.func103, Tryz.ntmps103
    go_wp2_with (go_at_call 128; refine HSm.out.mono ?_; rintro e w1 ⟨rfl, hb1⟩)
    (try simp only [Exit.inBlock, Exit.then])
    refine bodyPost_ret (results_none rfl _ _ _) rfl ?_
    exact ⟨rfl, ⟨st, Near.refl _ _, Int.le_refl _, HD.out.frame (hb1.alloc hb1.size _)⟩, (Kept.refl _ w).below (hb1.alloc hb1.size _)⟩
  · have hdok := pix_ok t.a t.b t.c t.ar X Y ht.a ht.b ht.c ht.ar ht.pos hcov
    have HSm : Hid (Calls Tryz.prog 128 #[.pointer (some ⟨q, 0, none⟩), .int .i64 X, .int .i64 Y] w fun e w' => e = .returned (.tuple #[smpV X Y (pix t.a t.b t.c t.ar X Y).r (pix t.a t.b t.c t.ar X Y).g (pix t.a t.b t.c t.ar X Y).b (pix t.a t.b t.c t.ar X Y).d, .bool true]) ∧ Below w.heap.size w w') := by
      refine hsm.mono ?_
      rintro e w' ⟨(⟨h1, _⟩ | ⟨_, rfl⟩), hb'⟩
      · rw [hcov] at h1; cases h1
      · exact ⟨rfl, hb'⟩
    have hpx : t.px st (X, Y) = st.dot (pix t.a t.b t.c t.ar X Y) X Y := by unfold Tr.px St.px; rw [hcov]; rfl
    rw [hpx]
    clear hsm hcov hpx hq
    generalize pix t.a t.b t.c t.ar X Y = d at *
    have HN : Hid (∀ w1 : World, Below w.heap.size w w1 → PxI base p cB zB sB A n s k ways shV outV w1.heap.size X Y w st d (w1.alloc (smpB X Y d))) := fun w1 hb1 =>
      ⟨HD.out.frame (hb1.alloc hb1.size _), (Kept.refl _ w).below (hb1.alloc hb1.size _), heap_alloc_new _ _⟩
    have HU : Hid (∀ (S : Nat) (W : World), PxI base p cB zB sB A n s k ways shV outV S X Y w st d W → Calls Tryz.prog 80 #[.pointer (some ⟨p, 14, none⟩), .int .i64 8] W fun e w' => e = .returned (.bool (useB ways.v 8)) ∧ w' = W) := fun S W hW => Dr.uses base p cB zB sB A n s k ways shV outV st W hW.dr 8
    have HC : Hid (∀ (S : Nat) (W : World), PxI base p cB zB sB A n s k ways shV outV S X Y w st d W → Calls Tryz.prog 129 #[.pointer (some ⟨p, 25, none⟩)] W fun e w' => e = .returned (.bool (!givesB st.sh && !bringsB st.sh)) ∧ w' = W) := fun S W hW => canWait_any p W _ _ (cell_of hW.dr.bp 26) (cell_of hW.dr.bp 27)
    have HS : Hid (∀ (S : Nat) (W : World) (st1 : St) (f : Dot), w.heap.size ≤ S → st1.Ok K → f.Ok → PxI base p cB zB sB A n s k ways shV outV S X Y w st1 f W → Calls Tryz.prog 130 #[.pointer (some ⟨p, 0, none⟩), .pointer (some ⟨S, 0, none⟩)] W fun e w' => e = .returned (.bool (shRun st1.sh [f.r, f.g, f.b, X, Y, f.d, 0, 0] f.d 0).2.isSome) ∧
        (Dr base w' p cB zB sB A n s k ways shV outV { st1 with work := st1.work + (shRun st1.sh [f.r, f.g, f.b, X, Y, f.d, 0, 0] f.d 0).1 } ∧ Kept (PS p cB zB sB) w w') ∧
        ∀ rr z, (shRun st1.sh [f.r, f.g, f.b, X, Y, f.d, 0, 0] f.d 0).2 = some (rr, z) → w'.heap[S]? = some (smpB X Y { r := within (rr.getD 0 0) 0 255, g := within (rr.getD 1 0) 0 255, b := within (rr.getD 2 0) 0 255, d := z, s := f.s })) := by
      intro S W st1 f hS hok1 hf hW
      refine (shadeSample_in hW.dr hok1 (by omega) S X Y f hW.bs hf (by omega) (by omega)).mono ?_
      rintro e w' ⟨rfl, hd', hk', hz⟩
      refine ⟨rfl, ⟨hd', ?_⟩, hz⟩
      exact ⟨hk'.os.trans hW.lo.os, hk'.tape.trans hW.lo.tape, hk'.output.trans hW.lo.output, Nat.le_trans hW.lo.size hk'.size, fun i hi hn => (hk'.block i (Nat.lt_of_lt_of_le hi hW.lo.size) (by unfold PS at hn; omega)).trans (hW.lo.block i hi hn)⟩
    have HT : Hid (∀ (S : Nat) (W : World) (st1 : St) (f : Dot), w.heap.size ≤ S → st1.Ok (K + 16) → (X : Int) < st1.W → (Y : Int) < st1.H → PxI base p cB zB sB A n s k ways shV outV S X Y w st1 f W → Calls Tryz.prog 131 #[.pointer (some ⟨p, 0, none⟩), smpV X Y f.r f.g f.b f.d] W fun e w' => e = .returned (.bool (tPass st1.T f (dotAt st1 X Y))) ∧
        PxI base p cB zB sB A n s k ways shV outV S X Y w (st1.stn X Y f) f w') := by
      intro S W st1 f hS hok1 h1 h2 hW
      refine (test_in base p cB zB sB A n s k ways shV outV st1 W (K + 16) hW.dr hok1 X Y h1 h2 f).mono ?_
      rintro e w' ⟨rfl, hd', hk'⟩
      obtain ⟨fc, fz, fs, _, ⟨c1, b1, t1⟩, ⟨c2, b2, t2⟩, c3, b3, t3⟩ := hW.dr.sf.ex
      refine ⟨rfl, hd', hW.lo.trans hk', (hk'.block _ (lt_of_heap hW.bs) ?_).trans hW.bs⟩
      rintro (e | e | e | e)
      · exact ne_types hW.dr.bp hW.bs (by decide) e.symm
      · exact ne_types b1 hW.bs (by decide) e.symm
      · exact ne_types b2 hW.bs (by decide) e.symm
      · exact ne_types b3 hW.bs (by decide) e.symm
    have HWr : Hid (∀ (W : World) (st1 : St) (f : Dot), st1.Ok (K + 16) → (X : Int) < st1.W → (Y : Int) < st1.H → Dr base W p cB zB sB A n s k ways shV outV st1 → Kept (PS p cB zB sB) w W → Calls Tryz.prog 132 #[.pointer (some ⟨p, 0, none⟩), smpV X Y f.r f.g f.b f.d] W fun e w' => e = .returned (.tuple #[]) ∧
        Dr base w' p cB zB sB A n s k ways shV outV { st1.putDot X Y (wrDot st1.T f (dotAt st1 X Y)) with qs := st1.qs.map count } ∧ Kept (PS p cB zB sB) w w') := by
      intro W st1 f hok1 h1 h2 hd hk
      refine (write_in base p cB zB sB A n s k ways shV outV st1 W (K + 16) hd hok1 hK X Y h1 h2 f).mono ?_
      rintro e w' ⟨rfl, hd', hk'⟩
      exact ⟨rfl, hd', hk.trans (hk'.mono (fun _ e => by unfold PS; omega))⟩
    have hwk := shRun_work st.sh.length st.sh [d.r, d.g, d.b, (X : Int), (Y : Int), d.d, 0, 0] d.d 0 (Nat.le_refl _)
    have hshl := hok.shl
    cases hea : (useB ways.v 8 && (!givesB st.sh && !bringsB st.sh))
    · -- the shader first
      obtain ⟨kk, res, hfin⟩ : ∃ kk res, shRun st.sh [d.r, d.g, d.b, (X : Int), (Y : Int), d.d, 0, 0] d.d 0 = (kk, res) := ⟨_, _, rfl⟩
      rw [hfin] at hwk
      have k0 : 0 ≤ kk := hwk.1
      have k1 : kk ≤ 16 := by have := hwk.2; simp only at this; omega
      have hokk := work_ok hok k0 k1
      have HSh : Hid (∀ (S : Nat) (W : World), w.heap.size ≤ S → PxI base p cB zB sB A n s k ways shV outV S X Y w st d W → Calls Tryz.prog 130 #[.pointer (some ⟨p, 0, none⟩), .pointer (some ⟨S, 0, none⟩)] W fun e w' => e = .returned (.bool res.isSome) ∧
          (Dr base w' p cB zB sB A n s k ways shV outV { st with work := st.work + kk } ∧ Kept (PS p cB zB sB) w w') ∧
          ∀ rr z, res = some (rr, z) → w'.heap[S]? = some (smpB X Y { r := within (rr.getD 0 0) 0 255, g := within (rr.getD 1 0) 0 255, b := within (rr.getD 2 0) 0 255, d := z, s := d.s })) := by
        intro S W hS hW
        have := HS.out S W st d hS hok hdok hW
        rw [hfin] at this
        exact this
      cases res with
      | none =>
        rw [dot_none hfin]
        clear hfin hwk h hok HS HT HWr
        generalize useB ways.v 8 = ua at *
        generalize (!givesB st.sh && !bringsB st.sh) = ca at *
        cases ua <;> cases ca <;> cases hea
        all_goals
          go_enter Tryz.func103, Tryz.ntmps103
          go_wp2_with (first
            | (go_at_call 128; refine HSm.out.mono ?_; rintro e w1 ⟨rfl, hb1⟩; have hP := HN.out w1 hb1; have l1 := hb1.size; have HP : Hid (PxI base p cB zB sB A n s k ways shV outV w1.heap.size X Y w st d (w1.alloc (smpB X Y d))) := hP; clear hP)
            | (go_at_call 80; refine (HU.out _ _ HP.out).mono ?_; rintro e w' ⟨rfl, rfl⟩)
            | (go_at_call 129; refine (HC.out _ _ HP.out).mono ?_; rintro e w' ⟨rfl, rfl⟩)
            | (go_at_call 130; refine (HSh.out _ _ l1 HP.out).mono ?_; rintro e w2 ⟨rfl, hd2, _⟩))
          refine bodyPost_ret (results_none rfl _ _ _) rfl ?_
          exact ⟨rfl, ⟨_, Near.refl _ _, by show st.work ≤ st.work + kk; omega, hd2.1⟩, hd2.2⟩
      | some rz =>
        obtain ⟨r, z⟩ := rz
        rw [dot_some hfin]
        generalize hf : ({ r := within (r.getD 0 0) 0 255, g := within (r.getD 1 0) 0 255, b := within (r.getD 2 0) 0 255, d := z, s := d.s } : Dot) = f at *
        have HSh2 : Hid (∀ (S : Nat) (W : World), w.heap.size ≤ S → PxI base p cB zB sB A n s k ways shV outV S X Y w st d W → Calls Tryz.prog 130 #[.pointer (some ⟨p, 0, none⟩), .pointer (some ⟨S, 0, none⟩)] W fun e w' => e = .returned (.bool true) ∧
            PxI base p cB zB sB A n s k ways shV outV S X Y w { st with work := st.work + kk } f w') := by
          intro S W hS hW
          refine (HSh.out S W hS hW).mono ?_
          rintro e w' ⟨rfl, hd', hz⟩
          refine ⟨rfl, hd'.1, hd'.2, ?_⟩
          rw [← hf]
          exact hz r z rfl
        have HT2 : Hid (∀ (S : Nat) (W : World), w.heap.size ≤ S → PxI base p cB zB sB A n s k ways shV outV S X Y w { st with work := st.work + kk } f W → Calls Tryz.prog 131 #[.pointer (some ⟨p, 0, none⟩), smpV X Y f.r f.g f.b f.d] W fun e w' => e = .returned (.bool (tPass st.T f (dotAt { st with work := st.work + kk } X Y))) ∧
            PxI base p cB zB sB A n s k ways shV outV S X Y w (St.stn { st with work := st.work + kk } X Y f) f w') := fun S W hS hW => HT.out S W { st with work := st.work + kk } f hS hokk hX hY hW
        have HW2 : Hid (∀ (S : Nat) (W : World), PxI base p cB zB sB A n s k ways shV outV S X Y w (St.stn { st with work := st.work + kk } X Y f) f W → Calls Tryz.prog 132 #[.pointer (some ⟨p, 0, none⟩), smpV X Y f.r f.g f.b f.d] W fun e w' => e = .returned (.tuple #[]) ∧
            (tPass st.T f (dotAt { st with work := st.work + kk } X Y) = true → Dr base w' p cB zB sB A n s k ways shV outV (St.tested { st with work := st.work + kk } X Y f)) ∧ Kept (PS p cB zB sB) w w') := by
          intro S W hW
          refine (HWr.out W _ f (stn_ok hokk X Y f) hX hY hW.dr hW.lo).mono ?_
          rintro e w' ⟨rfl, hd', hk'⟩
          refine ⟨rfl, fun ht => ?_, hk'⟩
          rw [stn_pass hokk hX hY rfl ht] at hd'
          exact hd'
        have HFl : Hid (tPass st.T f (dotAt { st with work := st.work + kk } X Y) = false → St.stn { st with work := st.work + kk } X Y f = St.tested { st with work := st.work + kk } X Y f) := fun ht => stn_fail rfl ht
        have HLe : Hid (st.work ≤ (St.tested { st with work := st.work + kk } X Y f).work) := by show st.work ≤ st.work + kk; omega
        clear hfin hwk h hok HS HT HWr hf HSh hokk
        generalize useB ways.v 8 = ua at *
        generalize (!givesB st.sh && !bringsB st.sh) = ca at *
        generalize St.tested { st with work := st.work + kk } X Y f = st2 at *
        generalize St.stn { st with work := st.work + kk } X Y f = st1 at *
        generalize htp : tPass st.T f (dotAt { st with work := st.work + kk } X Y) = tp at *
        clear htp
        cases tp
        · cases HFl.out rfl
          cases ua <;> cases ca <;> cases hea
          all_goals
            go_enter Tryz.func103, Tryz.ntmps103
            go_wp2_with (first
              | (go_at_call 128; refine HSm.out.mono ?_; rintro e w1 ⟨rfl, hb1⟩; have hP := HN.out w1 hb1; have l1 := hb1.size; have HP : Hid (PxI base p cB zB sB A n s k ways shV outV w1.heap.size X Y w st d (w1.alloc (smpB X Y d))) := hP; have cs1 := cell_of hP.bs; clear hP)
              | (go_at_call 80; refine (HU.out _ _ HP.out).mono ?_; rintro e w' ⟨rfl, rfl⟩)
              | (go_at_call 129; refine (HC.out _ _ HP.out).mono ?_; rintro e w' ⟨rfl, rfl⟩)
              | (go_at_call 130; refine (HSh2.out _ _ l1 HP.out).mono ?_; rintro e w2 ⟨rfl, hP2⟩; have HP2 : Hid (PxI base p cB zB sB A n s k ways shV outV w1.heap.size X Y w { st with work := st.work + kk } f w2) := hP2; have cs2 := cell_of hP2.bs; clear hP2)
              | (go_at_call 131; refine (HT2.out _ _ l1 HP2.out).mono ?_; rintro e w3 ⟨rfl, hP3⟩))
            refine bodyPost_ret (results_none rfl _ _ _) rfl ?_
            exact ⟨rfl, ⟨_, Near.refl _ _, HLe.out, hP3.dr⟩, hP3.lo⟩
        · have HW3 : Hid (∀ (S : Nat) (W : World), PxI base p cB zB sB A n s k ways shV outV S X Y w st1 f W → Calls Tryz.prog 132 #[.pointer (some ⟨p, 0, none⟩), smpV X Y f.r f.g f.b f.d] W fun e w' => e = .returned (.tuple #[]) ∧
              Dr base w' p cB zB sB A n s k ways shV outV st2 ∧ Kept (PS p cB zB sB) w w') := by
            intro S W hW
            refine (HW2.out S W hW).mono ?_
            rintro e w' ⟨rfl, hd', hk'⟩
            exact ⟨rfl, hd' rfl, hk'⟩
          clear HW2 HFl
          cases ua <;> cases ca <;> cases hea
          all_goals
            go_enter Tryz.func103, Tryz.ntmps103
            go_wp2_with (first
              | (go_at_call 128; refine HSm.out.mono ?_; rintro e w1 ⟨rfl, hb1⟩; have hP := HN.out w1 hb1; have l1 := hb1.size; have HP : Hid (PxI base p cB zB sB A n s k ways shV outV w1.heap.size X Y w st d (w1.alloc (smpB X Y d))) := hP; have cs1 := cell_of hP.bs; clear hP)
              | (go_at_call 80; refine (HU.out _ _ HP.out).mono ?_; rintro e w' ⟨rfl, rfl⟩)
              | (go_at_call 129; refine (HC.out _ _ HP.out).mono ?_; rintro e w' ⟨rfl, rfl⟩)
              | (go_at_call 130; refine (HSh2.out _ _ l1 HP.out).mono ?_; rintro e w2 ⟨rfl, hP2⟩; have HP2 : Hid (PxI base p cB zB sB A n s k ways shV outV w1.heap.size X Y w { st with work := st.work + kk } f w2) := hP2; have cs2 := cell_of hP2.bs; clear hP2)
              | (go_at_call 131; refine (HT2.out _ _ l1 HP2.out).mono ?_; rintro e w3 ⟨rfl, hP3⟩; have HP3 : Hid (PxI base p cB zB sB A n s k ways shV outV w1.heap.size X Y w st1 f w3) := hP3; have cs3 := cell_of hP3.bs; clear hP3)
              | (go_at_call 132; refine (HW3.out _ _ HP3.out).mono ?_; rintro e w4 ⟨rfl, hd4, hk4⟩))
            go_end0
            exact ⟨rfl, ⟨_, Near.refl _ _, HLe.out, hd4⟩, hk4⟩
    · -- the tests first
      simp only [Bool.and_eq_true, Bool.not_eq_true'] at hea
      obtain ⟨hu, hg, hbr⟩ := hea
      have hnp : ¬ pl := fun e => by rw [hpl e] at hu; cases hu
      obtain ⟨r, z, hfin⟩ := run_gives st.sh.length st.sh [d.r, d.g, d.b, (X : Int), (Y : Int), d.d, 0, 0] d.d 0 (Nat.le_refl _) hg
      have hz := run_brings st.sh.length st.sh [d.r, d.g, d.b, (X : Int), (Y : Int), d.d, 0, 0] d.d 0 (Nat.le_refl _) hbr r z (by rw [hfin])
      rw [hfin] at hwk
      generalize ((0 : Int) + (st.sh.length : Int) / 4) = kk at *
      have k0 : 0 ≤ kk := hwk.1
      have k1 : kk ≤ 16 := by have := hwk.2; simp only at this; omega
      have hokk := work_ok hok k0 k1
      rw [dot_some hfin]
      generalize hf : ({ r := within (r.getD 0 0) 0 255, g := within (r.getD 1 0) 0 255, b := within (r.getD 2 0) 0 255, d := z, s := d.s } : Dot) = f at *
      have hfd : f.d = d.d := by rw [← hf]; exact hz
      have HT2 : Hid (∀ (S : Nat) (W : World), w.heap.size ≤ S → PxI base p cB zB sB A n s k ways shV outV S X Y w st d W → Calls Tryz.prog 131 #[.pointer (some ⟨p, 0, none⟩), smpV X Y d.r d.g d.b d.d] W fun e w' => e = .returned (.bool (tPass st.T d (dotAt st X Y))) ∧
          PxI base p cB zB sB A n s k ways shV outV S X Y w (st.stn X Y d) d w') := fun S W hS hW => HT.out S W st d hS (Ok_mono hok (by omega)) hX hY hW
      have HSh2 : Hid (∀ (S : Nat) (W : World), w.heap.size ≤ S → PxI base p cB zB sB A n s k ways shV outV S X Y w (st.stn X Y d) d W → Calls Tryz.prog 130 #[.pointer (some ⟨p, 0, none⟩), .pointer (some ⟨S, 0, none⟩)] W fun e w' => e = .returned (.bool true) ∧
          PxI base p cB zB sB A n s k ways shV outV S X Y w { st.stn X Y d with work := st.work + kk } f w') := by
        intro S W hS hW
        have h1 := HS.out S W (st.stn X Y d) d hS (stn_ok hok X Y d) hdok hW
        rw [show (st.stn X Y d).sh = st.sh from rfl, hfin] at h1
        refine h1.mono ?_
        rintro e w' ⟨rfl, hd', hz'⟩
        refine ⟨rfl, hd'.1, hd'.2, ?_⟩
        rw [← hf]
        exact hz' r z rfl
      have HW2 : Hid (∀ (S : Nat) (W : World), PxI base p cB zB sB A n s k ways shV outV S X Y w { st.stn X Y d with work := st.work + kk } f W → Calls Tryz.prog 132 #[.pointer (some ⟨p, 0, none⟩), smpV X Y f.r f.g f.b f.d] W fun e w' => e = .returned (.tuple #[]) ∧
          (tPass st.T d (dotAt st X Y) = true → Dr base w' p cB zB sB A n s k ways shV outV (St.tested { st with work := st.work + kk } X Y f)) ∧ Kept (PS p cB zB sB) w w') := by
        intro S W hW
        refine (HWr.out W _ f (work_ok (stn_ok hok X Y d) k0 k1) hX hY hW.dr hW.lo).mono ?_
        rintro e w' ⟨rfl, hd', hk'⟩
        refine ⟨rfl, fun ht => ?_, hk'⟩
        rw [← stn_pass_w hok hX hY hfd ht]
        exact hd'
      have HFl : Hid (tPass st.T d (dotAt st X Y) = false → Near pl (St.tested { st with work := st.work + kk } X Y f) (st.stn X Y d)) := fun ht => near_stn hnp k0 hfd ht
      have HLe : Hid (st.work ≤ (St.tested { st with work := st.work + kk } X Y f).work) := by show st.work ≤ st.work + kk; omega
      have HLe1 : Hid (st.work ≤ (st.stn X Y d).work) := by show st.work ≤ st.work; omega
      rw [hu] at HU
      rw [hg, hbr] at HC
      clear hfin hwk h hok HS HT HWr hf hokk hu hg hbr hfd hz
      generalize St.tested { st with work := st.work + kk } X Y f = st2 at *
      generalize hst3 : ({ st.stn X Y d with work := st.work + kk } : St) = st3 at *
      clear hst3
      generalize St.stn st X Y d = st1 at *
      generalize htp : tPass st.T d (dotAt st X Y) = tp at *
      clear htp
      cases tp
      · have HNr := HFl.out rfl
        go_enter Tryz.func103, Tryz.ntmps103
        go_wp2_with (first
            | (go_at_call 128; refine HSm.out.mono ?_; rintro e w1 ⟨rfl, hb1⟩; have hP := HN.out w1 hb1; have l1 := hb1.size; have HP : Hid (PxI base p cB zB sB A n s k ways shV outV w1.heap.size X Y w st d (w1.alloc (smpB X Y d))) := hP; have cs1 := cell_of hP.bs; clear hP)
            | (go_at_call 80; refine (HU.out _ _ HP.out).mono ?_; rintro e w' ⟨rfl, rfl⟩)
            | (go_at_call 129; refine (HC.out _ _ HP.out).mono ?_; rintro e w' ⟨rfl, rfl⟩)
            | (go_at_call 131; refine (HT2.out _ _ l1 HP.out).mono ?_; rintro e w3 ⟨rfl, hP3⟩))
        refine bodyPost_ret (results_none rfl _ _ _) rfl ?_
        exact ⟨rfl, ⟨_, HNr, HLe1.out, hP3.dr⟩, hP3.lo⟩
      · have HW3 : Hid (∀ (S : Nat) (W : World), PxI base p cB zB sB A n s k ways shV outV S X Y w st3 f W → Calls Tryz.prog 132 #[.pointer (some ⟨p, 0, none⟩), smpV X Y f.r f.g f.b f.d] W fun e w' => e = .returned (.tuple #[]) ∧
              Dr base w' p cB zB sB A n s k ways shV outV st2 ∧ Kept (PS p cB zB sB) w w') := by
            intro S W hW
            refine (HW2.out S W hW).mono ?_
            rintro e w' ⟨rfl, hd', hk'⟩
            exact ⟨rfl, hd' rfl, hk'⟩
        clear HW2 HFl
        go_enter Tryz.func103, Tryz.ntmps103
        go_wp2_with (first
            | (go_at_call 128; refine HSm.out.mono ?_; rintro e w1 ⟨rfl, hb1⟩; have hP := HN.out w1 hb1; have l1 := hb1.size; have HP : Hid (PxI base p cB zB sB A n s k ways shV outV w1.heap.size X Y w st d (w1.alloc (smpB X Y d))) := hP; have cs1 := cell_of hP.bs; clear hP)
            | (go_at_call 80; refine (HU.out _ _ HP.out).mono ?_; rintro e w' ⟨rfl, rfl⟩)
            | (go_at_call 129; refine (HC.out _ _ HP.out).mono ?_; rintro e w' ⟨rfl, rfl⟩)
            | (go_at_call 131; refine (HT2.out _ _ l1 HP.out).mono ?_; rintro e w3 ⟨rfl, hP3⟩; have HP3 : Hid (PxI base p cB zB sB A n s k ways shV outV w1.heap.size X Y w st1 d w3) := hP3; clear hP3)
            | (go_at_call 130; refine (HSh2.out _ _ l1 HP3.out).mono ?_; rintro e w2 ⟨rfl, hP2⟩; have HP2 : Hid (PxI base p cB zB sB A n s k ways shV outV w1.heap.size X Y w st3 f w2) := hP2; have cs2 := cell_of hP2.bs; clear hP2)
            | (go_at_call 132; refine (HW3.out _ _ HP2.out).mono ?_; rintro e w4 ⟨rfl, hd4, hk4⟩))
        go_end0
        exact ⟨rfl, ⟨_, Near.refl _ _, HLe.out, hd4⟩, hk4⟩
end
end Go.Proofs.YthcikinkicpicaaGreatDoor
