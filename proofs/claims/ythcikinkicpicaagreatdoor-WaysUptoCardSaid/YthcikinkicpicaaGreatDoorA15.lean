import Derived.Test.YthcikinkicpicaaGreatDoorA09
import Derived.Test.YthcikinkicpicaaGreatDoorA08
import Derived.Test.YthcikinkicpicaaGreatDoorA07
import Derived.Test.YthcikinkicpicaaGreatDoorA05
import Derived.Test.YthcikinkicpicaaGreatDoorA04
import Derived.Test.YthcikinkicpicaaGreatDoorA01

namespace Go.Proofs.YthcikinkicpicaaGreatDoor
open Go.RowKit

def qAt (st : St) (i : Nat) : Qry := st.qs.getD i q0

/-- The ways, and the bins: the map's block, its entries and its clock. -/
structure Wy where
  v : Int
  m : Nat
  es : Array MapEntry
  ck : Nat

/-- The drawer's cells. -/
def xcells (st : St) (s : ByteArray) (k : Int) (ways : Wy) (cB zB sB A n : Nat) (shV outV : Value) : Array Value :=
  #[.string s, .int .i64 k, .int .i64 st.W, .int .i64 st.H, .int .i64 st.wx, .int .i64 st.wy, .int .i64 st.ww, .int .i64 st.wh,
    .int .i64 A, .slice (some ⟨cB, 0, none⟩) n n, .int .i64 A, .slice (some ⟨zB, 0, none⟩) n n, .int .i64 A, .slice (some ⟨sB, 0, none⟩) n n,
    .int .u8 st.T.depth, .bool (decide (st.T.write = 1)), .int .u8 st.T.test, .int .u8 st.T.value, .int .u8 st.T.which, .int .u8 st.T.writes, .int .u8 st.T.fail, .int .u8 st.T.dfail, .int .u8 st.T.pass,
    .int .u8 st.T.faces, .int .u8 st.T.colours, shV, .bool (givesB st.sh), .bool (bringsB st.sh), .int .i64 ways.v,
    .bool (qAt st 0).ever, .bool (qAt st 0).on, .int .i64 (qAt st 0).n, .bool (qAt st 1).ever, .bool (qAt st 1).on, .int .i64 (qAt st 1).n,
    .bool (qAt st 2).ever, .bool (qAt st 2).on, .int .i64 (qAt st 2).n, .bool (qAt st 3).ever, .bool (qAt st 3).on, .int .i64 (qAt st 3).n, .map (some ways.m), outV, .int .i64 st.work]

/-- A shader's steps lie where v says. -/
def StepsAt (w : World) (v : Value) (l : List Int) : Prop :=
  badSteps l = false ∧ ((v = .slice none 0 0 ∧ l = []) ∨ ∃ g m cur, v = .slice (some ⟨g, 0, none⟩) m m ∧ 4 * m = l.length ∧ w.heap[g]? = some (.cells cur 208 (0, 0)) ∧ ∀ j, j < l.length → cur[j]? = some (.int .u8 (l.getD j 0)))

/-- What the surfaces hold is what the pixels are. -/
def Pix (st : St) (A : Nat) (fc : Nat → Nat → Col) (fz fs : Nat → Nat → Int) : Prop :=
  ∀ X Y : Nat, (X : Int) < st.W → (Y : Int) < st.H → st.dots.getD ((Y : Int) * st.W + X).toNat dot0 =
    { r := (fc (tNo A X Y) (iNo X Y)).r, g := (fc (tNo A X Y) (iNo X Y)).g, b := (fc (tNo A X Y) (iNo X Y)).b, d := fz (tNo A X Y) (iNo X Y), s := fs (tNo A X Y) (iNo X Y) }

/-- The surfaces' three blocks. -/
structure Surfs (w : World) (cB zB sB A n : Nat) (st : St) : Prop where
  hA : A = ((st.W + 3) / 4).toNat
  hn : n = A * ((st.H + 3) / 4).toNat
  ex : ∃ fc fz fs, Pix st A fc fz fs ∧ (∃ cur, w.heap[cB]? = some (.cells cur 196 (0, 0)) ∧ TilesC cur n fc) ∧
    (∃ cur, w.heap[zB]? = some (.cells cur 201 (0, 0)) ∧ TilesU cur .u16 n fz) ∧ (∃ cur, w.heap[sB]? = some (.cells cur 206 (0, 0)) ∧ TilesU cur .u8 n fs)

/-- The drawer at p holds the state st. -/
structure Dr (base : Nat) (w : World) (p cB zB sB A n : Nat) (s : ByteArray) (k : Int) (ways : Wy) (shV outV : Value) (st : St) : Prop where
  bp : w.heap[p]? = some (.cells (xcells st s k ways cB zB sB A n shV outV) 94 (0, 0))
  sf : Surfs w cB zB sB A n st
  sh : StepsAt w shV st.sh
  out : w.ownsRow base 25 4 outV st.out.length (rcells st.out)
  b0 : base ≤ p
  b1 : base ≤ cB
  b2 : base ≤ zB
  b3 : base ≤ sB
  mp : w.heap[ways.m]? = some (.map ways.es ways.ck)
  b4 : base ≤ ways.m

theorem ne_types {w : World} {a b : Nat} {c c' : Array Value} {T T' : TypeId} {f f' : Nat × Nat} (h : w.heap[a]? = some (.cells c T f)) (h' : w.heap[b]? = some (.cells c' T' f')) (ht : T ≠ T') : a ≠ b := by
  rintro rfl
  rw [h] at h'
  simp at h'
  exact ht h'.2.1

theorem ne_map {w : World} {a b : Nat} {c : Array Value} {T : TypeId} {f : Nat × Nat} {es : Array MapEntry} {ck : Nat} (h : w.heap[a]? = some (.map es ck)) (h' : w.heap[b]? = some (.cells c T f)) : a ≠ b := by
  rintro rfl
  rw [h] at h'
  simp at h'

end Go.Proofs.YthcikinkicpicaaGreatDoor

namespace Go.Proofs.YthcikinkicpicaaGreatDoor
open Go.RowKit

/-- A command's numbers, as a text. -/
structure ArgsOf (a : ByteArray) (l : List Int) : Prop where
  size : a.size = l.length
  at_ : ∀ j, j < l.length → byteAt a j = l.getD j 0
  ok : bytesOk l

section
variable {base : Nat} {w w' : World} {p cB zB sB A n : Nat} {s : ByteArray} {k k' : Int} {ways : Wy} {shV outV shV' : Value} {st st' : St}

theorem StepsAt.kept {S : Nat → Prop} {v : Value} {l : List Int} (h : StepsAt w v l) (hk : Kept S w w') (hS : ∀ g cur, w.heap[g]? = some (.cells cur 208 (0, 0)) → ¬ S g) : StepsAt w' v l := by
  obtain ⟨hbad, h⟩ := h
  refine ⟨hbad, ?_⟩
  rcases h with h | ⟨g, m, cur, hv, hm, hg, hc⟩
  · exact .inl h
  · exact .inr ⟨g, m, cur, hv, hm, (hk.block g (lt_of_heap hg) (hS g cur hg)).trans hg, hc⟩

theorem owns_kept {S : Nat → Prop} {v : Value} {l : List Value} {m : Nat} (h : w.ownsRow base 25 4 v m l) (hk : Kept S w w') (hS : ∀ g cur, w.heap[g]? = some (.cells cur 25 (0, 0)) → ¬ S g) : w'.ownsRow base 25 4 v m l := by
  obtain ⟨o1, o2⟩ := h
  refine ⟨o1, ?_⟩
  rcases o2 with o2 | ⟨g, cap, cur, hv, hge, hh, r⟩
  · exact .inl o2
  · exact .inr ⟨g, cap, cur, hv, hge, (hk.block g (lt_of_heap hh) (hS g cur hh)).trans hh, r⟩

theorem Surfs.kept {S : Nat → Prop} (h : Surfs w cB zB sB A n st) (hk : Kept S w w') (h1 : ¬ S cB) (h2 : ¬ S zB) (h3 : ¬ S sB) (eW : st'.W = st.W) (eH : st'.H = st.H) (eD : st'.dots = st.dots) : Surfs w' cB zB sB A n st' := by
  obtain ⟨hA, hn, fc, fz, fs, hp, ⟨c1, b1, t1⟩, ⟨c2, b2, t2⟩, c3, b3, t3⟩ := h
  refine ⟨by rw [eW]; exact hA, by rw [eH]; exact hn, fc, fz, fs, ?_, ⟨c1, (hk.block _ (lt_of_heap b1) h1).trans b1, t1⟩, ⟨c2, (hk.block _ (lt_of_heap b2) h2).trans b2, t2⟩, c3, (hk.block _ (lt_of_heap b3) h3).trans b3, t3⟩
  intro X Y hX hY
  rw [eW] at hX ⊢
  rw [eH] at hY
  rw [eD]
  exact hp X Y hX hY

/-- The drawer's own cells turn, and nothing else. -/
theorem Dr.putW (h : Dr base w p cB zB sB A n s k ways shV outV st) (v : Int) (hp : w'.heap[p]? = some (.cells (xcells st' s k' { ways with v := v } cB zB sB A n shV outV) 94 (0, 0))) (hk : Kept (· = p) w w')
    (eW : st'.W = st.W) (eH : st'.H = st.H) (eD : st'.dots = st.dots) (eS : st'.sh = st.sh) (eO : st'.out = st.out) : Dr base w' p cB zB sB A n s k' { ways with v := v } shV outV st' := by
  obtain ⟨fc, fz, fs, _, ⟨c1, b1, t1⟩, ⟨c2, b2, t2⟩, c3, b3, t3⟩ := h.sf.ex
  refine ⟨hp, h.sf.kept hk ?_ ?_ ?_ eW eH eD, ?_, ?_, h.b0, h.b1, h.b2, h.b3, (hk.block _ (lt_of_heap h.mp) (ne_map h.mp h.bp)).trans h.mp, h.b4⟩
  · exact ne_types b1 h.bp (by decide)
  · exact ne_types b2 h.bp (by decide)
  · exact ne_types b3 h.bp (by decide)
  · rw [eS]; exact h.sh.kept hk (fun g cur hg => ne_types hg h.bp (by decide))
  · rw [eO]; exact owns_kept h.out hk (fun g cur hg => ne_types hg h.bp (by decide))

theorem Dr.put (h : Dr base w p cB zB sB A n s k ways shV outV st) (hp : w'.heap[p]? = some (.cells (xcells st' s k' ways cB zB sB A n shV outV) 94 (0, 0))) (hk : Kept (· = p) w w')
    (eW : st'.W = st.W) (eH : st'.H = st.H) (eD : st'.dots = st.dots) (eS : st'.sh = st.sh) (eO : st'.out = st.out) : Dr base w' p cB zB sB A n s k' ways shV outV st' :=
  h.putW ways.v hp hk eW eH eD eS eO

/-- What lies beneath base stays, and so does a table of commands. -/
structure Low (base : Nat) (w w' : World) : Prop where
  bel : Below base w w'
  tab : ∀ (g : Nat) (c : Array Value), w.heap[g]? = some (.cells c 106 (0, 0)) → w'.heap[g]? = some (.cells c 106 (0, 0))
theorem Low.refl (base : Nat) (w : World) : Low base w w := ⟨Below.refl _ _, fun _ _ h => h⟩
theorem Low.trans {a b c : World} (h : Low base a b) (h' : Low base b c) : Low base a c := ⟨h.bel.trans h'.bel, fun g c hg => h'.tab g c (h.tab g c hg)⟩
theorem Dr.lowOf (h : Dr base w p cB zB sB A n s k ways shV outV st) (hb : Below w.heap.size w w') : Low base w w' :=
  ⟨hb.mono (by have := lt_of_heap h.bp; have := h.b0; omega), fun g c hg => (hb.block g (lt_of_heap hg)).trans hg⟩
theorem low_kept {S : Nat → Prop} (hk : Kept S w w') (h1 : ∀ g, S g → base ≤ g) (h2 : ∀ g : Nat, S g → ∃ (c : Array Value) (T : TypeId), w.heap[g]? = some (.cells c T (0, 0)) ∧ T ≠ 106) (h3 : base ≤ w.heap.size) : Low base w w' :=
  ⟨⟨hk.os, hk.tape, hk.output, hk.size, fun i hi => hk.block i (by omega) (fun hs => by have := h1 i hs; omega)⟩, fun g c hg => (hk.block g (lt_of_heap hg) (fun hs => by
    obtain ⟨c', T', hg', hT⟩ := h2 g hs
    exact ne_types hg' hg hT rfl)).trans hg⟩
theorem Dr.low (h : Dr base w p cB zB sB A n s k ways shV outV st) (hk : Kept (· = p) w w') : Low base w w' :=
  low_kept hk (fun g e => by rw [e]; exact h.b0) (fun g e => by rw [e]; exact ⟨_, _, h.bp, by decide⟩) (by have := lt_of_heap h.bp; have := h.b0; omega)
theorem Dr.frame (h : Dr base w p cB zB sB A n s k ways shV outV st) (hb : Below w.heap.size w w') : Dr base w' p cB zB sB A n s k ways shV outV st := by
  have hk : Kept (fun _ => False) w w' := (Kept.refl _ w).below hb
  exact ⟨(hb.block _ (lt_of_heap h.bp)).trans h.bp, h.sf.kept hk id id id rfl rfl rfl, h.sh.kept hk (fun _ _ _ => id), owns_kept h.out hk (fun _ _ _ => id), h.b0, h.b1, h.b2, h.b3, (hb.block _ (lt_of_heap h.mp)).trans h.mp, h.b4⟩
end

/-- A command, its numbers held against what may be: the state, the error. -/
def St.cmd (st : St) (kind : Int) (l : List Int) : St × Int := if badB st.W st.H kind l then (st, 2) else st.does kind l

theorem ArgsOf.u8 {a : ByteArray} {l : List Int} (h : ArgsOf a l) (j : Nat) (hj : j < l.length) (hi : j < a.size) : ((a[j]'hi).toNat : Int) = l.getD j 0 := by rw [byte_u8]; exact h.at_ j hj
theorem ArgsOf.i64 {a : ByteArray} {l : List Int} (h : ArgsOf a l) (j : Nat) (hj : j < l.length) (hi : j < a.size) : IntKind.i64.wrap ((a[j]'hi).toNat : Int) = l.getD j 0 := by rw [byte_wrap]; exact h.at_ j hj
theorem ArgsOf.w64 {a : ByteArray} {l : List Int} (h : ArgsOf a l) (j : Nat) (hj : j < l.length) (hi : j < a.size) : wrap64 ((a[j]'hi).toNat : Int) = l.getD j 0 := by rw [byte_u8 a j hi, h.at_ j hj]; exact Go.Proofs.YthcikinkicpicaaGreatDoor.w64 (by have := h.ok.at j; omega)

section
variable (base : Nat) (p cB zB sB A n : Nat) (s : ByteArray) (k : Int) (ways : Wy) (shV outV : Value) (st : St) (a : ByteArray) (l : List Int) (w : World)

/-- What a command leaves. -/
def CmdPost (wv : Int) (r : St × Int) (e : Ending) (w' : World) : Prop :=
  e = .returned (.int .i64 r.2) ∧ ∃ cB' zB' sB' A' n' shV' outV', Dr base w' p cB' zB' sB' A' n' s k { ways with v := wv } shV' outV' r.1 ∧ Low base w w'

set_option maxRecDepth 100000 in
set_option maxHeartbeats 1000000 in
theorem setFaces_in (h : Dr base w p cB zB sB A n s k ways shV outV st) (ha : ArgsOf a l) (hl : l.length = 1) :
    Calls Tryz.prog 56 #[.pointer (some ⟨p, 14, none⟩), .string a] w (CmdPost base p s k ways w ways.v (st.cmd 6 l)) := by
  have cp := cell_of h.bp
  simp only [xcells] at cp
  have fp := frozen_of h.bp
  have z0 : (0 : Int) < (a.size : Int) := by have := ha.size; omega
  have i0 : 0 < a.size := by have := ha.size; omega
  have e0 := ha.u8 0 (by omega) i0
  have w0 := ha.i64 0 (by omega) i0
  obtain ⟨b00, b01⟩ := ha.ok.at 0
  have HD : Hid (Dr base w p cB zB sB A n s k ways shV outV st) := h
  have hc : st.cmd 6 l = if 2 < l.getD 0 0 then (st, 2) else ({ st with T := { st.T with faces := l.getD 0 0 } }, 0) := by simp [St.cmd, badB, St.does]
  rw [hc]
  clear h hc ha hl
  generalize l.getD 0 0 = x0 at *
  by_cases hx : 2 < x0
  · rw [if_pos hx]
    go_enter Tryz.func56, Tryz.ntmps56
    go_wp2
    all_goals
      go_ret
      exact ⟨rfl, _, _, _, _, _, _, _, HD.out, Low.refl _ _⟩
  · rw [if_neg hx]
    go_enter Tryz.func56, Tryz.ntmps56
    go_wp2
    go_ret
    exact ⟨rfl, _, _, _, _, _, _, _, HD.out.put (by rw [heap_set_same HD.out.bp]; rfl) (kept_set1 p _ _) rfl rfl rfl rfl rfl, HD.out.low (kept_set1 p _ _)⟩
set_option maxRecDepth 100000 in
set_option maxHeartbeats 1000000 in
theorem setColours_in (h : Dr base w p cB zB sB A n s k ways shV outV st) (ha : ArgsOf a l) (hl : l.length = 1) :
    Calls Tryz.prog 57 #[.pointer (some ⟨p, 14, none⟩), .string a] w (CmdPost base p s k ways w ways.v (st.cmd 7 l)) := by
  have cp := cell_of h.bp
  simp only [xcells] at cp
  have fp := frozen_of h.bp
  have z0 : (0 : Int) < (a.size : Int) := by have := ha.size; omega
  have i0 : 0 < a.size := by have := ha.size; omega
  have e0 := ha.u8 0 (by omega) i0
  have w0 := ha.i64 0 (by omega) i0
  obtain ⟨b00, b01⟩ := ha.ok.at 0
  have HD : Hid (Dr base w p cB zB sB A n s k ways shV outV st) := h
  have hc : st.cmd 7 l = if 7 < l.getD 0 0 then (st, 2) else ({ st with T := { st.T with colours := l.getD 0 0 } }, 0) := by simp [St.cmd, badB, St.does]
  rw [hc]
  clear h hc ha hl
  generalize l.getD 0 0 = x0 at *
  by_cases hx : 7 < x0
  · rw [if_pos hx]
    go_enter Tryz.func57, Tryz.ntmps57
    go_wp2
    all_goals
      go_ret
      exact ⟨rfl, _, _, _, _, _, _, _, HD.out, Low.refl _ _⟩
  · rw [if_neg hx]
    go_enter Tryz.func57, Tryz.ntmps57
    go_wp2
    go_ret
    exact ⟨rfl, _, _, _, _, _, _, _, HD.out.put (by rw [heap_set_same HD.out.bp]; rfl) (kept_set1 p _ _) rfl rfl rfl rfl rfl, HD.out.low (kept_set1 p _ _)⟩
set_option maxRecDepth 100000 in
set_option maxHeartbeats 1000000 in
theorem setDepth_in (h : Dr base w p cB zB sB A n s k ways shV outV st) (ha : ArgsOf a l) (hl : l.length = 2) :
    Calls Tryz.prog 53 #[.pointer (some ⟨p, 14, none⟩), .string a] w (CmdPost base p s k ways w ways.v (st.cmd 3 l)) := by
  have cp := cell_of h.bp
  simp only [xcells] at cp
  have fp := frozen_of h.bp
  have z0 : (0 : Int) < (a.size : Int) := by have := ha.size; omega
  have i0 : 0 < a.size := by have := ha.size; omega
  have e0 := ha.u8 0 (by omega) i0
  have w0 := ha.i64 0 (by omega) i0
  obtain ⟨b00, b01⟩ := ha.ok.at 0
  have z1 : (1 : Int) < (a.size : Int) := by have := ha.size; omega
  have i1 : 1 < a.size := by have := ha.size; omega
  have e1 := ha.u8 1 (by omega) i1
  have w1 := ha.i64 1 (by omega) i1
  obtain ⟨b10, b11⟩ := ha.ok.at 1
  have HD : Hid (Dr base w p cB zB sB A n s k ways shV outV st) := h
  have hc : st.cmd 3 l = if 7 < l.getD 0 0 ∨ 1 < l.getD 1 0 then (st, 2) else ({ st with T := { st.T with depth := l.getD 0 0, write := l.getD 1 0 } }, 0) := by simp [St.cmd, badB, St.does]
  rw [hc]
  clear h hc ha hl
  generalize l.getD 0 0 = x0 at *
  generalize l.getD 1 0 = x1 at *
  by_cases hx : 7 < x0 ∨ 1 < x1
  · rw [if_pos hx]
    go_enter Tryz.func53, Tryz.ntmps53
    go_wp2
    all_goals
      go_ret
      exact ⟨rfl, _, _, _, _, _, _, _, HD.out, Low.refl _ _⟩
  · rw [if_neg hx]
    have hx0 : x0 ≤ 7 := by omega
    have hx1 : x1 ≤ 1 := by omega
    clear hx
    go_enter Tryz.func53, Tryz.ntmps53
    go_wp2_with fail
    go_region
    all_goals
      go_wp2
      go_ret
      have hk := (kept_set1 (w := w) p 14 (.int .u8 x0)).trans (kept_set1 p 15 (.bool (x1 == 1)))
      exact ⟨rfl, _, _, _, _, _, _, _, HD.out.put (by exact heap_set_same (heap_set_same HD.out.bp _ _) _ _) hk.drew rfl rfl rfl rfl rfl, HD.out.low hk.drew⟩
set_option maxRecDepth 100000 in
set_option maxHeartbeats 1000000 in
theorem setWays_in (h : Dr base w p cB zB sB A n s k ways shV outV st) (ha : ArgsOf a l) (hl : l.length = 1) :
    Calls Tryz.prog 62 #[.pointer (some ⟨p, 14, none⟩), .string a] w (CmdPost base p s k ways w (l.getD 0 0) (st.cmd 12 l)) := by
  have cp := cell_of h.bp
  simp only [xcells] at cp
  have fp := frozen_of h.bp
  have z0 : (0 : Int) < (a.size : Int) := by have := ha.size; omega
  have i0 : 0 < a.size := by have := ha.size; omega
  have e0 := ha.w64 0 (by omega) i0
  have HD : Hid (Dr base w p cB zB sB A n s k ways shV outV st) := h
  have hc : st.cmd 12 l = (st, 0) := by simp [St.cmd, badB, St.does]
  rw [hc]
  clear h hc ha hl
  generalize l.getD 0 0 = x0 at *
  go_enter Tryz.func62, Tryz.ntmps62
  go_wp2
  go_ret
  exact ⟨rfl, _, _, _, _, _, _, _, HD.out.putW (st' := st) (k' := k) x0 (by exact heap_set_same HD.out.bp _ _) (kept_set1 p _ _) rfl rfl rfl rfl rfl, HD.out.low (kept_set1 p _ _)⟩

end
end Go.Proofs.YthcikinkicpicaaGreatDoor

namespace Go.Proofs.YthcikinkicpicaaGreatDoor
open Go.RowKit
section
variable (base : Nat) (p cB zB sB A n : Nat) (s : ByteArray) (k : Int) (ways : Wy) (shV outV : Value) (st : St) (a : ByteArray) (l : List Int) (w : World)

theorem four (st : St) (h : st.qs.length = 4) : ∃ q0 q1 q2 q3, st.qs = [q0, q1, q2, q3] := by
  obtain ⟨W, H, dots, T, wx, wy, ww, wh, sh, qs, work, out⟩ := st
  dsimp only at h ⊢
  match qs, h with
  | [a, b, c, d], _ => exact ⟨a, b, c, d, rfl⟩

set_option maxRecDepth 100000 in
set_option maxHeartbeats 400000 in
theorem begin_in (h : Dr base w p cB zB sB A n s k ways shV outV st) (ha : ArgsOf a l) (hl : l.length = 1) (hq : st.qs.length = 4) :
    Calls Tryz.prog 60 #[.pointer (some ⟨p, 29, none⟩), .string a] w (CmdPost base p s k ways w ways.v (st.cmd 10 l)) := by
  obtain ⟨q0, q1, q2, q3, hqs⟩ := four st hq
  have cp := cell_of h.bp
  have fp := frozen_of h.bp
  have z0 : (0 : Int) < (a.size : Int) := by have := ha.size; omega
  have i0 : 0 < a.size := by have := ha.size; omega
  have e0 := ha.u8 0 (by omega) i0
  obtain ⟨b0, b1⟩ := ha.ok.at 0
  have HD : Hid (Dr base w p cB zB sB A n s k ways shV outV st) := h
  have hc : st.cmd 10 l = if 4 ≤ l.getD 0 0 then (st, 2) else st.query 10 (l.getD 0 0) := by simp [St.cmd, badB, St.does]
  have HP : Hid (∀ (i : Nat) (q : Qry) (W : World), W.heap[p]? = some (.cells (xcells { st with qs := st.qs.set i q } s k ways cB zB sB A n shV outV) 94 (0, 0)) → Kept (· = p) w W → CmdPost base p s k ways w ways.v ({ st with qs := st.qs.set i q }, 0) (.returned (.int .i64 0)) W) :=
    fun i q W hW hk => ⟨rfl, _, _, _, _, _, _, _, HD.out.put hW hk rfl rfl rfl rfl rfl, HD.out.low hk⟩
  have HB : Hid (w.heap[p]? = some (.cells (xcells st s k ways cB zB sB A n shV outV) 94 (0, 0))) := h.bp
  rw [hc]
  clear h hc ha hl
  simp only [xcells, qAt, hqs, List.getD_cons_zero, List.getD_cons_succ] at cp
  generalize l.getD 0 0 = x0 at *
  by_cases hx : 4 ≤ x0
  · rw [if_pos hx]
    go_enter Tryz.func60, Tryz.ntmps60
    go_wp2
    go_ret
    exact ⟨rfl, _, _, _, _, _, _, _, HD.out, Low.refl _ _⟩
  · rw [if_neg hx]
    have hx' : x0 = 0 ∨ x0 = 1 ∨ x0 = 2 ∨ x0 = 3 := by omega
    clear hx b0 b1
    rcases hx' with rfl | rfl | rfl | rfl
    · cases hon : q0.on
      · have hr : st.query 10 0 = ({ st with qs := st.qs.set 0 { ever := true, on := true, n := 0 } }, 0) := by simp [St.query, hqs, hon]
        rw [hr]
        go_enter Tryz.func60, Tryz.ntmps60
        go_wp2
        go_ret
        refine HP.out 0 _ _ ?_ ?_
        · rw [heap_set_same (heap_set_same (heap_set_same HB.out _ _) _ _) _ _]; simp [xcells, qAt, hqs]
        · exact (kept_set1 p _ _).trans ((kept_set1 p _ _).trans (kept_set1 p _ _))
      · have hr : st.query 10 0 = (st, 3) := by simp [St.query, hqs, hon]
        rw [hr]
        go_enter Tryz.func60, Tryz.ntmps60
        go_wp2
        go_ret
        exact ⟨rfl, _, _, _, _, _, _, _, HD.out, Low.refl _ _⟩
    · cases hon : q1.on
      · have hr : st.query 10 1 = ({ st with qs := st.qs.set 1 { ever := true, on := true, n := 0 } }, 0) := by simp [St.query, hqs, hon]
        rw [hr]
        go_enter Tryz.func60, Tryz.ntmps60
        go_wp2
        go_ret
        refine HP.out 1 _ _ ?_ ?_
        · rw [heap_set_same (heap_set_same (heap_set_same HB.out _ _) _ _) _ _]; simp [xcells, qAt, hqs]
        · exact (kept_set1 p _ _).trans ((kept_set1 p _ _).trans (kept_set1 p _ _))
      · have hr : st.query 10 1 = (st, 3) := by simp [St.query, hqs, hon]
        rw [hr]
        go_enter Tryz.func60, Tryz.ntmps60
        go_wp2
        go_ret
        exact ⟨rfl, _, _, _, _, _, _, _, HD.out, Low.refl _ _⟩
    · cases hon : q2.on
      · have hr : st.query 10 2 = ({ st with qs := st.qs.set 2 { ever := true, on := true, n := 0 } }, 0) := by simp [St.query, hqs, hon]
        rw [hr]
        go_enter Tryz.func60, Tryz.ntmps60
        go_wp2
        go_ret
        refine HP.out 2 _ _ ?_ ?_
        · rw [heap_set_same (heap_set_same (heap_set_same HB.out _ _) _ _) _ _]; simp [xcells, qAt, hqs]
        · exact (kept_set1 p _ _).trans ((kept_set1 p _ _).trans (kept_set1 p _ _))
      · have hr : st.query 10 2 = (st, 3) := by simp [St.query, hqs, hon]
        rw [hr]
        go_enter Tryz.func60, Tryz.ntmps60
        go_wp2
        go_ret
        exact ⟨rfl, _, _, _, _, _, _, _, HD.out, Low.refl _ _⟩
    · cases hon : q3.on
      · have hr : st.query 10 3 = ({ st with qs := st.qs.set 3 { ever := true, on := true, n := 0 } }, 0) := by simp [St.query, hqs, hon]
        rw [hr]
        go_enter Tryz.func60, Tryz.ntmps60
        go_wp2
        go_ret
        refine HP.out 3 _ _ ?_ ?_
        · rw [heap_set_same (heap_set_same (heap_set_same HB.out _ _) _ _) _ _]; simp [xcells, qAt, hqs]
        · exact (kept_set1 p _ _).trans ((kept_set1 p _ _).trans (kept_set1 p _ _))
      · have hr : st.query 10 3 = (st, 3) := by simp [St.query, hqs, hon]
        rw [hr]
        go_enter Tryz.func60, Tryz.ntmps60
        go_wp2
        go_ret
        exact ⟨rfl, _, _, _, _, _, _, _, HD.out, Low.refl _ _⟩

set_option maxRecDepth 100000 in
set_option maxHeartbeats 400000 in
theorem end_in (h : Dr base w p cB zB sB A n s k ways shV outV st) (ha : ArgsOf a l) (hl : l.length = 1) (hq : st.qs.length = 4) :
    Calls Tryz.prog 61 #[.pointer (some ⟨p, 29, none⟩), .string a] w (CmdPost base p s k ways w ways.v (st.cmd 11 l)) := by
  obtain ⟨q0, q1, q2, q3, hqs⟩ := four st hq
  have cp := cell_of h.bp
  have fp := frozen_of h.bp
  have z0 : (0 : Int) < (a.size : Int) := by have := ha.size; omega
  have i0 : 0 < a.size := by have := ha.size; omega
  have e0 := ha.u8 0 (by omega) i0
  obtain ⟨b0, b1⟩ := ha.ok.at 0
  have HD : Hid (Dr base w p cB zB sB A n s k ways shV outV st) := h
  have hc : st.cmd 11 l = if 4 ≤ l.getD 0 0 then (st, 2) else st.query 11 (l.getD 0 0) := by simp [St.cmd, badB, St.does]
  have HP : Hid (∀ (i : Nat) (q : Qry) (W : World), W.heap[p]? = some (.cells (xcells { st with qs := st.qs.set i q } s k ways cB zB sB A n shV outV) 94 (0, 0)) → Kept (· = p) w W → CmdPost base p s k ways w ways.v ({ st with qs := st.qs.set i q }, 0) (.returned (.int .i64 0)) W) :=
    fun i q W hW hk => ⟨rfl, _, _, _, _, _, _, _, HD.out.put hW hk rfl rfl rfl rfl rfl, HD.out.low hk⟩
  have HB : Hid (w.heap[p]? = some (.cells (xcells st s k ways cB zB sB A n shV outV) 94 (0, 0))) := h.bp
  rw [hc]
  clear h hc ha hl
  simp only [xcells, qAt, hqs, List.getD_cons_zero, List.getD_cons_succ] at cp
  generalize l.getD 0 0 = x0 at *
  by_cases hx : 4 ≤ x0
  · rw [if_pos hx]
    go_enter Tryz.func61, Tryz.ntmps61
    go_wp2
    go_ret
    exact ⟨rfl, _, _, _, _, _, _, _, HD.out, Low.refl _ _⟩
  · rw [if_neg hx]
    have hx' : x0 = 0 ∨ x0 = 1 ∨ x0 = 2 ∨ x0 = 3 := by omega
    clear hx b0 b1
    rcases hx' with rfl | rfl | rfl | rfl
    · cases hon : q0.on
      · have hr : st.query 11 0 = (st, 4) := by simp [St.query, hqs, hon]
        rw [hr]
        go_enter Tryz.func61, Tryz.ntmps61
        go_wp2
        go_ret
        exact ⟨rfl, _, _, _, _, _, _, _, HD.out, Low.refl _ _⟩
      · have hr : st.query 11 0 = ({ st with qs := st.qs.set 0 { q0 with on := false } }, 0) := by simp [St.query, hqs, hon]
        rw [hr]
        go_enter Tryz.func61, Tryz.ntmps61
        go_wp2
        go_ret
        refine HP.out 0 _ _ ?_ ?_
        · rw [heap_set_same HB.out _ _]; simp [xcells, qAt, hqs]
        · exact kept_set1 p _ _
    · cases hon : q1.on
      · have hr : st.query 11 1 = (st, 4) := by simp [St.query, hqs, hon]
        rw [hr]
        go_enter Tryz.func61, Tryz.ntmps61
        go_wp2
        go_ret
        exact ⟨rfl, _, _, _, _, _, _, _, HD.out, Low.refl _ _⟩
      · have hr : st.query 11 1 = ({ st with qs := st.qs.set 1 { q1 with on := false } }, 0) := by simp [St.query, hqs, hon]
        rw [hr]
        go_enter Tryz.func61, Tryz.ntmps61
        go_wp2
        go_ret
        refine HP.out 1 _ _ ?_ ?_
        · rw [heap_set_same HB.out _ _]; simp [xcells, qAt, hqs]
        · exact kept_set1 p _ _
    · cases hon : q2.on
      · have hr : st.query 11 2 = (st, 4) := by simp [St.query, hqs, hon]
        rw [hr]
        go_enter Tryz.func61, Tryz.ntmps61
        go_wp2
        go_ret
        exact ⟨rfl, _, _, _, _, _, _, _, HD.out, Low.refl _ _⟩
      · have hr : st.query 11 2 = ({ st with qs := st.qs.set 2 { q2 with on := false } }, 0) := by simp [St.query, hqs, hon]
        rw [hr]
        go_enter Tryz.func61, Tryz.ntmps61
        go_wp2
        go_ret
        refine HP.out 2 _ _ ?_ ?_
        · rw [heap_set_same HB.out _ _]; simp [xcells, qAt, hqs]
        · exact kept_set1 p _ _
    · cases hon : q3.on
      · have hr : st.query 11 3 = (st, 4) := by simp [St.query, hqs, hon]
        rw [hr]
        go_enter Tryz.func61, Tryz.ntmps61
        go_wp2
        go_ret
        exact ⟨rfl, _, _, _, _, _, _, _, HD.out, Low.refl _ _⟩
      · have hr : st.query 11 3 = ({ st with qs := st.qs.set 3 { q3 with on := false } }, 0) := by simp [St.query, hqs, hon]
        rw [hr]
        go_enter Tryz.func61, Tryz.ntmps61
        go_wp2
        go_ret
        refine HP.out 3 _ _ ?_ ?_
        · rw [heap_set_same HB.out _ _]; simp [xcells, qAt, hqs]
        · exact kept_set1 p _ _
end
end Go.Proofs.YthcikinkicpicaaGreatDoor

namespace Go.Proofs.YthcikinkicpicaaGreatDoor
open Go.RowKit

theorem Tryz.infoReply : (Tryz.prog.info? 25).map (fun i => (i.zero, i.size, i.bytes)) = some (some (.agg #[.int .i64 0, .int .i64 0, .int .i64 0, .int .i64 0]), 4, 32) := by kernel_rfl

section
variable {base : Nat} {w w' : World} {p cB zB sB A n : Nat} {s : ByteArray} {k : Int} {ways : Wy} {shV outV : Value} {st : St}

theorem Dr.push (h : Dr base w p cB zB sB A n s k ways shV outV st) {v' : Value} {r : Rep} (hg : w.grownBy w' outV.ownBlock)
    (ho : w'.ownsRow base 25 4 v' (st.out.length + 1) (rcells st.out ++ [Value.int .i64 r.k, .int .i64 r.a, .int .i64 r.b, .int .i64 r.c])) :
    Dr base (w'.setCell ⟨p, 42, none⟩ v') p cB zB sB A n s k ways shV v' { st with out := st.out ++ [r] } ∧ Low base w (w'.setCell ⟨p, 42, none⟩ v') := by
  have lp := lt_of_heap h.bp
  have hob := owns_block h.out
  have hty : ∀ g c T f, w.heap[g]? = some (.cells c T f) → T ≠ 25 → some g ≠ outV.ownBlock := by
    intro g c T f hgc hT e
    obtain ⟨cur, hc⟩ := hob g e.symm
    exact ne_types hgc hc hT rfl
  have hp' : w'.heap[p]? = _ := (hg.block p lp (hty p _ _ _ h.bp (by decide))).trans h.bp
  have hk : Kept (fun k => k = p ∨ outV.ownBlock = some k) w (w'.setCell ⟨p, 42, none⟩ v') := by
    refine ⟨hg.os, hg.tape, hg.output, by rw [hs_set]; exact hg.size, fun k hk hn => ?_⟩
    rw [heap_set_ne (fun e => hn (.inl e)), hg.block k hk (fun e => hn (.inr e.symm))]
  have hno : ∀ g c T f, w.heap[g]? = some (.cells c T f) → T ≠ 25 → T ≠ 94 → ¬ (g = p ∨ outV.ownBlock = some g) := by
    rintro g c T f hgc hT hT' (rfl | e)
    · exact ne_types hgc h.bp hT' rfl
    · exact hty g c T f hgc hT e.symm
  obtain ⟨fc, fz, fs, _, ⟨c1, b1, t1⟩, ⟨c2, b2, t2⟩, c3, b3, t3⟩ := h.sf.ex
  refine ⟨⟨?_, h.sf.kept hk (hno _ _ _ _ b1 (by decide) (by decide)) (hno _ _ _ _ b2 (by decide) (by decide)) (hno _ _ _ _ b3 (by decide) (by decide)) rfl rfl rfl, h.sh.kept hk (fun g cur hgc => hno _ _ _ _ hgc (by decide) (by decide)), ?_, h.b0, h.b1, h.b2, h.b3, ?_, h.b4⟩, ?_⟩
  · rw [heap_set_same hp']; rfl
  · show (w'.setCell ⟨p, 42, none⟩ v').ownsRow base _ 4 v' (st.out ++ [r]).length (rcells (st.out ++ [r]))
    rw [rcells_snoc, List.length_append]
    obtain ⟨o1, o2⟩ := ho
    refine ⟨by simpa using o1, ?_⟩
    rcases o2 with o2 | ⟨g, cap, cur, hv, hge, hh, r1⟩
    · exact absurd o2.2 (by omega)
    · refine .inr ⟨g, cap, cur, by simpa using hv, hge, ?_, by simpa using r1⟩
      rw [heap_set_ne (ne_types hh hp' (by decide))]
      exact hh
  · refine (hk.block _ (lt_of_heap h.mp) ?_).trans h.mp
    rintro (e | e)
    · exact ne_map h.mp h.bp e
    · obtain ⟨cur, hc⟩ := hob _ e
      exact ne_map h.mp hc rfl
  · refine ⟨⟨hk.os, hk.tape, hk.output, hk.size, fun i hi => hk.block i (by have := h.b0; omega) ?_⟩, fun g c hg => (hk.block g (lt_of_heap hg) (hno g c _ _ hg (by decide) (by decide))).trans hg⟩
    rintro (e | e)
    · have := h.b0; omega
    · obtain ⟨_, o2⟩ := h.out
      rcases o2 with ⟨rfl, _⟩ | ⟨g, cap, cur, rfl, hge, _⟩
      · simp [Value.ownBlock] at e
      · simp [Value.ownBlock] at e; omega
theorem Dr.pcell (h : Dr base w p cB zB sB A n s k ways shV outV st) (hg : w.grownBy w' outV.ownBlock) : w'.heap[p]? = some (.cells (xcells st s k ways cB zB sB A n shV outV) 94 (0, 0)) := by
  refine (hg.block p (lt_of_heap h.bp) ?_).trans h.bp
  intro e
  obtain ⟨cur, hc⟩ := owns_block h.out p e.symm
  exact ne_types h.bp hc (by decide) rfl
end

section
variable (base : Nat) (p cB zB sB A n : Nat) (s : ByteArray) (k : Int) (ways : Wy) (shV outV : Value) (st : St) (w : World)

def RepPost (r : Rep) (e : Ending) (w' : World) : Prop := e = .returned (.tuple #[]) ∧ ∃ v', Dr base w' p cB zB sB A n s k ways shV v' { st with out := st.out ++ [r] } ∧ Low base w w'

set_option maxRecDepth 100000 in
set_option maxHeartbeats 400000 in
theorem reply_in (h : Dr base w p cB zB sB A n s k ways shV outV st) (r : Rep) (hlen : st.out.length ≤ 1000000000000) :
    Calls Tryz.prog 96 #[.pointer (some ⟨p, 0, none⟩), .agg #[.int .i64 r.k, .int .i64 r.a, .int .i64 r.b, .int .i64 r.c]] w (RepPost base p cB zB sB A n s k ways shV st w r) := by
  have cp := cell_of h.bp
  simp only [xcells] at cp
  have fp := frozen_of h.bp
  have lp := lt_of_heap h.bp
  obtain ⟨i0, hi, hz0, hz1, hz2⟩ := info_parts Tryz.infoReply
  have hbs : base ≤ w.heap.size := by have := h.b0; omega
  have HO : Hid (w.ownsRow base 25 4 outV st.out.length (rcells st.out)) := h.out
  have HD : Hid (Dr base w p cB zB sB A n s k ways shV outV st) := h
  clear h
  go_enter Tryz.func96, Tryz.ntmps96
  go_wp2_with fail
  go_region_law (refine step_append_own rfl (.tmp 8) (.tmp 10) 22 rfl base 25 i0 _ 4 32 Tryz.underlying22 hi hz0 hz1 hz2 rfl (by decide) outV st.out.length (rcells st.out) (by simp [Act.eval]) (by exact (HD.out.frame below2.drew).out) ⟨w.heap.size + 1, 0, none⟩ 1 1 [.int .i64 r.k, .int .i64 r.a, .int .i64 r.b, .int .i64 r.c] (by simp [Act.eval]) rfl (by exact lit4d (w.alloc _) _ _ _ _ _ _ (by simp)) (one4 _ _ _ _) (by unfold maxLen; omega) (by omega) (Nat.le_trans hbs (by exact below2.drew.size)) ?_; intro v' w' hown' hgrow'; obtain ⟨g, cap', rfl⟩ := owned_form hown'; have hpp := (HD.out.frame below2.drew).pcell hgrow'; have cp' := cell_of hpp; simp only [xcells] at cp'; have fp' := frozen_of hpp)
  all_goals
    have P := (HD.out.frame below2.drew).push (r := r) hgrow' hown'
    clear hown' hgrow' hpp cp' fp'
    go_wp2_with fail
    go_end0
    exact ⟨rfl, _, P.1, (HD.out.lowOf below2.drew).trans P.2⟩
end
end Go.Proofs.YthcikinkicpicaaGreatDoor

namespace Go.Proofs.YthcikinkicpicaaGreatDoor
open Go.RowKit
section
variable (base : Nat) (p cB zB sB A n : Nat) (s : ByteArray) (k : Int) (ways : Wy) (shV outV : Value) (st : St) (w : World)

theorem count_on {q : Qry} (h : q.on = true) : count q = { q with n := q.n + 1 } := by simp [count, h]
theorem count_off {q : Qry} (h : q.on = false) : count q = q := by simp [count, h]
theorem count_ev (q : Qry) : (count q).ever = q.ever := by unfold count; split <;> rfl
theorem count_o (q : Qry) : (count q).on = q.on := by unfold count; split <;> rfl

set_option maxRecDepth 100000 in
set_option maxHeartbeats 1000000 in
theorem countOne_in (h : Dr base w p cB zB sB A n s k ways shV outV st) (hq : st.qs.length = 4) (hn : ∀ q ∈ st.qs, 0 ≤ q.n ∧ q.n ≤ 1000000000000000) :
    Calls Tryz.prog 151 #[.pointer (some ⟨p, 29, none⟩)] w fun e w' => e = .returned (.tuple #[]) ∧ Dr base w' p cB zB sB A n s k ways shV outV { st with qs := st.qs.map count } ∧ Kept (· = p) w w' := by
  obtain ⟨q0, q1, q2, q3, hqs⟩ := four st hq
  have m0 := hn q0 (by rw [hqs]; simp)
  have m1 := hn q1 (by rw [hqs]; simp)
  have m2 := hn q2 (by rw [hqs]; simp)
  have m3 := hn q3 (by rw [hqs]; simp)
  have HD : Hid (Dr base w p cB zB sB A n s k ways shV outV st) := h
  have HE : Hid (∀ w', w'.heap[p]? = some (.cells (xcells { st with qs := [count q0, count q1, count q2, count q3] } s k ways cB zB sB A n shV outV) 94 (0, 0)) → Kept (· = p) w w' → Dr base w' p cB zB sB A n s k ways shV outV { st with qs := st.qs.map count } ∧ Kept (· = p) w w') := by
    intro w' hw hk
    refine ⟨HD.out.put ?_ hk rfl rfl rfl rfl rfl, hk⟩
    rw [hw, hqs]; rfl
  have HB : Hid (w.heap[p]? = some (.cells (xcells { st with qs := [q0, q1, q2, q3] } s k ways cB zB sB A n shV outV) 94 (0, 0))) := by
    show _ = _
    rw [h.bp]; simp [xcells, qAt, hqs]
  clear h hn hqs hq HD
  go_enter Tryz.func151, Tryz.ntmps151
  go_wp2_with fail
  go_loopg [3] 4 (fun m i wr => ∃ j : Nat, j + m = 4 ∧ i = .int .i64 j ∧ Kept (· = p) w wr ∧ wr.heap[p]? = some (.cells (xcells { st with qs := (if j = 0 then [q0, q1, q2, q3] else if j = 1 then [count q0, q1, q2, q3] else if j = 2 then [count q0, count q1, q2, q3] else if j = 3 then [count q0, count q1, count q2, q3] else [count q0, count q1, count q2, count q3]) } s k ways cB zB sB A n shV outV) 94 (0, 0)))
  case atStart => exact ⟨0, rfl, rfl, Kept.refl _ _, HB.out⟩
  case round =>
    obtain ⟨j, hj, rfl, hk, hb⟩ := hrel
    have hj' : j = 0 ∨ j = 1 ∨ j = 2 ∨ j = 3 ∨ j = 4 := by omega
    clear HB
    rcases hj' with rfl | rfl | rfl | rfl | rfl
    · obtain rfl : gk = 4 := by omega
      have HB : Hid (wr.heap[p]? = some (.cells (xcells { st with qs := [q0, q1, q2, q3] } s k ways cB zB sB A n shV outV) 94 (0, 0))) := hb
      have HK : Hid (Kept (· = p) w wr) := hk
      have cp := cell_of HB.out
      have fp := frozen_of HB.out
      simp only [xcells, qAt, List.getD_cons_zero, List.getD_cons_succ] at cp
      clear hb hk
      cases hon : q0.on
      · have hcz := count_off hon
        simp only [hon] at cp
        go_wp2_with fail
        go_roundg 3
        case rel => exact ⟨1, by omega, by go_num, HK.out, by rw [HB.out]; simp [hcz]⟩
        case measure => omega
      · have hcz := count_on hon
        simp only [hon] at cp
        have hw : IntKind.i64.wrap (q0.n + 1) = q0.n + 1 := k64 (by omega)
        go_wp2_with fail
        go_region
        all_goals
          go_wp2_with fail
          go_roundg 3
          case rel =>
            refine ⟨1, by omega, by go_num, (HK.out.trans (kept_set1 p _ _)).drew, ?_⟩
            refine (heap_set_same HB.out 31 (.int .i64 (q0.n + 1))).trans ?_
            simp [xcells, qAt, hcz]
          case measure => omega
    · obtain rfl : gk = 3 := by omega
      have HB : Hid (wr.heap[p]? = some (.cells (xcells { st with qs := [count q0, q1, q2, q3] } s k ways cB zB sB A n shV outV) 94 (0, 0))) := hb
      have HK : Hid (Kept (· = p) w wr) := hk
      have cp := cell_of HB.out
      have fp := frozen_of HB.out
      simp only [xcells, qAt, List.getD_cons_zero, List.getD_cons_succ] at cp
      clear hb hk
      cases hon : q1.on
      · have hcz := count_off hon
        simp only [hon] at cp
        go_wp2_with fail
        go_roundg 2
        case rel => exact ⟨2, by omega, by go_num, HK.out, by rw [HB.out]; simp [hcz]⟩
        case measure => omega
      · have hcz := count_on hon
        simp only [hon] at cp
        have hw : IntKind.i64.wrap (q1.n + 1) = q1.n + 1 := k64 (by omega)
        go_wp2_with fail
        go_region
        all_goals
          go_wp2_with fail
          go_roundg 2
          case rel =>
            refine ⟨2, by omega, by go_num, (HK.out.trans (kept_set1 p _ _)).drew, ?_⟩
            refine (heap_set_same HB.out 34 (.int .i64 (q1.n + 1))).trans ?_
            simp [xcells, qAt, hcz]
          case measure => omega
    · obtain rfl : gk = 2 := by omega
      have HB : Hid (wr.heap[p]? = some (.cells (xcells { st with qs := [count q0, count q1, q2, q3] } s k ways cB zB sB A n shV outV) 94 (0, 0))) := hb
      have HK : Hid (Kept (· = p) w wr) := hk
      have cp := cell_of HB.out
      have fp := frozen_of HB.out
      simp only [xcells, qAt, List.getD_cons_zero, List.getD_cons_succ] at cp
      clear hb hk
      cases hon : q2.on
      · have hcz := count_off hon
        simp only [hon] at cp
        go_wp2_with fail
        go_roundg 1
        case rel => exact ⟨3, by omega, by go_num, HK.out, by rw [HB.out]; simp [hcz]⟩
        case measure => omega
      · have hcz := count_on hon
        simp only [hon] at cp
        have hw : IntKind.i64.wrap (q2.n + 1) = q2.n + 1 := k64 (by omega)
        go_wp2_with fail
        go_region
        all_goals
          go_wp2_with fail
          go_roundg 1
          case rel =>
            refine ⟨3, by omega, by go_num, (HK.out.trans (kept_set1 p _ _)).drew, ?_⟩
            refine (heap_set_same HB.out 37 (.int .i64 (q2.n + 1))).trans ?_
            simp [xcells, qAt, hcz]
          case measure => omega
    · obtain rfl : gk = 1 := by omega
      have HB : Hid (wr.heap[p]? = some (.cells (xcells { st with qs := [count q0, count q1, count q2, q3] } s k ways cB zB sB A n shV outV) 94 (0, 0))) := hb
      have HK : Hid (Kept (· = p) w wr) := hk
      have cp := cell_of HB.out
      have fp := frozen_of HB.out
      simp only [xcells, qAt, List.getD_cons_zero, List.getD_cons_succ] at cp
      clear hb hk
      cases hon : q3.on
      · have hcz := count_off hon
        simp only [hon] at cp
        go_wp2_with fail
        go_roundg 0
        case rel => exact ⟨4, by omega, by go_num, HK.out, by rw [HB.out]; simp [hcz]⟩
        case measure => omega
      · have hcz := count_on hon
        simp only [hon] at cp
        have hw : IntKind.i64.wrap (q3.n + 1) = q3.n + 1 := k64 (by omega)
        go_wp2_with fail
        go_region
        all_goals
          go_wp2_with fail
          go_roundg 0
          case rel =>
            refine ⟨4, by omega, by go_num, (HK.out.trans (kept_set1 p _ _)).drew, ?_⟩
            refine (heap_set_same HB.out 40 (.int .i64 (q3.n + 1))).trans ?_
            simp [xcells, qAt, hcz]
          case measure => omega
    · obtain rfl : gk = 0 := by omega
      go_wp2_with fail
      go_end0
      exact ⟨rfl, HE.out _ hb hk⟩
end
end Go.Proofs.YthcikinkicpicaaGreatDoor
