import Derived.Test.YthcikinkicpicaaGreatDoorA21
import Derived.Test.YthcikinkicpicaaGreatDoorA25
import Derived.Test.YthcikinkicpicaaGreatDoorA06
import Derived.Sort.LoopGhostIn

namespace Go.Proofs.YthcikinkicpicaaGreatDoor
open Go.RowKit Go.ChangeMaps Go.WideMaps Go.WideElems

/-- The row of a tile. -/
def rowV : List Ent → Nat × Nat → Value
  | [], _ => .slice none 0 0
  | e :: L, k => if e.key = k then e.v else rowV L k
theorem rowV_none : ∀ (L : List Ent) (k : Nat × Nat), (∀ e ∈ L, e.key ≠ k) → rowV L k = .slice none 0 0
  | [], _, _ => rfl
  | e :: L, k, h => by
    rw [rowV, if_neg (h e List.mem_cons_self)]
    exact rowV_none L k (fun x hx => h x (List.mem_cons_of_mem _ hx))
theorem rowV_at : ∀ (A : List Ent) (e : Ent) (B : List Ent) (k : Nat × Nat), (∀ x ∈ A, x.key ≠ k) → e.key = k → rowV (A ++ e :: B) k = e.v
  | [], _, _, _, _, h => if_pos h
  | a :: A, e, B, k, h, h' => by
    rw [List.cons_append, rowV, if_neg (h a List.mem_cons_self)]
    exact rowV_at A e B k (fun x hx => h x (List.mem_cons_of_mem _ hx)) h'

section
variable {base : Nat} {w w' : World} {es : Array MapEntry} {ck : Nat} {L : List Ent}

theorem lookup_run {m : Nat} (hm : w.heap[m]? = some (.map es ck)) (hB : Bins base w es ck L) (k : Nat × Nat) (hx : k.1 ≤ 1000) (hy : k.2 ≤ 1000) :
    (Instr.lookup 92 (.map (some m)) (keyV k) false).run Tryz.prog w = .ok (rowV L k) w := by
  obtain ⟨kl, hkey⟩ := key_box k.1 k.2 (by omega) (by omega) (by omega) (by omega)
  have hkey' : keyOf Tryz.prog 66 (keyV k) = some kl := hkey
  have hkeys : ∀ x ∈ es.toList, ∃ l, keyOf Tryz.prog 66 x.key = some l := by
    intro x hx'
    rw [hB.es] at hx'
    obtain ⟨e, he, rfl⟩ := List.mem_map.1 hx'
    have := (hB.ok e he).x
    have := (hB.ok e he).y
    exact key_box e.kx e.ky (by omega) (by omega) (by omega) (by omega)
  rcases Tryz.lawBox.find w hkey' es.toList hkeys with ⟨h1, h2⟩ | ⟨j, e0, h1, h2, h3⟩
  · have hno : ∀ e ∈ L, e.key ≠ k := by
      intro e he hk
      refine h2 e.me (by rw [hB.es]; exact List.mem_map_of_mem he) ?_
      show keyV e.key = keyV k
      rw [hk]
    rw [rowV_none L k hno]
    simp [Instr.lookup, run_underlying Tryz.underlying92, MapKept.run_getObj_map hm, Tryz.lawBox.check w _ hkey', h1, Result.andThen]
  · obtain ⟨A, e, B, rfl, hk, hA⟩ | hno := ent_split L k
    · have he0 : e0.val = e.v := by
        rw [hB.es] at h2
        obtain ⟨e', he', rfl⟩ := List.mem_map.1 (List.mem_of_getElem? h2)
        have e1 : e'.key = k := keyV_inj h3
        have hee : e' = e := by
          have hP := hB.ap
          by_cases hc : e' = e
          · exact hc
          · exfalso
            rw [List.pairwise_append] at hP
            rcases List.mem_append.1 he' with g | g
            · exact hA e' g e1
            · rcases List.mem_cons.1 g with g | g
              · exact hc g
              · exact ((List.pairwise_cons.1 hP.2.1).1 e' g).1 (hk.trans e1.symm)
        rw [hee]; rfl
      rw [rowV_at A e B k hA hk]
      simp [Instr.lookup, run_underlying Tryz.underlying92, MapKept.run_getObj_map hm, Tryz.lawBox.check w _ hkey', h1, he0, Result.andThen]
    · exfalso
      rw [hB.es] at h2
      obtain ⟨e', he', rfl⟩ := List.mem_map.1 (List.mem_of_getElem? h2)
      exact hno e' he' (keyV_inj h3)

/-- A tile's row, as a walk meets it. -/
theorem Bins.rowAt (hB : Bins base w es ck L) (k : Nat × Nat) : ∃ ad cap, rowV L k = .slice ad (binL L k).length cap ∧ (ad = none → binL L k = []) ∧ ∀ a, ad = some a → ∃ g, a = ⟨g, 0, none⟩ ∧ ∀ i q, (binL L k)[i]? = some q → w.cell? ⟨g, i, none⟩ = some (ptrT q) := by
  obtain ⟨A, e, B, rfl, hk, hA⟩ | hno := ent_split L k
  · rw [rowV_at A e B k hA hk, binL_at A e B k hA, if_pos hk]
    obtain ⟨o1, o2⟩ := (hB.ok e (by simp)).row
    rcases o2 with ⟨o2, o3⟩ | ⟨g, cap, cur, hv, hge, hh, hn, hc, hs, ht⟩
    · exact ⟨none, 0, by rw [o2, o3], fun _ => List.length_eq_zero_iff.1 o3, (fun a h => by cases h)⟩
    · refine ⟨some ⟨g, 0, none⟩, cap, hv, (fun h => by cases h), fun a ha => ⟨g, (Option.some.inj ha).symm, fun i q hi => ?_⟩⟩
      rw [cell_of hh]
      have hil : i < e.qs.length := (List.getElem?_eq_some_iff.1 hi).1
      have h1 : (e.qs.map ptrT)[i]? = some (ptrT q) := by rw [List.getElem?_map, hi]; rfl
      rw [← ht, List.getElem?_take, if_pos (by omega)] at h1
      simpa using h1
  · rw [rowV_none L k hno, binL_none L k hno]
    exact ⟨none, 0, rfl, fun _ => rfl, (fun a h => by cases h)⟩

theorem Bins.trAt (hB : Bins base w es ck L) {k : Nat × Nat} {q : Nat × Tr} (hq : q ∈ binL L k) : w.heap[q.1]? = some (.cells (trT q.2) 165 (0, 0)) := by
  obtain ⟨A, e, B, rfl, hk, hA⟩ | hno := ent_split L k
  · rw [binL_at A e B k hA, if_pos hk] at hq
    exact (hB.ok e (by simp)).tri q hq
  · rw [binL_none L k hno] at hq; cases hq

theorem Bins.nil (hB : Bins base w es ck L) (h : es.size = 0) : L = [] := by
  have := congrArg List.length hB.es
  rw [List.length_map, Array.length_toList, h] at this
  exact List.length_eq_zero_iff.1 this.symm
theorem bins_empty (base : Nat) (w : World) (ck : Nat) : Bins base w #[] ck [] := ⟨rfl, (fun e he => by cases he), List.Pairwise.nil⟩
end

/-- The triangles that wait in a tile. -/
def binT (L : List Ent) (k : Int × Int) : List Tr := (binL L (k.1.toNat, k.2.toNat)).map (·.2)
/-- The window's tiles. -/
def winT (st : St) : List (Int × Int) := if st.ww = 0 ∨ st.wh = 0 then [] else winTiles st.wx st.wy st.ww st.wh

theorem TileIn.same {st st' : St} {bd : Bool} {t : Tr} {kx ky : Nat} (h : TileIn st bd t kx ky) (h1 : st'.wx = st.wx) (h2 : st'.wy = st.wy) (h3 : st'.ww = st.ww) (h4 : st'.wh = st.wh) : TileIn st' bd t kx ky := by
  have e : partBx bd st' t ((kx : Int), (ky : Int)) = partBx bd st t ((kx : Int), (ky : Int)) := by
    unfold partBx lookBx winBx; rw [h1, h2, h3, h4]
  exact ⟨h.ax, h.ay, by rw [e]; exact h.c1, by rw [e]; exact h.r1⟩

theorem tileOp_same (wx wy ww wh : Int) (t : Tr) (k : Int × Int) (s : St) : (tileOp wx wy ww wh t k s).W = s.W ∧ (tileOp wx wy ww wh t k s).H = s.H ∧ (tileOp wx wy ww wh t k s).T = s.T ∧ (tileOp wx wy ww wh t k s).wx = s.wx ∧ (tileOp wx wy ww wh t k s).wy = s.wy ∧ (tileOp wx wy ww wh t k s).ww = s.ww ∧ (tileOp wx wy ww wh t k s).wh = s.wh ∧ (tileOp wx wy ww wh t k s).sh = s.sh ∧ (tileOp wx wy ww wh t k s).out = s.out := by
  unfold tileOp
  generalize tilePx wx wy ww wh k = l
  induction l generalizing s with
  | nil => exact ⟨rfl, rfl, rfl, rfl, rfl, rfl, rfl, rfl, rfl⟩
  | cons p l ih =>
    rw [List.foldl_cons]
    have h := px_same t.a t.b t.c t.ar s p
    have h2 := ih (t.px s p)
    have e : t.px s p = s.px t.a t.b t.c t.ar p := rfl
    rw [e] at h2 ⊢
    simp only [h] at h2
    exact h2
end Go.Proofs.YthcikinkicpicaaGreatDoor

namespace Go.Proofs.YthcikinkicpicaaGreatDoor
open Go.RowKit Go.Shelf
attribute [local go_sem] Oper.semAt_some

section
variable (base p cB zB sB A n : Nat) (s : ByteArray) (k : Int) (ways : Wy) (shV outV : Value) (st : St) (w : World)

/-- What drawWaiting leaves. -/
def WaitPost (pl : Prop) (L : List Ent) (w' : World) : Prop :=
  (∃ st', Near pl (binsRun st.wx st.wy st.ww st.wh (binT L) (winT st) st) st' ∧ st.work ≤ st'.work ∧ Dr base w' p cB zB sB A n s k { ways with es := #[] } shV outV st') ∧ Kept (fun i => PS p cB zB sB i ∨ i = ways.m) w w'

/-- While the waiting triangles are drawn: the tiles of pre are done, and in tile key j triangles. -/
structure WtI (pl : Prop) (L : List Ent) (K : Int) (N : Nat) (pre : List (Int × Int)) (key : Int × Int) (j : Nat) (W : World) : Prop where
  dr : ∃ st', Near pl (tileOps st.wx st.wy st.ww st.wh ((binT L key).take j) key (binsRun st.wx st.wy st.ww st.wh (binT L) pre st)) st' ∧ st.work ≤ st'.work ∧ st'.Ok (K + 256 * (N * pre.length + j : Nat)) ∧ Dr base W p cB zB sB A n s k ways shV outV st'
  bn : Bins base W ways.es ways.ck L
  b0 : W.heap[w.heap.size]? = some (.cells #[.pointer (some ⟨p, 0, none⟩)] 61 (0, 0))
  kp : Kept (PS p cB zB sB) w W
end

section
variable {base p cB zB sB A n : Nat} {s : ByteArray} {k : Int} {ways : Wy} {shV outV : Value} {st : St} {w : World} {pl : Prop} {L : List Ent} {K : Int} {N : Nat} {pre : List (Int × Int)} {key : Int × Int} {j : Nat} {W : World}

theorem ops_same (wx wy ww wh : Int) (key : Int × Int) : ∀ (l : List Tr) (s : St), (tileOps wx wy ww wh l key s).W = s.W ∧ (tileOps wx wy ww wh l key s).H = s.H ∧ (tileOps wx wy ww wh l key s).wx = s.wx ∧ (tileOps wx wy ww wh l key s).wy = s.wy ∧ (tileOps wx wy ww wh l key s).ww = s.ww ∧ (tileOps wx wy ww wh l key s).wh = s.wh ∧ (tileOps wx wy ww wh l key s).sh = s.sh ∧ (tileOps wx wy ww wh l key s).out = s.out
  | [], _ => ⟨rfl, rfl, rfl, rfl, rfl, rfl, rfl, rfl⟩
  | t :: l, s => by
    have h := tileOp_same wx wy ww wh t key s
    have h2 := ops_same wx wy ww wh key l (tileOp wx wy ww wh t key s)
    simp only [h] at h2
    exact h2
theorem run_same (wx wy ww wh : Int) (bin : Int × Int → List Tr) : ∀ (l : List (Int × Int)) (s : St), (binsRun wx wy ww wh bin l s).W = s.W ∧ (binsRun wx wy ww wh bin l s).H = s.H ∧ (binsRun wx wy ww wh bin l s).wx = s.wx ∧ (binsRun wx wy ww wh bin l s).wy = s.wy ∧ (binsRun wx wy ww wh bin l s).ww = s.ww ∧ (binsRun wx wy ww wh bin l s).wh = s.wh ∧ (binsRun wx wy ww wh bin l s).sh = s.sh ∧ (binsRun wx wy ww wh bin l s).out = s.out
  | [], _ => ⟨rfl, rfl, rfl, rfl, rfl, rfl, rfl, rfl⟩
  | t :: l, s => by
    have h := ops_same wx wy ww wh t (bin t) s
    have h2 := run_same wx wy ww wh bin l (tileOps wx wy ww wh (bin t) t s)
    simp only [h] at h2
    exact h2

theorem Bins.sameHeap {es : Array MapEntry} {ck : Nat} {u : World} (h : Bins base W es ck L) (hu : u.heap = W.heap) : Bins base u es ck L :=
  ⟨h.es, fun e he => ⟨(h.ok e he).x, (h.ok e he).y, (h.ok e he).born, by have := (h.ok e he).row; unfold World.ownsRow at this ⊢; rw [hu]; exact this, fun q hq => by rw [hu]; exact (h.ok e he).tri q hq⟩, h.ap⟩

theorem Dr.notPS (h : Dr base w p cB zB sB A n s k ways shV outV st) {g : Nat} {cur : Array Value} {T : TypeId} (hg : w.heap[g]? = some (.cells cur T (0, 0))) (hT : T = 132 ∨ T = 165) : ¬ PS p cB zB sB g := by
  obtain ⟨_, _, _, _, ⟨c1, b1, t1⟩, ⟨c2, b2, t2⟩, c3, b3, t3⟩ := h.sf.ex
  rintro (rfl | rfl | rfl | rfl)
  · exact ne_types hg h.bp (by rcases hT with rfl | rfl <;> decide) rfl
  · exact ne_types hg b1 (by rcases hT with rfl | rfl <;> decide) rfl
  · exact ne_types hg b2 (by rcases hT with rfl | rfl <;> decide) rfl
  · exact ne_types hg b3 (by rcases hT with rfl | rfl <;> decide) rfl

/-- What turns blocks that are no cells and no map turns nothing of the drawer. -/
theorem Dr.keptD {w' : World} {S : Nat → Prop} (h : Dr base w p cB zB sB A n s k ways shV outV st) (hk : Kept S w w') (hS : ∀ g, S g → ∃ x, w.heap[g]? = some (.deferred x)) : Dr base w' p cB zB sB A n s k ways shV outV st := by
  have no : ∀ {g : Nat} {cu : Array Value} {T : TypeId}, w.heap[g]? = some (.cells cu T (0, 0)) → ¬ S g := by
    intro g cu T hg hs
    obtain ⟨x, hx⟩ := hS g hs
    rw [hg] at hx; cases hx
  obtain ⟨fc, fz, fs, _, ⟨c1, b1, t1⟩, ⟨c2, b2, t2⟩, c3, b3, t3⟩ := h.sf.ex
  refine ⟨(hk.block _ (lt_of_heap h.bp) (no h.bp)).trans h.bp, h.sf.kept hk (no b1) (no b2) (no b3) rfl rfl rfl, h.sh.kept hk (fun g cur hg => no hg), owns_kept h.out hk (fun g cur hg => no hg), h.b0, h.b1, h.b2, h.b3, (hk.block _ (lt_of_heap h.mp) (fun hs => ?_)).trans h.mp, h.b4⟩
  obtain ⟨x, hx⟩ := hS _ hs
  rw [h.mp] at hx; cases hx

/-- The map alone turns. -/
theorem Dr.setMap {w' : World} (h : Dr base w p cB zB sB A n s k ways shV outV st) (hk : Kept (· = ways.m) w w') (es' : Array MapEntry) (ck' : Nat) (hm : w'.heap[ways.m]? = some (.map es' ck')) : Dr base w' p cB zB sB A n s k { ways with es := es', ck := ck' } shV outV st := by
  obtain ⟨fc, fz, fs, _, ⟨c1, b1, t1⟩, ⟨c2, b2, t2⟩, c3, b3, t3⟩ := h.sf.ex
  have no : ∀ {g : Nat} {cu : Array Value} {T : TypeId}, w.heap[g]? = some (.cells cu T (0, 0)) → ¬ (g = ways.m) := fun hg e => ne_map h.mp hg e.symm
  exact ⟨(hk.block _ (lt_of_heap h.bp) (no h.bp)).trans h.bp, h.sf.kept hk (no b1) (no b2) (no b3) rfl rfl rfl, h.sh.kept hk (fun g cur hg => no hg), owns_kept h.out hk (fun g cur hg => no hg), h.b0, h.b1, h.b2, h.b3, hm, h.b4⟩

theorem winT_mem {K : Int} (hok : st.Ok K) {t : Int × Int} (ht : t ∈ winT st) : ∃ kx ky : Nat, t = ((kx : Int), (ky : Int)) ∧ kx % 4 = 0 ∧ ky % 4 = 0 ∧ kx ≤ 100 ∧ ky ≤ 100 := by
  have h0 := hok.wx0; have h1 := hok.wy0; have h2 := hok.wx1; have h3 := hok.wy1; have h4 := hok.W1; have h5 := hok.H1; have h6 := hok.ww0; have h7 := hok.wh0
  unfold winT at ht
  split at ht
  · cases ht
  · unfold winTiles at ht
    rw [mem_tilesL] at ht
    obtain ⟨⟨j, hj, ej⟩, i, hi, ei⟩ := ht
    refine ⟨t.1.toNat, t.2.toNat, Prod.ext (by show t.1 = _; omega) (by show t.2 = _; omega), by omega, by omega, by omega, by omega⟩
theorem winT_len {K : Int} (hok : st.Ok K) : (winT st).length ≤ 36 := by
  unfold winT
  split
  · simp
  · have h2 := hok.wx1; have h3 := hok.wy1; have h4 := hok.W1; have h5 := hok.H1
    exact winTiles_length _ _ _ _ hok.wx0 hok.wy0 (by omega) (by omega)

theorem WtI.under {B : World} (h : Dr base w p cB zB sB A n s k ways shV outV st) (hbn : Bins base w ways.es ways.ck L) (hi : WtI base p cB zB sB A n s k ways shV outV st w pl L K N pre key j W) (m : Nat) (hm : w.heap.size + 1 ≤ m) (hb : Below m W B) :
    WtI base p cB zB sB A n s k ways shV outV st w pl L K N pre key j B := by
  obtain ⟨⟨st', hn, hw, hok, hd⟩, _, b0, kp⟩ := hi
  have h1 := run_same st.wx st.wy st.ww st.wh (binT L) pre st
  have h2 := ops_same st.wx st.wy st.ww st.wh key ((binT L key).take j) (binsRun st.wx st.wy st.ww st.wh (binT L) pre st)
  have hns := hn.same
  have kpB : Kept (PS p cB zB sB) w B := ⟨hb.os.trans kp.os, hb.tape.trans kp.tape, hb.output.trans kp.output, Nat.le_trans kp.size hb.size, fun i hi hs' => (hb.block i (by omega)).trans (kp.block i hi hs')⟩
  exact ⟨⟨st', hn, hw, hok, h.under hd (hns.2.2.2.2.2.2.2.2.1.trans (h2.2.2.2.2.2.2.1.trans h1.2.2.2.2.2.2.1)) (hns.2.2.2.2.2.2.2.2.2.2.trans (h2.2.2.2.2.2.2.2.trans h1.2.2.2.2.2.2.2)) kpB (fun i hi => hb.block i (by omega))⟩, hbn.kept kpB (fun g cur T hg hT => h.notPS hg hT), (hb.block _ (by omega)).trans b0, kpB⟩

/-- A tile is done. -/
theorem WtI.close (hi : WtI base p cB zB sB A n s k ways shV outV st w pl L K N pre key j W) (hj : j = (binT L key).length) (hjN : j ≤ N) (key' : Int × Int) : WtI base p cB zB sB A n s k ways shV outV st w pl L K N (pre ++ [key]) key' 0 W := by
  obtain ⟨⟨st', hn, hw, hok, hd⟩, bn, b0, kp⟩ := hi
  refine ⟨⟨st', ?_, hw, ?_, hd⟩, bn, b0, kp⟩
  · have e : tileOps st.wx st.wy st.ww st.wh ((binT L key').take 0) key' (binsRun st.wx st.wy st.ww st.wh (binT L) (pre ++ [key]) st) = tileOps st.wx st.wy st.ww st.wh ((binT L key).take j) key (binsRun st.wx st.wy st.ww st.wh (binT L) pre st) := by
      rw [List.take_zero, hj, List.take_length]
      unfold binsRun
      rw [List.foldl_append]
      rfl
    rw [e]; exact hn
  · refine Ok_mono hok ?_
    rw [List.length_append, List.length_singleton, Nat.mul_add, Nat.mul_one]
    omega

set_option maxHeartbeats 400000 in
/-- A triangle that waits is drawn. -/
theorem WtI.step (hpl : pl → ∀ x, useB ways.v x = false) (hst : Dr base w p cB zB sB A n s k ways shV outV st) (hK : K + 9216 * N + 300 ≤ 1000000000000000) (hpre : pre.length ≤ 35) {kx ky : Nat} (hk : key = ((kx : Int), (ky : Int))) {q : Nat × Tr} (hq : (binL L (kx, ky))[j]? = some q) (hjN : j < N)
    (hto : q.2.Ok) (htl : TileIn st (useB ways.v 128) q.2 kx ky) (hi : WtI base p cB zB sB A n s k ways shV outV st w pl L K N pre key j W) :
    Calls Tryz.prog 68 #[.pointer (some ⟨p, 0, none⟩), .pointer (some ⟨q.1, 0, none⟩), boxV kx ky 4 4] W fun e W' => e = .returned (.tuple #[]) ∧ WtI base p cB zB sB A n s k ways shV outV st w pl L K N pre key (j + 1) W' ∧ Kept (PS p cB zB sB) W W' := by
  obtain ⟨⟨st', hn, hw, hok, hd⟩, bn, b0, kp⟩ := hi
  have h1 := run_same st.wx st.wy st.ww st.wh (binT L) pre st
  have h2 := ops_same st.wx st.wy st.ww st.wh key ((binT L key).take j) (binsRun st.wx st.wy st.ww st.wh (binT L) pre st)
  have hns := hn.same
  have ewx : st'.wx = st.wx := hns.2.2.2.2.1.trans (h2.2.2.1.trans h1.2.2.1)
  have ewy : st'.wy = st.wy := hns.2.2.2.2.2.1.trans (h2.2.2.2.1.trans h1.2.2.2.1)
  have eww : st'.ww = st.ww := hns.2.2.2.2.2.2.1.trans (h2.2.2.2.2.1.trans h1.2.2.2.2.1)
  have ewh : st'.wh = st.wh := hns.2.2.2.2.2.2.2.1.trans (h2.2.2.2.2.2.1.trans h1.2.2.2.2.2.1)
  have hqm : q ∈ binL L (kx, ky) := List.mem_of_getElem? hq
  have hqh := bn.trAt hqm
  have hNp : N * pre.length ≤ N * 35 := Nat.mul_le_mul_left _ hpre
  refine (drawTile_in base p cB zB sB A n s k ways shV outV st' q.1 q.2 W pl hpl _ hd hok (by omega) hto hqh kx ky (htl.same ewx ewy eww ewh)).mono ?_
  rintro e W' ⟨rfl, ⟨st2, hn2, hw2, hd2⟩, hk2⟩
  rw [ewx, ewy, eww, ewh] at hn2
  have hw0 := hok.work0
  have hto2 : (tileOp st.wx st.wy st.ww st.wh q.2 ((kx : Int), (ky : Int)) st').Ok (K + 256 * (N * pre.length + j : Nat) + 16 * (tilePx st.wx st.wy st.ww st.wh ((kx : Int), (ky : Int))).length) :=
    fold_ok q.2.a q.2.b q.2.c q.2.ar hto.a hto.b hto.c hto.ar hto.pos _ st' _ hok
  have hlen := tilePx_length st.wx st.wy st.ww st.wh ((kx : Int), (ky : Int))
  refine ⟨rfl, ⟨⟨st2, ?_, by omega, Ok_mono (hn2.ok hto2 (by omega)) (by omega), hd2⟩, bn.kept hk2 ?_, (hk2.block _ (lt_of_heap b0) (fun e => by have := ps_lt hst _ e; omega)).trans b0, kp.trans hk2⟩, hk2⟩
  · have hqT : (binT L key)[j]? = some q.2 := by
      unfold binT
      rw [hk]
      show ((binL L (((kx : Int)).toNat, ((ky : Int)).toNat)).map (·.2))[j]? = _
      rw [Int.toNat_natCast, Int.toNat_natCast, List.getElem?_map, hq]; rfl
    have e : tileOps st.wx st.wy st.ww st.wh ((binT L key).take (j + 1)) key (binsRun st.wx st.wy st.ww st.wh (binT L) pre st) = tileOp st.wx st.wy st.ww st.wh q.2 key (tileOps st.wx st.wy st.ww st.wh ((binT L key).take j) key (binsRun st.wx st.wy st.ww st.wh (binT L) pre st)) := by
      rw [List.take_add_one, hqT]
      unfold tileOps
      rw [List.foldl_append]
      rfl
    rw [e]
    rw [hk] at hn ⊢
    exact (hn.tileOp q.2 _).trans hn2
  · intro g cur T hg hT
    obtain ⟨_, _, _, _, ⟨c1, b1, t1⟩, ⟨c2, b2, t2⟩, c3, b3, t3⟩ := hd.sf.ex
    rintro (rfl | rfl | rfl | rfl)
    · exact ne_types hg hd.bp (by rcases hT with rfl | rfl <;> decide) rfl
    · exact ne_types hg b1 (by rcases hT with rfl | rfl <;> decide) rfl
    · exact ne_types hg b2 (by rcases hT with rfl | rfl <;> decide) rfl
    · exact ne_types hg b3 (by rcases hT with rfl | rfl <;> decide) rfl
end

section
variable (base p cB zB sB A n : Nat) (s : ByteArray) (k : Int) (ways : Wy) (shV outV : Value) (st : St) (w : World)

theorem Tryz.lenMap (m : Nat) (es : Array MapEntry) (ck : Nat) (w : World) (hm : w.heap[m]? = some (.map es ck)) : (Builtin.len_ #[92] 3 #[.map (some m)]).run Tryz.prog w = .ok (.int .i64 es.size) w := by
  simp [Builtin.len_, run_underlying Tryz.underlying92, MapKept.run_getObj_map hm, Result.andThen, goInt]
theorem Tryz.clearMap (m : Nat) (es : Array MapEntry) (ck : Nat) (w : World) (T : TypeId) (hm : w.heap[m]? = some (.map es ck)) : (Builtin.clear_ #[92] T #[.map (some m)]).run Tryz.prog w = .ok (.tuple #[]) { w with heap := w.heap.setIfInBounds m (.map #[] ck) } := by
  simp [Builtin.clear_, run_underlying Tryz.underlying92, MapKept.run_getObj_map hm, MapKept.run_setObj_map _ hm, Result.andThen]

set_option maxRecDepth 100000 in
set_option maxHeartbeats 1000000 in
theorem drawWaiting_in (pl : Prop) (hpl : pl → ∀ x, useB ways.v x = false) (K : Int) (N : Nat) (L : List Ent) (h : Dr base w p cB zB sB A n s k ways shV outV st) (hB : Bins base w ways.es ways.ck L) (hok : st.Ok K) (hK : K + 9216 * N + 300 ≤ 1000000000000000)
    (hN : ∀ j, (binL L j).length ≤ N) (hW : ∀ j, ∀ q ∈ binL L j, q.2.Ok ∧ TileIn st (useB ways.v 128) q.2 j.1 j.2) :
    Calls Tryz.prog 38 #[.pointer (some ⟨p, 0, none⟩)] w fun e w' => e = .returned (.tuple #[]) ∧ WaitPost base p cB zB sB A n s k ways shV outV st w pl L w' := by
  have lp := lt_of_heap h.bp
  have c41 : ∀ ob, (w.alloc ob).cell? ⟨p, 41, none⟩ = some (.map (some ways.m)) := fun ob => (World.cell?_alloc_past _ _ _ lp).trans (cell_of h.bp 41)
  have lm := lt_of_heap h.mp
  by_cases he : ways.es.size = 0
  · have hL := hB.nil he
    have hes : ways.es = #[] := Array.eq_empty_of_size_eq_zero he
    have HE : Hid (∀ w', Below w.heap.size w w' → WaitPost base p cB zB sB A n s k ways shV outV st w pl L w') := by
      intro w' hb
      refine ⟨⟨st, ?_, Int.le_refl _, ?_⟩, (Kept.refl _ w).below hb⟩
      · rw [binsRun_nil _ _ _ (fun k _ => by rw [hL]; rfl)]; exact Near.refl _ _
      · have e : ({ ways with es := #[] } : Wy) = ways := by rw [← hes]
        rw [e]; exact h.frame hb
    have hlen : (Builtin.len_ #[92] 3 #[.map (some ways.m)]).run Tryz.prog (w.alloc (.cells #[.pointer (some ⟨p, 0, none⟩)] 61)) = .ok (.int .i64 0) (w.alloc (.cells #[.pointer (some ⟨p, 0, none⟩)] 61)) := by
      have := Tryz.lenMap ways.m ways.es ways.ck (w.alloc (.cells #[.pointer (some ⟨p, 0, none⟩)] 61)) ((heap_alloc_old lm _).trans h.mp)
      rw [he] at this; exact this
    clear h hB hok
    go_enter Tryz.func38, Tryz.ntmps38
    go_wp2_with fail
    refine bodyPost_ret (results_none rfl _ _ _) rfl ?_
    exact ⟨rfl, HE.out _ below1⟩
  · have hne : ¬ ((ways.es.size : Int) = 0) := by omega
    have hlen : (Builtin.len_ #[92] 3 #[.map (some ways.m)]).run Tryz.prog (w.alloc (.cells #[.pointer (some ⟨p, 0, none⟩)] 61)) = .ok (.int .i64 ways.es.size) (w.alloc (.cells #[.pointer (some ⟨p, 0, none⟩)] 61)) :=
      Tryz.lenMap ways.m ways.es ways.ck (w.alloc (.cells #[.pointer (some ⟨p, 0, none⟩)] 61)) ((heap_alloc_old lm _).trans h.mp)
    have c4 : ∀ ob, (w.alloc ob).cell? ⟨p, 4, none⟩ = some (.int .i64 st.wx) := fun ob => (World.cell?_alloc_past _ _ _ lp).trans (cell_of h.bp 4)
    have c5 : ∀ ob, (w.alloc ob).cell? ⟨p, 5, none⟩ = some (.int .i64 st.wy) := fun ob => (World.cell?_alloc_past _ _ _ lp).trans (cell_of h.bp 5)
    have c6 : ∀ ob, (w.alloc ob).cell? ⟨p, 6, none⟩ = some (.int .i64 st.ww) := fun ob => (World.cell?_alloc_past _ _ _ lp).trans (cell_of h.bp 6)
    have c7 : ∀ ob, (w.alloc ob).cell? ⟨p, 7, none⟩ = some (.int .i64 st.wh) := fun ob => (World.cell?_alloc_past _ _ _ lp).trans (cell_of h.bp 7)
    have HD : Hid (Dr base w p cB zB sB A n s k ways shV outV st) := h
    have HB : Hid (Bins base w ways.es ways.ck L) := hB
    have HOK : Hid (st.Ok K) := hok
    clear h hB hok
    refine (callsIn_wide (n := 0)).1 ?_
    refine callsIn_of_wp_marks Tryz.func38 rfl trivial ?_ rfl
    simp only [Tryz.ntmps38, List.size_toArray, List.length_cons, List.length_nil, Nat.reduceAdd, Nat.reduceSub, Array.replicate_succ, Array.replicate_zero, List.push_toArray, List.append_toArray, List.nil_append, List.cons_append]
    gi_wp2_with fail
    have s1 : (w.alloc (.cells #[.pointer (some ⟨p, 0, none⟩)] 61)).heap.size = w.heap.size + 1 := by simp
    have hb0 : ((ways.es.size : Int) == 0) = false := by simpa using hne
    simp only [hb0]
    have x0 := HOK.out.wx0; have y0 := HOK.out.wy0; have x1 := HOK.out.wx1; have y1 := HOK.out.wy1; have W1 := HOK.out.W1; have H1 := HOK.out.H1; have c0 := HOK.out.ww0; have r0 := HOK.out.wh0
    have HI0 : Hid (WtI base p cB zB sB A n s k ways shV outV st w pl L K N [] (0, 0) 0 (w.alloc (.cells #[.pointer (some ⟨p, 0, none⟩)] 61))) := by
      refine ⟨⟨st, Near.refl _ _, Int.le_refl _, Ok_mono HOK.out (by simp), HD.out.frame below1⟩, HB.out.frame below1, heap_alloc_new _ _, (Kept.refl _ w).below below1⟩
    have HUn : Hid (∀ pre A' B, w.heap.size + 1 ≤ A'.heap.size → Below (w.heap.size + 1) A' B → WtI base p cB zB sB A n s k ways shV outV st w pl L K N pre (0, 0) 0 A' → WtI base p cB zB sB A n s k ways shV outV st w pl L K N pre (0, 0) 0 B) := fun pre A' B _ hbl hi => hi.under HD.out HB.out _ (Nat.le_refl _) hbl
    have hps := ps_lt HD.out
    refine range_lawA (gf := 67) (r := boxV st.wx st.wy st.ww st.wh) rfl (enters_of Tryz.func67 (by kernel_rfl) rfl) (eachBox st.wx st.wy st.ww st.wh (.inr (.inr ⟨x0, by omega, y0, by omega, c0, by omega, r0, by omega⟩))) (fun _ => rfl)
      (fun pre W => w.heap.size + 1 ≤ W.heap.size ∧ WtI base p cB zB sB A n s k ways shV outV st w pl L K N pre (0, 0) 0 W) ?hI ?hR ⟨by simp, HI0.out⟩ (fun t => .cells #[.int .i64 t.1, .int .i64 t.2, .int .i64 4, .int .i64 4] 66)
      (fun t B => { tmps := #[.pointer (some ⟨p, 0, none⟩), .pointer (some ⟨w.heap.size, 0, none⟩), .pointer (some ⟨B, 0, none⟩), undef, undef, .pointer (some ⟨p, 0, none⟩), .pointer (some ⟨p, 0, none⟩), .pointer (some ⟨p, 41, none⟩), .map (some ways.m), .int .i64 ways.es.size, .bool false, .pointer (some ⟨p, 0, none⟩), .pointer (some ⟨p, 0, none⟩), .pointer (some ⟨p, 2, none⟩), .pointer (some ⟨p, 4, none⟩), .agg #[.int .i64 st.wx, .int .i64 st.wy, .int .i64 st.ww, .int .i64 st.wh], .func (.func 67) #[.agg #[.int .i64 st.wx, .int .i64 st.wy, .int .i64 st.ww, .int .i64 st.wh]] #[], boxV t.1 t.2 4 4, undef, undef, undef, undef, undef, undef, undef, undef, undef, undef, undef, undef, undef, undef, undef, undef, undef, undef, undef, undef], defers := [] }) ?hassign ?hbody ?hdone
    case hI =>
      rintro pre A' B hs1 hbl ⟨hs, hi⟩
      rw [s1] at hbl
      exact ⟨Nat.le_trans hs hbl.size, HUn.out pre A' B hs hbl hi⟩
    case hR =>
      rintro pre A' ⟨hs, hi⟩
      exact ⟨by rw [s1]; exact hs, trivial⟩
    case hassign =>
      intro l t W K hK'
      gi_wp2
      exact hK'
    case hbody =>
      rintro l pre t rest B W hx ⟨hs, hi⟩ hB1 hBx
      have hmem : t ∈ winT st := by show t ∈ (if _ then _ else _); rw [hx]; simp
      have hpl36 : pre.length ≤ 35 := by
        have h1 := winT_len HOK.out
        have h2 := congrArg List.length (show winT st = pre ++ t :: rest from hx)
        rw [List.length_append, List.length_cons] at h2
        omega
      obtain ⟨kx, ky, rfl, ax, ay, hkx, hky⟩ := winT_mem HOK.out hmem
      dsimp only at hBx ⊢
      have hlk : ∀ u : World, u.heap = W.heap → (Instr.lookup 92 (.map (some ways.m)) (keyV (kx, ky)) false).run Tryz.prog u = .ok (rowV L (kx, ky)) u := by
        intro u hu
        obtain ⟨st', _, _, _, hd⟩ := hi.dr
        exact lookup_run (by rw [hu]; exact hd.mp) (hi.bn.sameHeap hu) (kx, ky) (by dsimp only; omega) (by dsimp only; omega)
      obtain ⟨ad, cap, hrow, hnone, hsome⟩ := hi.bn.rowAt (kx, ky)
      rw [hrow] at hlk
      obtain ⟨nn, hnn⟩ : ∃ nn, (binL L (kx, ky)).length = nn := ⟨_, rfl⟩
      have hnN : nn ≤ N := by rw [← hnn]; exact hN _
      have hTl : (binT L ((kx : Int), (ky : Int))).length = nn := by unfold binT; rw [List.length_map, ← hnn]; rfl
      rw [hnn] at hlk
      have HAt : Hid (∀ j wr, j < nn → Kept (PS p cB zB sB) W wr → ∃ g q, ad = some ⟨g, 0, none⟩ ∧ wr.cell? ⟨g, j, none⟩ = some (.pointer (some ⟨q.1, 0, none⟩)) ∧ (binL L (kx, ky))[j]? = some q ∧ q.2.Ok ∧ TileIn st (useB ways.v 128) q.2 kx ky) := by
        intro j wr hj hkw
        obtain ⟨q, hq⟩ : ∃ q, (binL L (kx, ky))[j]? = some q := ⟨_, List.getElem?_eq_getElem (by omega)⟩
        have hqm := hW (kx, ky) q (List.mem_of_getElem? hq)
        cases ad with
        | none => rw [hnone rfl] at hq; simp at hq
        | some a0 =>
          obtain ⟨g, rfl, hg⟩ := hsome a0 rfl
          have hc := hg j q hq
          have hgb : ∃ cur, W.heap[g]? = some (.cells cur 132 (0, 0)) := by
            obtain ⟨A', e', B', hs', hk', hA'⟩ | hno := ent_split L (kx, ky)
            · have hv : rowV L (kx, ky) = e'.v := by rw [hs', rowV_at A' e' B' _ hA' hk']
              exact hi.bn.row_of (e := e') (by rw [hs']; simp) (by rw [← hv, hrow]; rfl)
            · rw [binL_none L _ hno] at hq; simp at hq
          obtain ⟨cur, hcur⟩ := hgb
          obtain ⟨st', _, _, _, hd⟩ := hi.dr
          refine ⟨g, q, rfl, ?_, hq, hqm.1, hqm.2⟩
          rw [World.cell?_of_block (a := ⟨g, j, none⟩) (hkw.block g (lt_of_heap hcur) (hd.notPS hcur (.inl rfl)))]
          exact hc
      have HStep : Hid (∀ j q wr, (binL L (kx, ky))[j]? = some q → j < N → q.2.Ok → TileIn st (useB ways.v 128) q.2 kx ky → WtI base p cB zB sB A n s k ways shV outV st w pl L K N pre ((kx : Int), (ky : Int)) j wr →
          Calls Tryz.prog 68 #[.pointer (some ⟨p, 0, none⟩), .pointer (some ⟨q.1, 0, none⟩), .agg #[.int .i64 kx, .int .i64 ky, .int .i64 4, .int .i64 4]] wr fun e W' => e = .returned (.tuple #[]) ∧ WtI base p cB zB sB A n s k ways shV outV st w pl L K N pre ((kx : Int), (ky : Int)) (j + 1) W' ∧ Kept (PS p cB zB sB) wr W') :=
        fun j q wr hq hjN hto htl hj => WtI.step hpl HD.out hK hpl36 rfl hq hjN hto htl hj
      have HJ0 : Hid (WtI base p cB zB sB A n s k ways shV outV st w pl L K N pre ((kx : Int), (ky : Int)) 0 W.drew) := by
        have h1 := hi.under HD.out HB.out _ (Nat.le_refl _) (Below.refl (w.heap.size + 1) W).drew
        obtain ⟨⟨st', hn, hw, hok', hd⟩, bn, b0, kp⟩ := h1
        exact ⟨⟨st', hn, hw, hok', hd⟩, bn, b0, kp⟩
      have HEnd : Hid (∀ wr, WtI base p cB zB sB A n s k ways shV outV st w pl L K N pre ((kx : Int), (ky : Int)) nn wr → Kept (PS p cB zB sB) W wr → (w.heap.size + 1 ≤ wr.heap.size ∧ WtI base p cB zB sB A n s k ways shV outV st w pl L K N (pre ++ [((kx : Int), (ky : Int))]) (0, 0) 0 wr) ∧ ∀ kk, (w.alloc (.cells #[.pointer (some ⟨p, 0, none⟩)] 61)).heap.size ≤ kk → kk < W.heap.size → wr.heap[kk]? = W.heap[kk]?) := by
        intro wr hj hkw
        exact ⟨⟨Nat.le_trans hs hkw.size, hj.close hTl.symm hnN (0, 0)⟩, fun kk h1 h2 => hkw.block kk h2 (fun e => by have := hps _ e; rw [s1] at h1; omega)⟩
      have HFr : Hid (∀ wr, Kept (PS p cB zB sB) W wr → wr.cell? ⟨w.heap.size, 0, none⟩ = some (.pointer (some ⟨p, 0, none⟩)) ∧ wr.cell? ⟨B, 0, none⟩ = some (.int .i64 kx) ∧ wr.cell? ⟨B, 1, none⟩ = some (.int .i64 ky) ∧ wr.cell? ⟨B, 2, none⟩ = some (.int .i64 4) ∧ wr.cell? ⟨B, 3, none⟩ = some (.int .i64 4)) := by
        intro wr hkw
        have c1 := cell_of ((hkw.block _ (lt_of_heap hi.b0) (fun e => by have := hps _ e; omega)).trans hi.b0)
        have c2 := cell_of ((hkw.block _ (lt_of_heap hBx) (fun e => by have := hps _ e; rw [s1] at hB1; omega)).trans hBx)
        exact ⟨c1 0, c2 0, c2 1, c2 2, c2 3⟩
      have HK0 : Hid (Kept (PS p cB zB sB) W W.drew) := (Kept.refl _ W).drew
      obtain ⟨q0, q1, q2, q3, q4⟩ := HFr.out _ HK0.out
      have q41 : W.drew.cell? ⟨p, 41, none⟩ = some (.map (some ways.m)) := by
        obtain ⟨st', _, _, _, hd⟩ := hi.dr
        exact cell_of hd.bp 41
      have qlk := hlk W.drew rfl
      have hNb : (N : Int) ≤ 1000000000000 := by have := HOK.out.work0; have := HOK.out.work1; omega
      have hmx : Tryz.prog.follows .mixedOrders = true := by kernel_rfl
      clear hlk hrow hnone hsome hi hBx hx hmem c41 c4 c5 c6 c7 hlen HI0 HUn
      gi_wp2_with fail
      refine region_held_round 8 (by rfl) (S := fun w' => w'.cell? ⟨w.heap.size, 0, none⟩ = some (.pointer (some ⟨p, 0, none⟩)) ∧ w'.cell? ⟨p, 41, none⟩ = some (.map (some ways.m)) ∧ w'.cell? ⟨B, 0, none⟩ = some (.int .i64 kx) ∧ w'.cell? ⟨B, 1, none⟩ = some (.int .i64 ky) ∧ w'.cell? ⟨B, 2, none⟩ = some (.int .i64 4) ∧ w'.cell? ⟨B, 3, none⟩ = some (.int .i64 4) ∧
        (Instr.lookup 92 (.map (some ways.m)) (.agg #[.int .i64 kx, .int .i64 ky, .int .i64 4, .int .i64 4]) false).run Tryz.prog w' = .ok (.slice ad nn cap) w') hmx (by rfl) ?_ ?_
      · rintro ⟨a', w', h'⟩
        obtain ⟨h1, _⟩ := h'
        cases h1
      · have hS : (fun w' : World => w'.cell? ⟨w.heap.size, 0, none⟩ = some (.pointer (some ⟨p, 0, none⟩)) ∧ w'.cell? ⟨p, 41, none⟩ = some (.map (some ways.m)) ∧ w'.cell? ⟨B, 0, none⟩ = some (.int .i64 kx) ∧ w'.cell? ⟨B, 1, none⟩ = some (.int .i64 ky) ∧ w'.cell? ⟨B, 2, none⟩ = some (.int .i64 4) ∧ w'.cell? ⟨B, 3, none⟩ = some (.int .i64 4) ∧
          (Instr.lookup 92 (.map (some ways.m)) (.agg #[.int .i64 kx, .int .i64 ky, .int .i64 4, .int .i64 4]) false).run Tryz.prog w' = .ok (.slice ad nn cap) w') W.drew := ⟨q0, q41, q1, q2, q3, q4, qlk⟩
        refine wpAnyH_take (i := 0) (v := ?v0) rfl (by kernel_rfl) (by kernel_rfl) (by kernel_rfl) (fun _ _ _ h => h) (Or.inl ⟨by rfl, ?hy0⟩) hS ?rest0
        case hy0 => (intro w hSw; obtain ⟨s0, s1, s2, s3, s4, s5, s6⟩ := hSw; go_simp; try with_reducible rfl)
        simp only [Act.put, List.setIfInBounds_toArray, List.set_cons_zero, List.set_cons_succ, List.getElem_toArray, List.getElem_cons_zero]
        refine wpAnyH_take (i := 1) (v := ?v1) rfl (by kernel_rfl) (by kernel_rfl) (by kernel_rfl) (fun _ _ _ h => h) (Or.inl ⟨by rfl, ?hy1⟩) hS ?rest1
        case hy1 => (intro w hSw; obtain ⟨s0, s1, s2, s3, s4, s5, s6⟩ := hSw; go_simp; try with_reducible rfl)
        simp only [Act.put, List.setIfInBounds_toArray, List.set_cons_zero, List.set_cons_succ, List.getElem_toArray, List.getElem_cons_zero, List.getElem_cons_succ]
        refine wpAnyH_take (i := 2) (v := ?v2) rfl (by kernel_rfl) (by kernel_rfl) (by kernel_rfl) (fun _ _ _ h => h) (Or.inl ⟨by rfl, ?hy2⟩) hS ?rest2
        case hy2 => (intro w hSw; obtain ⟨s0, s1, s2, s3, s4, s5, s6⟩ := hSw; go_simp; try with_reducible rfl)
        simp only [Act.put, List.setIfInBounds_toArray, List.set_cons_zero, List.set_cons_succ, List.getElem_toArray, List.getElem_cons_zero, List.getElem_cons_succ]
        refine wpAnyH_take (i := 3) (v := ?v3) rfl (by kernel_rfl) (by kernel_rfl) (by kernel_rfl) (fun _ _ _ h => h) (Or.inl ⟨by rfl, ?hy3⟩) hS ?rest3
        case hy3 => (intro w hSw; obtain ⟨s0, s1, s2, s3, s4, s5, s6⟩ := hSw; go_simp; try with_reducible rfl)
        simp only [Act.put, List.setIfInBounds_toArray, List.set_cons_zero, List.set_cons_succ, List.getElem_toArray, List.getElem_cons_zero, List.getElem_cons_succ]
        refine wpAnyH_take (i := 4) (v := ?v4) rfl (by kernel_rfl) (by kernel_rfl) (by kernel_rfl) (fun _ _ _ h => h) (Or.inl ⟨by rfl, ?hy4⟩) hS ?rest4
        case hy4 => (intro w hSw; obtain ⟨s0, s1, s2, s3, s4, s5, s6⟩ := hSw; go_simp; try with_reducible rfl)
        simp only [Act.put, List.setIfInBounds_toArray, List.set_cons_zero, List.set_cons_succ, List.getElem_toArray, List.getElem_cons_zero, List.getElem_cons_succ]
        refine wpAnyH_take (i := 5) (v := ?v5) rfl (by kernel_rfl) (by kernel_rfl) (by kernel_rfl) (fun _ _ _ h => h) (Or.inl ⟨by rfl, ?hy5⟩) hS ?rest5
        case hy5 => (intro w hSw; obtain ⟨s0, s1, s2, s3, s4, s5, s6⟩ := hSw; go_simp; try with_reducible rfl)
        simp only [Act.put, List.setIfInBounds_toArray, List.set_cons_zero, List.set_cons_succ, List.getElem_toArray, List.getElem_cons_zero, List.getElem_cons_succ]
        refine wpAnyH_take (i := 6) (v := ?v6) rfl (by kernel_rfl) (by kernel_rfl) (by kernel_rfl) (fun _ _ _ h => h) (Or.inl ⟨by rfl, ?hy6⟩) hS ?rest6
        case hy6 => (intro w hSw; obtain ⟨s0, s1, s2, s3, s4, s5, s6⟩ := hSw; go_simp; try with_reducible rfl)
        simp only [Act.put, List.setIfInBounds_toArray, List.set_cons_zero, List.set_cons_succ, List.getElem_toArray, List.getElem_cons_zero, List.getElem_cons_succ]
        refine wpAnyH_take (i := 7) (v := ?v7) rfl (by kernel_rfl) (by kernel_rfl) (by kernel_rfl) (fun _ _ _ h => h) (Or.inl ⟨by rfl, ?hy7⟩) hS ?rest7
        case hy7 => (intro w hSw; obtain ⟨s0, s1, s2, s3, s4, s5, s6⟩ := hSw; go_simp; try with_reducible rfl)
        simp only [Act.put, List.setIfInBounds_toArray, List.set_cons_zero, List.set_cons_succ, List.getElem_toArray, List.getElem_cons_zero, List.getElem_cons_succ]
        refine wpAnyH_done (by kernel_rfl) ?_ _
        clear hS q0 q1 q2 q3 q4 q41 qlk
        gi_wp2_with fail
        gi_loopg [25] nn (fun m i wr => ∃ j : Nat, j + m = nn ∧ i = .int .i64 j ∧ Hid (WtI base p cB zB sB A n s k ways shV outV st w pl L K N pre ((kx : Int), (ky : Int)) j wr) ∧ Hid (Kept (PS p cB zB sB) W wr))
        case atStart => exact ⟨0, by omega, rfl, HJ0, HK0⟩
        case round =>
          obtain ⟨j, hj, rfl, hI, hKw⟩ := hrel
          clear HJ0 HK0
          by_cases hlt : j < nn
          · obtain ⟨n', rfl⟩ : ∃ n', gk = n' + 1 := ⟨gk - 1, by omega⟩
            have g1 : (j : Int) < (nn : Int) := by omega
            obtain ⟨g, q, rfl, hc, hq, hto, htl⟩ := HAt.out j wr hlt hKw.out
            obtain ⟨q0, q1, q2, q3, q4⟩ := HFr.out wr hKw.out
            have hC := HStep.out j q wr hq (by omega) hto htl hI.out
            have HC : Hid (Calls Tryz.prog 68 #[.pointer (some ⟨p, 0, none⟩), .pointer (some ⟨q.1, 0, none⟩), .agg #[.int .i64 kx, .int .i64 ky, .int .i64 4, .int .i64 4]] wr fun e W' => e = .returned (.tuple #[]) ∧ WtI base p cB zB sB A n s k ways shV outV st w pl L K N pre ((kx : Int), (ky : Int)) (j + 1) W' ∧ Kept (PS p cB zB sB) wr W') := hC
            clear hC hq hto htl
            gi_wp2_with fail
            refine ⟨trivial, rfl, ?_⟩
            refine (CallsIn.inRound l (callsIn_wide.2 HC.out)).mono ?_
            rintro e W3 ⟨rfl, hi3, hk3⟩
            have HI3 : Hid (WtI base p cB zB sB A n s k ways shV outV st w pl L K N pre ((kx : Int), (ky : Int)) (j + 1) W3) := hi3
            have HK3 : Hid (Kept (PS p cB zB sB) W W3) := hKw.out.trans hk3
            clear hi3 hk3 hI
            gi_wp2_with fail
            gi_roundg n'
            case rel => exact ⟨j + 1, by omega, by go_num, HI3, HK3⟩
            case measure => omega
          · obtain rfl : gk = 0 := by omega
            obtain rfl : j = nn := by omega
            have HE := HEnd.out wr hI.out hKw.out
            clear hI hKw HAt HStep HFr
            gi_wp2_with fail
            exact fun kk h1 h2 => HE.2 kk (by rw [s1]; exact h1) h2
    case hdone =>
      rintro D W2 hD ⟨hs, hi⟩ hK'
      have hD1 : w.heap.size + 1 ≤ D := by rw [s1] at hD; exact hD
      obtain ⟨st', hn, hw, hok', hd⟩ := hi.dr
      have k0 := cell_of hi.b0
      have k41 : W2.cell? ⟨p, 41, none⟩ = some (.map (some ways.m)) := cell_of hd.bp 41
      have hcl := fun T => Tryz.clearMap ways.m ways.es ways.ck W2 T hd.mp
      have hkb := kept_block ways.m W2 (.map #[] ways.ck)
      have hd2 := hd.setMap hkb #[] ways.ck (by simp [lt_of_heap hd.mp])
      have hDf : ({ W2 with heap := W2.heap.setIfInBounds ways.m (.map #[] ways.ck) } : World).heap[D]? = some (.deferred (some [])) := (hkb.block D (lt_of_heap hK') (by rintro rfl; rw [hd.mp] at hK'; cases hK')).trans hK'
      have HDf : Hid (({ W2 with heap := W2.heap.setIfInBounds ways.m (.map #[] ways.ck) } : World).heap[D]? = some (.deferred (some []))) := hDf
      have HE : Hid (∀ f, WaitPost base p cB zB sB A n s k ways shV outV st w pl L (({ W2 with heap := W2.heap.setIfInBounds ways.m (.map #[] ways.ck) } : World).putObj D f)) := by
        intro f
        have hkD : Kept (· = D) ({ W2 with heap := W2.heap.setIfInBounds ways.m (.map #[] ways.ck) } : World) (({ W2 with heap := W2.heap.setIfInBounds ways.m (.map #[] ways.ck) } : World).putObj D f) := ⟨rfl, rfl, rfl, by rw [World.putObj_size]; exact Nat.le_refl _, fun i _ hn => World.putObj_heap_other hn⟩
        refine ⟨⟨st', ?_, hw, hd2.keptD hkD (fun g hg => ⟨some [], by rw [hg]; exact hDf⟩)⟩, ?_⟩
        · have e : tileOps st.wx st.wy st.ww st.wh ((binT L (0, 0)).take 0) (0, 0) (binsRun st.wx st.wy st.ww st.wh (binT L) (winT st) st) = binsRun st.wx st.wy st.ww st.wh (binT L) (winT st) st := rfl
          rw [← e]; exact hn
        · have hk1 : Kept (fun i => PS p cB zB sB i ∨ i = ways.m) w ({ W2 with heap := W2.heap.setIfInBounds ways.m (.map #[] ways.ck) } : World) := (hi.kp.mono (fun _ e => .inl e)).trans (hkb.mono (fun _ e => .inr e))
          exact ⟨hkD.os.trans hk1.os, hkD.tape.trans hk1.tape, hkD.output.trans hk1.output, Nat.le_trans hk1.size hkD.size, fun i hi' hn' => (hkD.block i (Nat.lt_of_lt_of_le hi' hk1.size) (by show ¬ (i = D); omega)).trans (hk1.block i hi' hn')⟩
      clear hi hd hd2 hn hw hok' hDf hkb hK' c41 c4 c5 c6 c7 hlen HI0 HUn
      gi_wp2_with fail
      refine ⟨by simp, .inl ⟨_, _, rfl, run_takeDeferred HDf.out, ?_⟩⟩
      exact ⟨_, results_none rfl _ _ _, rfl, HE.out _⟩
end
end Go.Proofs.YthcikinkicpicaaGreatDoor

namespace Go.Proofs.YthcikinkicpicaaGreatDoor
open Go.RowKit

/-- The tiles of a rectangle. -/
def tilesOf (b : Bx) : List (Int × Int) := if b.c = 0 ∨ b.r = 0 then [] else winTiles b.x b.y b.c b.r

/-- What is looked at lies in the pane, if it is anything. -/
theorem look_range {bd : Bool} {st : St} {K : Int} {t : Tr} (hok : st.Ok K) : 0 ≤ (lookBx bd st t).c ∧ 0 ≤ (lookBx bd st t).r ∧ ((lookBx bd st t).c = 0 ∨ (lookBx bd st t).r = 0 ∨ (0 ≤ (lookBx bd st t).x ∧ (lookBx bd st t).x + (lookBx bd st t).c ≤ 24 ∧ 0 ≤ (lookBx bd st t).y ∧ (lookBx bd st t).y + (lookBx bd st t).r ≤ 24)) := by
  have h0 := hok.wx0; have h1 := hok.wy0; have h2 := hok.wx1; have h3 := hok.wy1; have h4 := hok.W1; have h5 := hok.H1; have h6 := hok.ww0; have h7 := hok.wh0
  unfold lookBx
  cases bd
  · rw [if_neg (by simp)]; unfold winBx; dsimp only; omega
  · rw [if_pos rfl]; unfold winBx Bx.meet; dsimp only; omega

/-- A tile of what is looked at: something of it lies in there. -/
theorem tiles_in {bd : Bool} {st : St} {K : Int} {t : Tr} (hok : st.Ok K) {key : Int × Int} (hk : key ∈ tilesOf (lookBx bd st t)) : ∃ kx ky : Nat, key = ((kx : Int), (ky : Int)) ∧ TileIn st bd t kx ky ∧ kx ≤ 100 ∧ ky ≤ 100 ∧
    0 ≤ (partBx bd st t key).x ∧ (partBx bd st t key).x + (partBx bd st t key).c ≤ 100 ∧ 1 ≤ (partBx bd st t key).c ∧ 0 ≤ (partBx bd st t key).y ∧ (partBx bd st t key).y + (partBx bd st t key).r ≤ 100 ∧ 1 ≤ (partBx bd st t key).r := by
  obtain ⟨c0, r0, hr⟩ := look_range (bd := bd) (t := t) hok
  unfold tilesOf at hk
  have hp : ∀ key, partBx bd st t key = (lookBx bd st t).meet (tileBx key) := fun _ => rfl
  generalize lookBx bd st t = b at *
  split at hk
  · cases hk
  · rename_i hz
    unfold winTiles at hk
    rw [mem_tilesL] at hk
    obtain ⟨⟨j, hj, ej⟩, i, hi, ei⟩ := hk
    obtain ⟨kx, ekx⟩ : ∃ kx : Nat, key.1 = kx := ⟨key.1.toNat, by omega⟩
    obtain ⟨ky, eky⟩ : ∃ ky : Nat, key.2 = ky := ⟨key.2.toNat, by omega⟩
    have e : key = ((kx : Int), (ky : Int)) := Prod.ext ekx eky
    subst e
    dsimp only at ej ei ekx eky
    have hq : ∀ P : Prop, P → P := fun _ h => h
    refine ⟨kx, ky, rfl, ⟨by omega, by omega, ?_, ?_⟩, by omega, by omega, ?_⟩
    · rw [hp]; unfold Bx.meet tileBx; dsimp only; omega
    · rw [hp]; unfold Bx.meet tileBx; dsimp only; omega
    · rw [hp]; unfold Bx.meet tileBx; dsimp only; omega

/-- Every pixel of a rectangle lies in one of its tiles. -/
theorem tiles_cover (b : Bx) (p : Int × Int) (hp : b.has p) : (p.1 - p.1 % 4, p.2 - p.2 % 4) ∈ tilesOf b := by
  unfold Bx.has at hp
  unfold tilesOf
  rw [if_neg (by omega)]
  unfold winTiles
  rw [mem_tilesL]
  refine ⟨⟨((p.2 - p.2 % 4 - (b.y - b.y % 4)) / 4).toNat, ?_, ?_⟩, ((p.1 - p.1 % 4 - (b.x - b.x % 4)) / 4).toNat, ?_, ?_⟩
  · omega
  · show p.2 - p.2 % 4 = _; omega
  · omega
  · show p.1 - p.1 % 4 = _; omega
theorem own_tile (p : Int × Int) : (tileBx (p.1 - p.1 % 4, p.2 - p.2 % 4)).has p := by
  unfold tileBx Bx.has; dsimp only; omega
/-- Whole tiles that have a pixel in common are one. -/
theorem tile_one {k : Int × Int} (h1 : k.1 % 4 = 0) (h2 : k.2 % 4 = 0) {p : Int × Int} (hp : (tileBx k).has p) : k = (p.1 - p.1 % 4, p.2 - p.2 % 4) := by
  unfold tileBx Bx.has at hp
  dsimp only at hp
  exact Prod.ext (by show k.1 = _; omega) (by show k.2 = _; omega)
theorem winT_of (st : St) : winT st = tilesOf (winBx st) := rfl
theorem apart_of (b : Bx) : (tilesOf b).Pairwise Apart := by
  unfold tilesOf
  split
  · exact List.Pairwise.nil
  · exact apart_tiles _ _ _ _

/-- A tile that one of the edges leaves outside. -/
theorem left_out (bd : Bool) (st : St) (t : Tr) (ht : t.Ok) (key : Int × Int) (h : t.leaves (partBx bd st t key) = true) (s : St) : tileOp st.wx st.wy st.ww st.wh t key s = s := by
  refine op_none st t key (fun p hc hw hk => ?_) s
  have hp : (partBx bd st t key).has p := by
    unfold partBx
    rw [meet_has]
    exact ⟨(look_cov ht hc).2 hw, hk⟩
  rw [leaves_cov t _ h p hp] at hc
  cases hc
/-- A tile that what is looked at has nothing of. -/
theorem not_looked (bd : Bool) (st : St) (t : Tr) (ht : t.Ok) (key : Int × Int) (h1 : key.1 % 4 = 0) (h2 : key.2 % 4 = 0) (h : key ∉ tilesOf (lookBx bd st t)) (s : St) : tileOp st.wx st.wy st.ww st.wh t key s = s := by
  refine op_none st t key (fun p hc hw hk => h ?_) s
  rw [tile_one h1 h2 hk]
  exact tiles_cover _ p ((look_cov ht hc).2 hw)
/-- The tiles of what is looked at have all that is covered. -/
theorem looked_fold (bd : Bool) (st : St) (K : Int) (hok : st.Ok K) (t : Tr) (ht : t.Ok) : (tilesOf (lookBx bd st t)).foldl (fun s k => tileOp st.wx st.wy st.ww st.wh t k s) st = triY t.a t.b t.c t.ar st.wh.toNat st.wy st :=
  tiles_fold st K hok t _ (apart_of _) (fun p hc hw => ⟨_, tiles_cover _ p ((look_cov ht hc).2 hw), own_tile p⟩)
theorem win_fold (st : St) (K : Int) (hok : st.Ok K) (t : Tr) : (winT st).foldl (fun s k => tileOp st.wx st.wy st.ww st.wh t k s) st = triY t.a t.b t.c t.ar st.wh.toNat st.wy st :=
  tiles_fold st K hok t _ (apart_of (winBx st)) (fun p _ hw => ⟨_, tiles_cover (winBx st) p hw, own_tile p⟩)
end Go.Proofs.YthcikinkicpicaaGreatDoor
