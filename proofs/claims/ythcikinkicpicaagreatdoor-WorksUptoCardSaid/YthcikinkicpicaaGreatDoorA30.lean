import Derived.Test.YthcikinkicpicaaGreatDoorA29

namespace Go.Proofs.YthcikinkicpicaaGreatDoor
open Go.RowKit

theorem args_corner (s : ByteArray) (i : Nat) (h : i + 9 ≤ s.size) (l : List Int) (hl : ∀ j, j < l.length → byteAt s j = l.getD j 0) (hl2 : i + 9 ≤ l.length) : cornerOf (argsAt (s.extract i s.size) 0 9) 0 = cornerOf l i := by
  have g := fun j hj => argsAt_get (s.extract i s.size) 0 9 j hj
  have e : ∀ j, j < 9 → (argsAt (s.extract i s.size) 0 9).getD j 0 = l.getD (i + j) 0 := fun j hj => by
    rw [g j hj, Nat.zero_add, byteAt_extract s i s.size j (by omega) (Nat.le_refl _), hl (i + j) (by omega)]
  unfold cornerOf sgn
  simp only [Nat.zero_add, Nat.reduceAdd, e 0 (by omega), e 1 (by omega), e 2 (by omega), e 3 (by omega), e 4 (by omega), e 5 (by omega), e 6 (by omega), e 7 (by omega), e 8 (by omega), Nat.add_assoc, Nat.add_zero]
theorem args_corner0 (s : ByteArray) (_h : 9 ≤ s.size) (l : List Int) (hl : ∀ j, j < l.length → byteAt s j = l.getD j 0) (hl2 : 9 ≤ l.length) : cornerOf (argsAt s 0 9) 0 = cornerOf l 0 := by
  have g := fun j hj => argsAt_get s 0 9 j hj
  have e : ∀ j, j < 9 → (argsAt s 0 9).getD j 0 = l.getD j 0 := fun j hj => by
    rw [g j hj, Nat.zero_add, hl j (by omega)]
  unfold cornerOf sgn
  simp only [Nat.zero_add, Nat.reduceAdd, e 0 (by omega), e 1 (by omega), e 2 (by omega), e 3 (by omega), e 4 (by omega), e 5 (by omega), e 6 (by omega), e 7 (by omega), e 8 (by omega)]


/-- What the waiting triangles will have made of the pane. -/
def virt (L : List Ent) (st : St) : St := binsRun st.wx st.wy st.ww st.wh (binT L) (winT st) st

theorem anyOn_count (qs : List Qry) : anyOn (qs.map count) = anyOn qs := by
  unfold anyOn
  rw [List.any_map]
  congr 1
  funext q
  exact count_o q
theorem px_on (t : Tr) (s : St) (p : Int × Int) : anyOn (t.px s p).qs = anyOn s.qs := by
  unfold Tr.px
  rw [px_W]
  unfold pxW
  split
  · unfold eff
    split
    · rfl
    · dsimp only
      split
      · exact anyOn_count _
      · rfl
  · rfl
theorem fold_on (t : Tr) : ∀ (l : List (Int × Int)) (s : St), anyOn (l.foldl t.px s).qs = anyOn s.qs
  | [], _ => rfl
  | p :: l, s => (fold_on t l _).trans (px_on t s p)
theorem ops_on (wx wy ww wh : Int) (key : Int × Int) : ∀ (l : List Tr) (s : St), anyOn (tileOps wx wy ww wh l key s).qs = anyOn s.qs ∧ (tileOps wx wy ww wh l key s).T = s.T
  | [], _ => ⟨rfl, rfl⟩
  | t :: l, s => by
    have h1 := fold_on t (tilePx wx wy ww wh key) s
    have h2 := tileOp_same wx wy ww wh t key s
    have h3 := ops_on wx wy ww wh key l (tileOp wx wy ww wh t key s)
    exact ⟨h3.1.trans h1, h3.2.trans h2.2.2.1⟩
theorem run_on (wx wy ww wh : Int) (bin : Int × Int → List Tr) : ∀ (l : List (Int × Int)) (s : St), anyOn (binsRun wx wy ww wh bin l s).qs = anyOn s.qs ∧ (binsRun wx wy ww wh bin l s).T = s.T
  | [], _ => ⟨rfl, rfl⟩
  | k :: l, s => by
    have h1 := ops_on wx wy ww wh k (bin k) s
    have h2 := run_on wx wy ww wh bin l (tileOps wx wy ww wh (bin k) k s)
    exact ⟨h2.1.trans h1.1, h2.2.trans h1.2⟩

/-- What waits, and where. -/
structure Wts (base : Nat) (w : World) (ways : Wy) (st : St) (L : List Ent) (N : Nat) : Prop where
  bn : Bins base w ways.es ways.ck L
  len : ∀ j, (binL L j).length ≤ N
  ok : ∀ j, ∀ q ∈ binL L j, q.2.Ok ∧ TileIn st (useB ways.v 128) q.2 j.1 j.2
  off : useB ways.v 64 = false → L = []

theorem virt_nil (st : St) : virt [] st = st := binsRun_nil _ _ _ (fun _ _ => rfl)

section
variable {base : Nat} {p cB zB sB A n : Nat} {s : ByteArray} {k : Int} {ways : Wy} {shV outV : Value} {st : St} {w w' : World}

/-- What turns blocks that are no cells and no map turns nothing of the drawer. -/
theorem Dr.keptL {S : Nat → Prop} (h : Dr base w p cB zB sB A n s k ways shV outV st) (hk : Kept S w w') (hS : ∀ g, S g → ∃ x, w.heap[g]? = some (.loop x)) : Dr base w' p cB zB sB A n s k ways shV outV st := by
  have no : ∀ {g : Nat} {cu : Array Value} {T : TypeId}, w.heap[g]? = some (.cells cu T (0, 0)) → ¬ S g := by
    intro g cu T hg hs
    obtain ⟨x, hx⟩ := hS g hs
    rw [hg] at hx; cases hx
  obtain ⟨fc, fz, fs, _, ⟨c1, b1, t1⟩, ⟨c2, b2, t2⟩, c3, b3, t3⟩ := h.sf.ex
  refine ⟨(hk.block _ (lt_of_heap h.bp) (no h.bp)).trans h.bp, h.sf.kept hk (no b1) (no b2) (no b3) rfl rfl rfl, h.sh.kept hk (fun g cur hg => no hg), owns_kept h.out hk (fun g cur hg => no hg), h.b0, h.b1, h.b2, h.b3, (hk.block _ (lt_of_heap h.mp) (fun hs => ?_)).trans h.mp, h.b4⟩
  obtain ⟨x, hx⟩ := hS _ hs
  rw [h.mp] at hx; cases hx

/-- The map and rows of it turn. -/
theorem Dr.setBins {S : Nat → Prop} (h : Dr base w p cB zB sB A n s k ways shV outV st) (hk : Kept S w w') (hS : ∀ g, S g → g = ways.m ∨ ∃ cur, w.heap[g]? = some (.cells cur 132 (0, 0))) (es' : Array MapEntry) (ck' : Nat) (hm : w'.heap[ways.m]? = some (.map es' ck')) : Dr base w' p cB zB sB A n s k { ways with es := es', ck := ck' } shV outV st := by
  obtain ⟨fc, fz, fs, _, ⟨c1, b1, t1⟩, ⟨c2, b2, t2⟩, c3, b3, t3⟩ := h.sf.ex
  have no : ∀ {g : Nat} {cu : Array Value} {T : TypeId}, w.heap[g]? = some (.cells cu T (0, 0)) → T ≠ 132 → ¬ S g := by
    intro g cu T hg hT hs
    rcases hS g hs with e | ⟨cur, hc⟩
    · exact ne_map h.mp hg e.symm
    · exact ne_types hg hc hT rfl
  exact ⟨(hk.block _ (lt_of_heap h.bp) (no h.bp (by decide))).trans h.bp, h.sf.kept hk (no b1 (by decide)) (no b2 (by decide)) (no b3 (by decide)) rfl rfl rfl, h.sh.kept hk (fun g cur hg => no hg (by decide)), owns_kept h.out hk (fun g cur hg => no hg (by decide)), h.b0, h.b1, h.b2, h.b3, hm, h.b4⟩

theorem Bins.keptN {es : Array MapEntry} {ck : Nat} {L : List Ent} {S : Nat → Prop} (h : Bins base w es ck L) (hk : Kept S w w') (hS : ∀ g, S g → ∀ (cur : Array Value) (T : TypeId), w.heap[g]? ≠ some (.cells cur T (0, 0))) : Bins base w' es ck L := h.kept hk (fun g cur T hg _ hs => hS g hs cur T hg)
theorem kept_put {W : World} (g : Nat) (o : Obj) : Kept (· = g) W (W.putObj g o) := ⟨rfl, rfl, rfl, by rw [World.putObj_size]; exact Nat.le_refl _, fun _ _ hn => World.putObj_heap_other hn⟩
end

section
variable (base : Nat) (p cB zB sB A n : Nat) (s : ByteArray) (k : Int) (ways : Wy) (shV outV : Value) (st : St) (a : ByteArray) (w : World)

/-- What drawTriangle leaves. -/
def TriPost (pl : Prop) (_L : List Ent) (N : Nat) (V' : St) (w' : World) : Prop :=
  ∃ ways' st' L', Dr base w' p cB zB sB A n s k ways' shV outV st' ∧ ways'.v = ways.v ∧ Wts base w' ways' st' L' (N + 1) ∧ Near pl V' (virt L' st') ∧ (st' = st ∨ L' = []) ∧ st.work ≤ st'.work ∧ Low base w w'

theorem triPost_same (pl : Prop) (L : List Ent) (N : Nat) (V' : St) (h : Dr base w p cB zB sB A n s k ways shV outV st) (hw : Wts base w ways st L N) (hn : Near pl V' (virt L st)) (w' : World) (hb : Below w.heap.size w w') : TriPost base p cB zB sB A n s k ways shV outV st w pl L N V' w' :=
  ⟨ways, st, L, h.frame hb, rfl, ⟨hw.bn.frame hb, fun j => Nat.le_succ_of_le (hw.len j), hw.ok, hw.off⟩, hn, .inl rfl, Int.le_refl _, h.lowOf hb⟩

/-- While tiles are drawn at once. -/
structure Jn (pl : Prop) (t : Tr) (K : Int) (q : Nat) (pre : List (Int × Int)) (W : World) : Prop where
  dr : ∃ st', Near pl (pre.foldl (fun s k => tileOp st.wx st.wy st.ww st.wh t k s) st) st' ∧ st.work ≤ st'.work ∧ st'.Ok (K + 256 * pre.length) ∧ Dr base W p cB zB sB A n s k ways shV outV st'
  hq : W.heap[q]? = some (.cells (trT t) 165 (0, 0))
  lq : w.heap.size ≤ q
  kp : Kept (PS p cB zB sB) w W
end

section
variable {base : Nat} {p cB zB sB A n : Nat} {s : ByteArray} {k : Int} {ways : Wy} {shV outV : Value} {st : St} {a : ByteArray} {w : World}

theorem fold_tile_same (wx wy ww wh : Int) (t : Tr) : ∀ (l : List (Int × Int)) (s : St), (l.foldl (fun s k => tileOp wx wy ww wh t k s) s).wx = s.wx ∧ (l.foldl (fun s k => tileOp wx wy ww wh t k s) s).wy = s.wy ∧ (l.foldl (fun s k => tileOp wx wy ww wh t k s) s).ww = s.ww ∧ (l.foldl (fun s k => tileOp wx wy ww wh t k s) s).wh = s.wh ∧ (l.foldl (fun s k => tileOp wx wy ww wh t k s) s).sh = s.sh ∧ (l.foldl (fun s k => tileOp wx wy ww wh t k s) s).out = s.out
  | [], _ => ⟨rfl, rfl, rfl, rfl, rfl, rfl⟩
  | k :: l, s => by
    have h1 := tileOp_same wx wy ww wh t k s
    have h2 := fold_tile_same wx wy ww wh t l (tileOp wx wy ww wh t k s)
    simp only [h1] at h2
    exact h2

/-- A triangle that is drawn, with no bins. -/
theorem drawNow (pl : Prop) (hpl : pl → ∀ x, useB ways.v x = false) (h : Dr base w p cB zB sB A n s k ways shV outV st) (N : Nat) (hw : Wts base w ways st [] N) (K : Int) (hok : st.Ok K) (hK : K + 20000 ≤ 1000000000000000)
    (t : Tr) (hrd : ∀ W, Calls Tryz.prog 86 #[.string a] W fun e w' => e = .returned (.agg (triL t.a t.b t.c t.ar ⟨t.f, t.bounds⟩).toArray) ∧ Below W.heap.size W w')
    (dr : Bool) (hdr : (if st.T.faces = 1 then t.f else if st.T.faces = 2 then !t.f else true) = dr) (ht : t.ar ≠ 0 → dr = true → t.Ok) (V' : St)
    (h0 : t.ar = 0 ∨ dr = false ∨ (useB ways.v 1 = true ∧ unseenB st t = true) → Near pl V' st) (h1 : t.Ok → dr = true → V' = triY t.a t.b t.c t.ar st.wh.toNat st.wy st) (hu : useB ways.v 64 = false) :
    Calls Tryz.prog 59 #[.pointer (some ⟨p, 0, none⟩), .string a] w fun e w' => e = .returned (.int .i64 0) ∧ TriPost base p cB zB sB A n s k ways shV outV st w pl [] N V' w' := by
  have lp := lt_of_heap h.bp
  have hps := ps_lt h
  have hlow : ∀ w', Kept (PS p cB zB sB) w w' → Low base w w' := by
    intro w' hk
    obtain ⟨_, _, _, _, ⟨c1, b1, t1⟩, ⟨c2, b2, t2⟩, c3, b3, t3⟩ := h.sf.ex
    refine low_kept hk ?_ ?_ (by have := h.b0; omega)
    · rintro g (rfl | rfl | rfl | rfl)
      · exact h.b0
      · exact h.b1
      · exact h.b2
      · exact h.b3
    · rintro g (rfl | rfl | rfl | rfl)
      · exact ⟨_, _, h.bp, by decide⟩
      · exact ⟨_, _, b1, by decide⟩
      · exact ⟨_, _, b2, by decide⟩
      · exact ⟨_, _, b3, by decide⟩
  have hlen : (tilesOf (lookBx (useB ways.v 128) st t)).length ≤ 36 := by
    obtain ⟨c0, r0, hr⟩ := look_range (bd := useB ways.v 128) (t := t) hok
    unfold tilesOf
    split
    · simp
    · exact winTiles_length _ _ _ _ (by omega) (by omega) (by omega) (by omega)
  have hwb : ∀ w', Kept (PS p cB zB sB) w w' → ∀ st' : St, st'.wx = st.wx → st'.wy = st.wy → st'.ww = st.ww → st'.wh = st.wh → Wts base w' ways st' [] (N + 1) := fun w' hk st' _ _ _ _ =>
    ⟨hw.bn.kept hk (fun g cur T hg hT => h.notPS hg hT), fun j => Nat.zero_le _, (fun j q hq => by cases hq), fun _ => rfl⟩
  refine drawTri_walk base p cB zB sB A n s k ways shV outV st a w h K hok t hrd dr hdr ht _ (fun hz w' hb => triPost_same base p cB zB sB A n s k ways shV outV st w pl [] N V' h hw (by rw [virt_nil]; exact h0 hz) w' hb)
    (Jn base p cB zB sB A n s k ways shV outV st w pl t K) ?_ ?_ ?_ ?_ ?_ (fun _ e => by rw [hu] at e; cases e) ?_ ?_
  · intro hto q W hW
    exact ⟨⟨st, Near.refl _ _, Int.le_refl _, Ok_mono hok (by simp), hW.dr⟩, hW.tri, by have := hW.hq; omega, (Kept.refl _ w).below hW.bel⟩
  · intro q pre W hj
    obtain ⟨st', _, _, _, hd⟩ := hj.dr
    exact ⟨hj.hq, cell_of hd.bp 41, cell_of hd.bp 28⟩
  · intro q pre A' B hb hj
    obtain ⟨⟨st', hn, hw', hok', hd⟩, hq, lq, kp⟩ := hj
    exact ⟨⟨st', hn, hw', hok', hd.frame hb⟩, (hb.block _ (lt_of_heap hq)).trans hq, lq, kp.below hb⟩
  · intro q pre A' g o x hg hx hj
    obtain ⟨⟨st', hn, hw', hok', hd⟩, hq, lq, kp⟩ := hj
    have hk := kept_put (W := A') g o
    refine ⟨⟨st', hn, hw', hok', hd.keptL hk (fun g' e => ⟨x, by rw [e]; exact hx⟩)⟩, (hk.block q (lt_of_heap hq) (by rintro rfl; rw [hq] at hx; cases hx)).trans hq, lq, ?_⟩
    exact ⟨hk.os.trans kp.os, hk.tape.trans kp.tape, hk.output.trans kp.output, Nat.le_trans kp.size hk.size, fun i hi hn' => (hk.block i (Nat.lt_of_lt_of_le hi kp.size) (by omega)).trans (kp.block i hi hn')⟩
  · intro hto q pre key rest W hx _ hlv hj
    obtain ⟨⟨st', hn, hw', hok', hd⟩, hq, lq, kp⟩ := hj
    refine ⟨⟨st', ?_, hw', Ok_mono hok' (by simp; omega), hd⟩, hq, lq, kp⟩
    rw [List.foldl_append]
    show Near pl (tileOp st.wx st.wy st.ww st.wh t key _) st'
    rw [left_out (useB ways.v 128) st t hto key hlv]
    exact hn
  · intro hto _ q pre kx ky rest W hx hlv hj hsz
    obtain ⟨⟨st', hn, hw', hok', hd⟩, hq, lq, kp⟩ := hj
    have hsm := fold_tile_same st.wx st.wy st.ww st.wh t pre st
    have hns := hn.same
    have ewx : st'.wx = st.wx := hns.2.2.2.2.1.trans hsm.1
    have ewy : st'.wy = st.wy := hns.2.2.2.2.2.1.trans hsm.2.1
    have eww : st'.ww = st.ww := hns.2.2.2.2.2.2.1.trans hsm.2.2.1
    have ewh : st'.wh = st.wh := hns.2.2.2.2.2.2.2.1.trans hsm.2.2.2.1
    have hpl36 : pre.length ≤ 36 := by
      rw [hx, List.length_append] at hlen; omega
    obtain ⟨kx', ky', hk', hTI, _⟩ := tiles_in (bd := useB ways.v 128) (t := t) hok (key := ((kx : Int), (ky : Int))) (by rw [hx]; simp)
    obtain ⟨rfl, rfl⟩ : kx = kx' ∧ ky = ky' := by simp at hk'; omega
    refine (drawTile_in base p cB zB sB A n s k ways shV outV st' q t W pl hpl _ hd hok' (by omega) hto hq kx ky (hTI.same ewx ewy eww ewh)).mono ?_
    rintro e W' ⟨rfl, ⟨st2, hn2, hw2, hd2⟩, hk2⟩
    rw [ewx, ewy, eww, ewh] at hn2
    have hw0 := hok'.work0
    have hto2 : (tileOp st.wx st.wy st.ww st.wh t ((kx : Int), (ky : Int)) st').Ok (K + 256 * pre.length + 16 * (tilePx st.wx st.wy st.ww st.wh ((kx : Int), (ky : Int))).length) := fold_ok t.a t.b t.c t.ar hto.a hto.b hto.c hto.ar hto.pos _ st' _ hok'
    have hlt := tilePx_length st.wx st.wy st.ww st.wh ((kx : Int), (ky : Int))
    refine ⟨rfl, ⟨⟨st2, ?_, by omega, Ok_mono (hn2.ok hto2 (by omega)) (by rw [List.length_append, List.length_singleton]; omega), hd2⟩, (hk2.block q (lt_of_heap hq) (tr_not_ps hd hq)).trans hq, lq, kp.trans hk2⟩, fun i h1 h2 => hk2.block i h2 (fun e => by have := hps _ e; omega), hk2.size⟩
    rw [List.foldl_append]
    exact (hn.tileOp t _).trans hn2
  · intro hto hdt q D W f hj hD hwD
    obtain ⟨⟨st', hn, hw', hok', hd⟩, hq, lq, kp⟩ := hj
    have hsm := fold_tile_same st.wx st.wy st.ww st.wh t (tilesOf (lookBx (useB ways.v 128) st t)) st
    have hns := hn.same
    have hk := kept_put (W := W) D f
    have kpD : Kept (PS p cB zB sB) w (W.putObj D f) := ⟨hk.os.trans kp.os, hk.tape.trans kp.tape, hk.output.trans kp.output, Nat.le_trans kp.size hk.size, fun i hi hn' => (hk.block i (Nat.lt_of_lt_of_le hi kp.size) (by omega)).trans (kp.block i hi hn')⟩
    refine ⟨ways, st', [], hd.keptD hk (fun g e => ⟨some [], by rw [e]; exact hD⟩), rfl, hwb _ kpD st' (hns.2.2.2.2.1.trans hsm.1) (hns.2.2.2.2.2.1.trans hsm.2.1) (hns.2.2.2.2.2.2.1.trans hsm.2.2.1) (hns.2.2.2.2.2.2.2.1.trans hsm.2.2.2.1), ?_, .inr rfl, hw', hlow _ kpD⟩
    rw [virt_nil, h1 hto hdt, ← looked_fold (useB ways.v 128) st K hok t hto]
    exact hn
end
end Go.Proofs.YthcikinkicpicaaGreatDoor

namespace Go.Proofs.YthcikinkicpicaaGreatDoor
open Go.RowKit

/-- Is a triangle put into a tile's bin? -/
def keepB (ways : Wy) (st : St) (t : Tr) (key : Int × Int) : Bool := !(useB ways.v 2 && t.leaves (partBx (useB ways.v 128) st t key))

section
variable (base : Nat) (p cB zB sB A n : Nat) (s : ByteArray) (k : Int) (ways : Wy) (shV outV : Value) (st : St) (w : World)

/-- While a triangle is put into bins. -/
structure Jb (L : List Ent) (t : Tr) (q : Nat) (pre : List (Int × Int)) (W : World) : Prop where
  ex : ∃ es ck L1, Dr base W p cB zB sB A n s k { ways with es := es, ck := ck } shV outV st ∧ Bins base W es ck L1 ∧
    (∀ j : Nat × Nat, binL L1 j = if ((j.1 : Int), (j.2 : Int)) ∈ pre.filter (keepB ways st t) then binL L j ++ [(q, t)] else binL L j) ∧ (∀ e ∈ L1, ((e.kx : Int), (e.ky : Int)) ∉ pre → e ∈ L)
  hq : W.heap[q]? = some (.cells (trT t) 165 (0, 0))
  lq : w.heap.size ≤ q
  kp : Kept (fun i => i = ways.m ∨ (base ≤ i ∧ ∃ cur, w.heap[i]? = some (.cells cur 132 (0, 0)))) w W

theorem Bins.row_ge {base : Nat} {w : World} {es : Array MapEntry} {ck : Nat} {L : List Ent} (h : Bins base w es ck L) {e : Ent} (he : e ∈ L) {g : Nat} (hg : e.v.ownBlock = some g) : base ≤ g := by
  obtain ⟨_, o2⟩ := (h.ok e he).row
  rcases o2 with ⟨o2, _⟩ | ⟨g', cap, cur, hv, hge, hh, r⟩
  · rw [o2] at hg; cases hg
  · rw [hv] at hg
    obtain rfl : g' = g := by simpa [Value.ownBlock] using hg
    exact hge
end

section
variable {base : Nat} {p cB zB sB A n : Nat} {s : ByteArray} {k : Int} {ways : Wy} {shV outV : Value} {st : St} {a : ByteArray} {w : World}

set_option maxHeartbeats 400000 in
/-- A triangle that waits. -/
theorem drawLater (pl : Prop) (hpl : pl → ∀ x, useB ways.v x = false) (h : Dr base w p cB zB sB A n s k ways shV outV st) (L : List Ent) (N : Nat) (hw : Wts base w ways st L N) (hN : N ≤ 100000000000) (K : Int) (hok : st.Ok K) (hVk : (virt L st).Ok K)
    (t : Tr) (hrd : ∀ W, Calls Tryz.prog 86 #[.string a] W fun e w' => e = .returned (.agg (triL t.a t.b t.c t.ar ⟨t.f, t.bounds⟩).toArray) ∧ Below W.heap.size W w')
    (dr : Bool) (hdr : (if st.T.faces = 1 then t.f else if st.T.faces = 2 then !t.f else true) = dr) (ht : t.ar ≠ 0 → dr = true → t.Ok) (V' : St)
    (h0 : t.ar = 0 ∨ dr = false ∨ (useB ways.v 1 = true ∧ unseenB st t = true) → Near pl V' (virt L st)) (h1 : t.Ok → dr = true → V' = triY t.a t.b t.c t.ar (virt L st).wh.toNat (virt L st).wy (virt L st)) (hu : useB ways.v 64 = true) :
    Calls Tryz.prog 59 #[.pointer (some ⟨p, 0, none⟩), .string a] w fun e w' => e = .returned (.int .i64 0) ∧ TriPost base p cB zB sB A n s k ways shV outV st w pl L N V' w' := by
  have lp := lt_of_heap h.bp
  have lm := lt_of_heap h.mp
  have hnp : ¬ pl := fun e => by rw [hpl e] at hu; cases hu
  have hnd : (tilesOf (lookBx (useB ways.v 128) st t)).Pairwise Apart := apart_of _
  refine drawTri_walk base p cB zB sB A n s k ways shV outV st a w h K hok t hrd dr hdr ht _ (fun hz w' hb => triPost_same base p cB zB sB A n s k ways shV outV st w pl L N V' h hw (h0 hz) w' hb)
    (Jb base p cB zB sB A n s k ways shV outV st w L t) ?_ ?_ ?_ ?_ ?_ ?_ (fun _ e => by rw [hu] at e; cases e) ?_
  · intro hto q W hW
    exact ⟨⟨ways.es, ways.ck, L, hW.dr, hw.bn.frame hW.bel, fun j => by simp, fun e he _ => he⟩, hW.tri, by have := hW.hq; omega, (Kept.refl _ w).below hW.bel⟩
  · intro q pre W hj
    obtain ⟨es, ck, L1, hd, _⟩ := hj.ex
    exact ⟨hj.hq, cell_of hd.bp 41, cell_of hd.bp 28⟩
  · intro q pre A' B hb hj
    obtain ⟨⟨es, ck, L1, hd, hB, h2, h3⟩, hq, lq, kp⟩ := hj
    exact ⟨⟨es, ck, L1, hd.frame hb, hB.frame hb, h2, h3⟩, (hb.block _ (lt_of_heap hq)).trans hq, lq, kp.below hb⟩
  · intro q pre A' g o x hg hx hj
    obtain ⟨⟨es, ck, L1, hd, hB, h2, h3⟩, hq, lq, kp⟩ := hj
    have hk := kept_put (W := A') g o
    refine ⟨⟨es, ck, L1, hd.keptL hk (fun g' e => ⟨x, by rw [e]; exact hx⟩), hB.keptN hk (fun g' e cur T hc => by rw [e, hx] at hc; cases hc), h2, h3⟩, (hk.block q (lt_of_heap hq) (by rintro rfl; rw [hq] at hx; cases hx)).trans hq, lq, ?_⟩
    exact ⟨hk.os.trans kp.os, hk.tape.trans kp.tape, hk.output.trans kp.output, Nat.le_trans kp.size hk.size, fun i hi hn' => (hk.block i (Nat.lt_of_lt_of_le hi kp.size) (by omega)).trans (kp.block i hi hn')⟩
  · intro hto q pre key rest W hx h2' hlv hj
    obtain ⟨⟨es, ck, L1, hd, hB, h2, h3⟩, hq, lq, kp⟩ := hj
    refine ⟨⟨es, ck, L1, hd, hB, fun j => ?_, fun e he hn => h3 e he (fun hm => hn (List.mem_append_left _ hm))⟩, hq, lq, kp⟩
    have hkf : keepB ways st t key = false := by unfold keepB; rw [h2', hlv]; rfl
    rw [List.filter_append, List.filter_cons_of_neg (by simp [hkf]), List.filter_nil, List.append_nil]
    exact h2 j
  · intro hto _ q pre kx ky rest W hx hlv hj hsz
    obtain ⟨⟨es, ck, L1, hd, hB, h2, h3⟩, hq, lq, kp⟩ := hj
    obtain ⟨kx', ky', hk', hTI, hkx, hky, _⟩ := tiles_in (bd := useB ways.v 128) (t := t) hok (key := ((kx : Int), (ky : Int))) (by rw [hx]; simp)
    obtain ⟨rfl, rfl⟩ : kx = kx' ∧ ky = ky' := by simp at hk'; omega
    have hkt : keepB ways st t ((kx : Int), (ky : Int)) = true := by
      unfold keepB
      cases hu2 : useB ways.v 2
      · rfl
      · rw [hlv hu2]; rfl
    have hnin : ((kx : Int), (ky : Int)) ∉ pre := by
      intro hm
      rw [hx, List.pairwise_append] at hnd
      have := hnd.2.2 _ hm _ List.mem_cons_self
      unfold Apart at this
      omega
    have hbl : binL L1 (kx, ky) = binL L (kx, ky) := by
      rw [h2 (kx, ky), if_neg (fun hm => hnin (List.mem_filter.1 hm).1)]
    refine (put_in (m := ways.m) (q := q) (t := t) hd.mp hB hq (kx, ky) (by dsimp only; omega) (by dsimp only; omega) N (by rw [hbl]; exact hw.len _) (by omega) (by have := h.b0; omega)).mono ?_
    rintro e W' ⟨rfl, es', ck', L', hm', hB', hb', he', hk'⟩
    have hrow : ∀ e ∈ L1, e.key = (kx, ky) → ∀ i, e.v.ownBlock = some i → base ≤ i ∧ ∃ cur, w.heap[i]? = some (.cells cur 132 (0, 0)) := by
      intro e he hke i hi
      have heL : e ∈ L := h3 e he (by
        have e1 : e.kx = kx := congrArg Prod.fst hke
        have e2 : e.ky = ky := congrArg Prod.snd hke
        rw [e1, e2]; exact hnin)
      exact ⟨hw.bn.row_ge heL hi, hw.bn.row_of heL hi⟩
    have hrowW : ∀ e ∈ L1, e.key = (kx, ky) → ∀ i, e.v.ownBlock = some i → ∃ cur, W.heap[i]? = some (.cells cur 132 (0, 0)) := fun e he _ i hi => hB.row_of he hi
    have hd' := hd.setBins hk' (fun g hg => by
      rcases hg with rfl | ⟨e, he, hke, hi⟩
      · exact .inl rfl
      · exact .inr (hrowW e he hke g hi)) es' ck' hm'
    have hlt : ∀ i, (i = ways.m ∨ ∃ e ∈ L1, e.key = (kx, ky) ∧ e.v.ownBlock = some i) → i < w.heap.size := by
      rintro i (rfl | ⟨e, he, hke, hi⟩)
      · exact lm
      · obtain ⟨_, cur, hc⟩ := hrow e he hke i hi
        exact lt_of_heap hc
    refine ⟨rfl, ⟨⟨es', ck', L', hd', hB', fun j => ?_, fun e he hn => ?_⟩, (hk'.block q (lt_of_heap hq) (fun hc => by have := hlt q hc; omega)).trans hq, lq, ?_⟩, fun i h1 h2 => hk'.block i h2 (fun hc => by have := hlt i hc; omega), hk'.size⟩
    · have hiff : ∀ x : Int × Int, x ∈ (pre ++ [((kx : Int), (ky : Int))]).filter (keepB ways st t) ↔ x ∈ pre.filter (keepB ways st t) ∨ x = ((kx : Int), (ky : Int)) := by
        intro x
        rw [List.filter_append, List.filter_cons_of_pos hkt, List.filter_nil, List.mem_append, List.mem_singleton]
      rw [hb' j]
      by_cases hj : j = (kx, ky)
      · subst hj
        rw [if_pos rfl, if_pos ((hiff _).2 (.inr rfl)), hbl]
      · have hne : ¬ (((j.1 : Int), (j.2 : Int)) = ((kx : Int), (ky : Int))) := by
          intro hc
          simp at hc
          obtain ⟨c1, c2⟩ := hc
          exact hj (Prod.ext (by show j.1 = kx; omega) (by show j.2 = ky; omega))
        rw [if_neg hj, h2 j]
        by_cases hm : ((j.1 : Int), (j.2 : Int)) ∈ pre.filter (keepB ways st t)
        · rw [if_pos hm, if_pos ((hiff _).2 (.inl hm))]
        · rw [if_neg hm, if_neg (fun hc => ((hiff _).1 hc).elim hm hne)]
    · have hne : e.key ≠ (kx, ky) := by
        intro hke
        have e1 : e.kx = kx := congrArg Prod.fst hke
        have e2 : e.ky = ky := congrArg Prod.snd hke
        exact hn (by rw [e1, e2]; simp)
      exact h3 e (he' e he hne) (fun hm => hn (List.mem_append_left _ hm))
    · refine ⟨hk'.os.trans kp.os, hk'.tape.trans kp.tape, hk'.output.trans kp.output, Nat.le_trans kp.size hk'.size, fun i hi hn' => (hk'.block i (Nat.lt_of_lt_of_le hi kp.size) (fun hc => hn' ?_)).trans (kp.block i hi hn')⟩
      rcases hc with rfl | ⟨e, he, hke, hi'⟩
      · exact .inl rfl
      · exact .inr (hrow e he hke i hi')
  · intro hto hdt q D W f hj hD hwD
    obtain ⟨⟨es, ck, L1, hd, hB, h2, h3⟩, hq, lq, kp⟩ := hj
    have hk := kept_put (W := W) D f
    have kpD : Kept (fun i => i = ways.m ∨ (base ≤ i ∧ ∃ cur, w.heap[i]? = some (.cells cur 132 (0, 0)))) w (W.putObj D f) := ⟨hk.os.trans kp.os, hk.tape.trans kp.tape, hk.output.trans kp.output, Nat.le_trans kp.size hk.size, fun i hi hn' => (hk.block i (Nat.lt_of_lt_of_le hi kp.size) (by omega)).trans (kp.block i hi hn')⟩
    have hmem : ∀ j : Nat × Nat, ((j.1 : Int), (j.2 : Int)) ∈ (tilesOf (lookBx (useB ways.v 128) st t)).filter (keepB ways st t) → TileIn st (useB ways.v 128) t j.1 j.2 := by
      intro j hj
      obtain ⟨kx, ky, hk', hTI, _⟩ := tiles_in (bd := useB ways.v 128) (t := t) hok (List.mem_filter.1 hj).1
      obtain ⟨e1, e2⟩ : j.1 = kx ∧ j.2 = ky := by simp at hk'; omega
      rw [e1, e2]; exact hTI
    refine ⟨{ ways with es := es, ck := ck }, st, L1, hd.keptD hk (fun g e => ⟨some [], by rw [e]; exact hD⟩), rfl, ⟨hB.keptN hk (fun g e cur T hc => by rw [e, hD] at hc; cases hc), fun j => ?_, fun j q' hq' => ?_, fun e => by rw [show useB ({ ways with es := es, ck := ck } : Wy).v 64 = useB ways.v 64 from rfl, hu] at e; cases e⟩, ?_, .inl rfl, Int.le_refl _, ?_⟩
    · rw [h2 j]
      have := hw.len j
      split
      · simp; omega
      · omega
    · rw [h2 j] at hq'
      split at hq'
      · rename_i hj
        rcases List.mem_append.1 hq' with hq' | hq'
        · exact hw.ok j q' hq'
        · rw [List.mem_singleton] at hq'
          subst hq'
          exact ⟨hto, hmem j hj⟩
      · exact hw.ok j q' hq'
    · have hsm := run_same st.wx st.wy st.ww st.wh (binT L) (winT st) st
      have e : V' = virt L1 st := by
        have hwT : winT (virt L st) = winT st := by
          unfold winT
          rw [show (virt L st).ww = st.ww from hsm.2.2.2.2.1, show (virt L st).wh = st.wh from hsm.2.2.2.2.2.1, show (virt L st).wx = st.wx from hsm.2.2.1, show (virt L st).wy = st.wy from hsm.2.2.2.1]
        have hf := win_fold (virt L st) K hVk t
        rw [h1 hto hdt, ← hf, hwT, show (virt L st).ww = st.ww from hsm.2.2.2.2.1, show (virt L st).wh = st.wh from hsm.2.2.2.2.2.1, show (virt L st).wx = st.wx from hsm.2.2.1, show (virt L st).wy = st.wy from hsm.2.2.2.1]
        refine binsRun_add t (binT L) (binT L1) (winT st) st (win_of st K hok) (apart_of (winBx st)) (fun key hkey => ?_)
        obtain ⟨kx, ky, rfl, ax, ay, _, _⟩ := winT_mem hok hkey
        have hb : ∀ L', binT L' ((kx : Int), (ky : Int)) = (binL L' (kx, ky)).map (·.2) := fun L' => by unfold binT; rfl
        rw [hb, hb, h2 (kx, ky)]
        by_cases hin : ((kx : Int), (ky : Int)) ∈ (tilesOf (lookBx (useB ways.v 128) st t)).filter (keepB ways st t)
        · left
          rw [if_pos hin, List.map_append]; rfl
        · right
          rw [if_neg hin]
          refine ⟨rfl, fun s' => ?_⟩
          by_cases hin2 : ((kx : Int), (ky : Int)) ∈ tilesOf (lookBx (useB ways.v 128) st t)
          · have hkf : keepB ways st t ((kx : Int), (ky : Int)) = false := by
              cases hc : keepB ways st t ((kx : Int), (ky : Int))
              · rfl
              · exact absurd (List.mem_filter.2 ⟨hin2, hc⟩) hin
            have hlv : t.leaves (partBx (useB ways.v 128) st t ((kx : Int), (ky : Int))) = true := by
              unfold keepB at hkf
              cases hc : t.leaves (partBx (useB ways.v 128) st t ((kx : Int), (ky : Int)))
              · rw [hc] at hkf; simp at hkf
              · rfl
            exact left_out (useB ways.v 128) st t hto _ hlv s'
          · exact not_looked (useB ways.v 128) st t hto _ (by dsimp only; omega) (by dsimp only; omega) hin2 s'
      rw [e]; exact Near.refl _ _
    · refine ⟨⟨kpD.os, kpD.tape, kpD.output, kpD.size, fun i hi => kpD.block i (by have := h.b0; omega) ?_⟩, fun g c hg => (kpD.block g (lt_of_heap hg) ?_).trans hg⟩
      · rintro (rfl | ⟨hge, cur, hc⟩)
        · have := h.b4; omega
        · omega
      · rintro (rfl | ⟨_, cur, hc⟩)
        · exact ne_map h.mp hg rfl
        · exact ne_types hc hg (by decide) rfl
end

theorem fold_rows (st : St) (t : Tr) : triY t.a t.b t.c t.ar st.wh.toNat st.wy st = (rowsL st.wx st.ww.toNat st.wh.toNat st.wy).foldl t.px st := triY_fold _ _ _ _ _ _ _

/-- A triangle that cannot be seen leaves what will be seen. -/
theorem unseen_near (pl : Prop) (hnp : ¬ pl) (V st : St) (K : Int) (hVk : V.Ok K) (eT : V.T = st.T) (eq_ : anyOn V.qs = anyOn st.qs) (ew : winBx V = winBx st) (t : Tr) (ht : t.Ok) (hu : unseenB st t = true) : Near pl (triY t.a t.b t.c t.ar V.wh.toNat V.wy V) V := by
  rw [fold_rows]
  unfold unseenB at hu
  rw [Bool.or_eq_true, decide_eq_true_eq, Bool.and_eq_true] at hu
  rcases hu with hu | ⟨h1, h2⟩
  · rw [fold_none t _ V (fun p hp => ?_)]
    · exact Near.refl _ _
    · cases hc : t.cov p
      · rfl
      · exfalso
        rw [mem_rowsL] at hp
        have hw : (winBx V).has p := by unfold winBx Bx.has; dsimp only; have := hVk.ww0; have := hVk.wh0; omega
        rw [ew] at hw
        have hm := (meet_has (winBx st) t.bounds p).2 ⟨hw, cov_bounds ht hc⟩
        unfold Bx.has at hm
        omega
  · obtain ⟨m, m0, hm⟩ := unseen t ht V K hVk (by rw [eT]; simpa using h1) (by rw [eT, eq_]; simpa using h2) (rowsL V.wx V.ww.toNat V.wh.toNat V.wy)
    exact near_idle hnp m0 hm

section
variable {base : Nat} {p cB zB sB A n : Nat} {s : ByteArray} {k : Int} {ways : Wy} {shV outV : Value} {st : St} {a : ByteArray} {w : World}

theorem virt_same (L : List Ent) (st : St) : (virt L st).W = st.W ∧ (virt L st).H = st.H ∧ (virt L st).wx = st.wx ∧ (virt L st).wy = st.wy ∧ (virt L st).ww = st.ww ∧ (virt L st).wh = st.wh ∧ (virt L st).sh = st.sh ∧ (virt L st).out = st.out ∧ anyOn (virt L st).qs = anyOn st.qs ∧ (virt L st).T = st.T := by
  have h1 := run_same st.wx st.wy st.ww st.wh (binT L) (winT st) st
  have h2 := run_on st.wx st.wy st.ww st.wh (binT L) (winT st) st
  exact ⟨h1.1, h1.2.1, h1.2.2.1, h1.2.2.2.1, h1.2.2.2.2.1, h1.2.2.2.2.2.1, h1.2.2.2.2.2.2.1, h1.2.2.2.2.2.2.2, h2.1, h2.2⟩

/-- A triangle, whichever the ways. -/
theorem drawOne (pl : Prop) (hpl : pl → ∀ x, useB ways.v x = false) (h : Dr base w p cB zB sB A n s k ways shV outV st) (L : List Ent) (N : Nat) (hw : Wts base w ways st L N) (hN : N ≤ 100000000000) (K : Int) (hok : st.Ok K) (hVk : (virt L st).Ok K) (hK : K + 20000 ≤ 1000000000000000)
    (t : Tr) (hrd : ∀ W, Calls Tryz.prog 86 #[.string a] W fun e w' => e = .returned (.agg (triL t.a t.b t.c t.ar ⟨t.f, t.bounds⟩).toArray) ∧ Below W.heap.size W w')
    (dr : Bool) (hdr : (if st.T.faces = 1 then t.f else if st.T.faces = 2 then !t.f else true) = dr) (ht : t.ar ≠ 0 → dr = true → t.Ok) (V' : St)
    (h0 : t.ar = 0 ∨ dr = false → V' = virt L st) (h1 : t.Ok → dr = true → V' = triY t.a t.b t.c t.ar (virt L st).wh.toNat (virt L st).wy (virt L st)) :
    Calls Tryz.prog 59 #[.pointer (some ⟨p, 0, none⟩), .string a] w fun e w' => e = .returned (.int .i64 0) ∧ TriPost base p cB zB sB A n s k ways shV outV st w pl L N V' w' := by
  have hvs := virt_same L st
  have ew : winBx (virt L st) = winBx st := by unfold winBx; rw [hvs.2.2.1, hvs.2.2.2.1, hvs.2.2.2.2.1, hvs.2.2.2.2.2.1]
  have h0' : t.ar = 0 ∨ dr = false ∨ (useB ways.v 1 = true ∧ unseenB st t = true) → Near pl V' (virt L st) := by
    intro hz
    by_cases hc : t.ar = 0 ∨ dr = false
    · rw [h0 hc]; exact Near.refl _ _
    · rcases hz with e | e | ⟨e1, e2⟩
      · exact absurd (.inl e) hc
      · exact absurd (.inr e) hc
      · have hdt : dr = true := by
          cases dr
          · exact absurd (.inr rfl) hc
          · rfl
        have hto := ht (fun e => hc (.inl e)) hdt
        rw [h1 hto hdt]
        exact unseen_near pl (fun e => by rw [hpl e] at e1; cases e1) _ st K hVk hvs.2.2.2.2.2.2.2.2.2 hvs.2.2.2.2.2.2.2.2.1 ew t hto e2
  cases hu : useB ways.v 64
  · have hL := hw.off hu
    subst hL
    rw [virt_nil] at h0' h1
    exact drawNow pl hpl h N hw K hok hK t hrd dr hdr ht V' h0' h1 hu
  · exact drawLater pl hpl h L N hw hN K hok hVk t hrd dr hdr ht V' h0' h1 hu
end

section
variable (base : Nat) (p cB zB sB A n : Nat) (s : ByteArray) (k : Int) (ways : Wy) (shV outV : Value) (st : St) (a : ByteArray) (w : World)

theorem drawTriangle_in (pl : Prop) (hpl : pl → ∀ x, useB ways.v x = false) (h : Dr base w p cB zB sB A n s k ways shV outV st) (L : List Ent) (N : Nat) (hw : Wts base w ways st L N) (hN : N ≤ 100000000000) (K : Int) (hok : st.Ok K) (hVk : (virt L st).Ok K) (hK : K + 20000 ≤ 1000000000000000) (l : List Int) (ha : ArgsOf a l) (hl : l.length = 27) :
    Calls Tryz.prog 59 #[.pointer (some ⟨p, 0, none⟩), .string a] w fun e w' => e = .returned (.int .i64 ((virt L st).cmd 9 l).2) ∧ TriPost base p cB zB sB A n s k ways shV outV st w pl L N ((virt L st).cmd 9 l).1 w' := by
  have hc : (virt L st).cmd 9 l = ((virt L st).tri (cornerOf l 0) (cornerOf l 9) (cornerOf l 18), 0) := by simp [St.cmd, badB, St.does]
  have hs : a.size = 27 := by have := ha.size; omega
  have ea := args_corner0 a (by omega) l ha.at_ (by omega)
  have eb := args_corner a 9 (by omega) l ha.at_ (by omega)
  have ec := args_corner a 18 (by omega) l ha.at_ (by omega)
  have oa := cornerOf_ok l ha.ok 0
  have ob := cornerOf_ok l ha.ok 9
  have oc := cornerOf_ok l ha.ok 18
  rw [hc]
  have hrd := fun W => readTriangle_in a _ _ _ W (by omega) ea eb ec oa ob oc
  generalize cornerOf l 0 = u at *
  generalize cornerOf l 9 = v at *
  generalize cornerOf l 18 = x at *
  have f0 := hok.T.faces0
  have f2 := hok.T.faces1
  have eT : (virt L st).T = st.T := (virt_same L st).2.2.2.2.2.2.2.2.2
  by_cases hneg : edge u v x.x x.y < 0
  · have hV : triVal u v x = .agg (triL u x v (-edge u v x.x x.y) ⟨false, Tr.bounds ⟨u, x, v, -edge u v x.x x.y, false⟩⟩).toArray := by unfold triVal; rw [if_pos hneg]; rfl
    rw [hV] at hrd
    have hsw := edge_swap u v x
    have htri : (virt L st).tri u v x = if st.T.faces = 1 then virt L st else triY u x v (-edge u v x.x x.y) (virt L st).wh.toNat (virt L st).wy (virt L st) := by
      unfold St.tri
      rw [eT]
      by_cases h1 : st.T.faces = 1
      · rw [if_pos (.inr (.inl ⟨h1, hneg⟩)), if_pos h1]
      · rw [if_neg (by omega), if_pos hneg, if_neg h1]
    refine drawOne pl hpl h L N hw hN K hok hVk hK ⟨u, x, v, -edge u v x.x x.y, false⟩ hrd (if st.T.faces = 1 then false else true) ?_ (fun _ _ => ⟨oa, oc, ob, hsw, by show 0 < -edge u v x.x x.y; omega⟩) _ (fun e => ?_) (fun _ e => ?_)
    · split
      · rfl
      · split <;> rfl
    · have h1 : st.T.faces = 1 := by
        rcases e with e | e
        · exact absurd e (by show ¬ (-edge u v x.x x.y = 0); omega)
        · by_cases h1 : st.T.faces = 1
          · exact h1
          · rw [if_neg h1] at e; cases e
      rw [htri, if_pos h1]
    · have h1 : ¬ st.T.faces = 1 := by
        intro h1; rw [if_pos h1] at e; cases e
      rw [htri, if_neg h1]
  · have hV : triVal u v x = .agg (triL u v x (edge u v x.x x.y) ⟨decide (0 < edge u v x.x x.y), Tr.bounds ⟨u, v, x, edge u v x.x x.y, decide (0 < edge u v x.x x.y)⟩⟩).toArray := by unfold triVal; rw [if_neg hneg]; rfl
    rw [hV] at hrd
    by_cases hz : edge u v x.x x.y = 0
    · have htri : (virt L st).tri u v x = virt L st := by unfold St.tri; rw [if_pos (.inl hz)]
      rw [htri]
      exact drawOne pl hpl h L N hw hN K hok hVk hK ⟨u, v, x, edge u v x.x x.y, decide (0 < edge u v x.x x.y)⟩ hrd _ rfl (fun e => absurd hz e) _ (fun _ => rfl) (fun hto => absurd hto.pos (by show ¬ (0 < edge u v x.x x.y); omega))
    · have hpos : 0 < edge u v x.x x.y := by omega
      rw [decide_eq_true hpos] at hrd
      have htri : (virt L st).tri u v x = if st.T.faces = 2 then virt L st else triY u v x (edge u v x.x x.y) (virt L st).wh.toNat (virt L st).wy (virt L st) := by
        unfold St.tri
        rw [eT]
        by_cases h1 : st.T.faces = 2
        · rw [if_pos (.inr (.inr ⟨h1, hpos⟩)), if_pos h1]
        · rw [if_neg (by omega), if_neg hneg, if_neg h1]
      refine drawOne pl hpl h L N hw hN K hok hVk hK ⟨u, v, x, edge u v x.x x.y, true⟩ hrd (if st.T.faces = 2 then false else true) ?_ (fun _ _ => ⟨oa, ob, oc, rfl, hpos⟩) _ (fun e => ?_) (fun _ e => ?_)
      · by_cases h1 : st.T.faces = 1
        · rw [if_pos h1, if_neg (by omega)]
        · rw [if_neg h1]; rfl
      · have h1 : st.T.faces = 2 := by
          rcases e with e | e
          · exact absurd e hz
          · by_cases h1 : st.T.faces = 2
            · exact h1
            · rw [if_neg h1] at e; cases e
        rw [htri, if_pos h1]
      · have h1 : ¬ st.T.faces = 2 := by
          intro h1; rw [if_pos h1] at e; cases e
        rw [htri, if_neg h1]
end
end Go.Proofs.YthcikinkicpicaaGreatDoor
