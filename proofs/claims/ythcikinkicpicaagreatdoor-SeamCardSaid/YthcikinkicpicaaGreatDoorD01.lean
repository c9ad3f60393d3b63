import Derived.Test.YthcikinkicpicaaGreatDoorA01

namespace Go.Proofs.YthcikinkicpicaaGreatDoor

/-- Commands, one after the other, from a place on. -/
def runC : List (Int × List Int) → Nat → St → St
  | [], _, st => st
  | (k, a) :: cs, i, st => runC cs (i + 1 + a.length) (st.one k a i)
/-- Their bytes. -/
def encC (cs : List (Int × List Int)) : List Int := cs.flatMap fun c => c.1 :: c.2
/-- A command as its kind asks for it. -/
def cmdOk (c : Int × List Int) : Prop := lenOk c.1 c.2

theorem encC_cons (k : Int) (a : List Int) (cs : List (Int × List Int)) : encC ((k, a) :: cs) = k :: (a ++ encC cs) := by simp [encC]

theorem lenAt_enc {s : ByteArray} {i : Nat} {k : Int} {a : List Int} (hk : byteAt s i = k) (ha : ∀ j, j < a.length → byteAt s (i + 1 + j) = a.getD j 0) (hl : lenOk k a) (hs : i + 1 + a.length ≤ s.size) : lenAt s i = (a.length : Int) := by
  unfold lenAt
  rw [hk]
  rcases hl with ⟨rfl, m, _, hl, h0⟩ | ⟨h8, _, hl⟩
  · have h1 := ha 0 (by omega)
    rw [if_pos rfl, if_neg (by omega), show i + 1 = i + 1 + 0 from rfl, h1, h0, hl]
    omega
  · rw [if_neg h8, hl]

theorem argsAt_enc {s : ByteArray} {i : Nat} {a : List Int} (ha : ∀ j, j < a.length → byteAt s (i + j) = a.getD j 0) : argsAt s i a.length = a := by
  apply List.ext_getElem?
  intro j
  by_cases hj : j < a.length
  · unfold argsAt
    rw [List.getElem?_map, List.getElem?_range hj, Option.map_some, ha j hj, List.getD_eq_getElem?_getD, List.getElem?_eq_getElem hj]
    rfl
  · rw [List.getElem?_eq_none (by rw [argsAt_len]; omega), List.getElem?_eq_none (by omega)]

/-- A stream made of commands does them. -/
theorem play_enc (s : ByteArray) : ∀ (cs : List (Int × List Int)) (f i : Nat) (st : St), (∀ c ∈ cs, cmdOk c) → s.size = i + (encC cs).length → cs.length ≤ f → (∀ j, j < (encC cs).length → byteAt s (i + j) = (encC cs).getD j 0) → playFrom s f i st = runC cs i st
  | [], f, i, st, _, hs, _, _ => by
    simp [encC] at hs
    cases f with
    | zero => rfl
    | succ f => rw [playFrom, if_pos (by omega)]; rfl
  | (k, a) :: cs, f, i, st, hok, hs, hf, hb => by
    obtain ⟨f, rfl⟩ : ∃ f', f = f' + 1 := ⟨f - 1, by simp at hf; omega⟩
    rw [encC_cons] at hs hb
    simp only [List.length_cons, List.length_append] at hs hb
    have hk : byteAt s i = k := by have := hb 0 (by omega); simpa using this
    have ha : ∀ j, j < a.length → byteAt s (i + 1 + j) = a.getD j 0 := fun j hj => by
      have := hb (j + 1) (by omega)
      rw [show i + (j + 1) = i + 1 + j from by omega] at this
      rw [this, List.getD_cons_succ, List.getD_eq_getElem?_getD, List.getD_eq_getElem?_getD, List.getElem?_append_left hj]
    have hl := lenAt_enc hk ha (hok (k, a) (by simp)) (by omega)
    rw [playFrom, if_neg (by omega), hl, if_neg (by omega), hk, Int.toNat_natCast, argsAt_enc ha, runC]
    refine play_enc s cs f (i + 1 + a.length) _ (fun c hc => hok c (by simp [hc])) (by omega) (by simp at hf; omega) (fun j hj => ?_)
    have := hb (a.length + 1 + j) (by omega)
    rw [show i + (a.length + 1 + j) = i + 1 + a.length + j from by omega, show a.length + 1 + j = a.length + j + 1 from by omega, List.getD_cons_succ] at this
    rw [this, List.getD_eq_getElem?_getD, List.getD_eq_getElem?_getD, List.getElem?_append_right (by omega)]
    congr 2
    omega

/-- A text of such bytes. -/
def textOf (l : List Int) : ByteArray := ⟨(l.map fun v => UInt8.ofNat v.toNat).toArray⟩
theorem textOf_size (l : List Int) : (textOf l).size = l.length := by
  show ((l.map fun v => UInt8.ofNat v.toNat).toArray).size = _
  simp
theorem textOf_at (l : List Int) (hb : bytesOk l) (j : Nat) (hj : j < l.length) : byteAt (textOf l) j = l.getD j 0 := by
  have hv := hb.at j
  unfold byteAt textOf
  simp only [List.getD_eq_getElem?_getD, List.getElem?_map, List.getElem?_eq_getElem hj, Option.map_some, Option.getD_some]
  rw [List.getD_eq_getElem?_getD, List.getElem?_eq_getElem hj] at hv
  simp only [Option.getD_some] at hv
  simp
  omega
theorem textOf_append (a b : List Int) : textOf a ++ textOf b = textOf (a ++ b) := by
  unfold textOf
  apply ByteArray.ext
  simp
theorem play_text (cs : List (Int × List Int)) (hok : ∀ c ∈ cs, cmdOk c) (hb : bytesOk (encC cs)) (hl : cs.length ≤ (encC cs).length) : playFrom (textOf (encC cs)) (textOf (encC cs)).size 0 st0 = runC cs 0 st0 := by
  rw [textOf_size]
  refine play_enc _ cs _ 0 st0 hok (by rw [textOf_size]; omega) hl (fun j hj => ?_)
  rw [Nat.zero_add]; exact textOf_at _ hb j hj
end Go.Proofs.YthcikinkicpicaaGreatDoor

namespace Go.Proofs.YthcikinkicpicaaGreatDoor

/-- The depth at a place of the pane's list. -/
def St.dep (st : St) (i : Nat) : Int := (st.dots.getD i dot0).d
def idxOf (st : St) (p : Int × Int) : Nat := (p.2 * st.W + p.1).toNat

/-- No shader, the depth test 'less' with depths written, the stencil test 'always'. -/
structure LessT (st : St) : Prop where
  sh : st.sh = []
  depth : st.T.depth = 1
  write : st.T.write = 1
  test : st.T.test = 7

theorem LessT.px {st : St} (h : LessT st) (u v x : Cor) (ar : Int) (p : Int × Int) : LessT (st.px u v x ar p) := by
  have hs := px_same u v x ar st p
  exact ⟨hs.2.2.2.2.2.2.2.1.trans h.sh, by rw [hs.2.2.1]; exact h.depth, by rw [hs.2.2.1]; exact h.write, by rw [hs.2.2.1]; exact h.test⟩

/-- What a pixel without a shader becomes. -/
theorem dot_plain {st : St} (h : LessT st) (d : Dot) (x y : Int) : ∃ f : Dot, f.d = d.d ∧ st.dot d x y = { st with dots := st.dots.set (y * st.W + x).toNat (dotRes st.T f (st.dots.getD (y * st.W + x).toNat dot0)).1, qs := if (dotRes st.T f (st.dots.getD (y * st.W + x).toNat dot0)).2 then st.qs.map count else st.qs } := by
  refine ⟨{ r := within d.r 0 255, g := within d.g 0 255, b := within d.b 0 255, d := d.d, s := d.s }, rfl, ?_⟩
  unfold St.dot shaded
  rw [h.sh]
  rfl

theorem res_less {T : Tst} (hd : T.depth = 1) (hw : T.write = 1) (ht : T.test = 7) (f o : Dot) : (f.d < o.d → (dotRes T f o).1.d = f.d) ∧ (¬ f.d < o.d → (dotRes T f o).1.d = o.d ∧ (dotRes T f o).2 = false) := by
  unfold dotRes
  rw [ht, hd, hw]
  have h7 : ∀ a b, testB 7 a b = true := fun a b => by simp [testB]
  have h1 : testB 1 f.d o.d = decide (f.d < o.d) := by simp [testB]
  rw [h7, h1]
  refine ⟨fun h => ?_, fun h => ?_⟩
  · simp [h]
  · simp [h]

theorem getD_set_self {l : List Dot} {i : Nat} (h : i < l.length) (o : Dot) : (l.set i o).getD i dot0 = o := by
  rw [List.getD_eq_getElem?_getD, List.getElem?_set_self h]; rfl
theorem getD_set_ne {l : List Dot} {i j : Nat} (h : i ≠ j) (o : Dot) : (l.set i o).getD j dot0 = l.getD j dot0 := by
  rw [List.getD_eq_getElem?_getD, List.getD_eq_getElem?_getD, List.getElem?_set_ne h]
theorem getD_set_out {l : List Dot} {i : Nat} (h : ¬ i < l.length) (o : Dot) : l.set i o = l := List.set_eq_of_length_le (by omega)

/-- Depths go down alone. -/
theorem px_down {st : St} (h : LessT st) (u v x : Cor) (ar : Int) (p : Int × Int) (i : Nat) : (st.px u v x ar p).dep i ≤ st.dep i := by
  unfold St.px
  split
  · obtain ⟨f, _, e⟩ := dot_plain h (pix u v x ar p.1 p.2) p.1 p.2
    rw [e]
    unfold St.dep
    show ((st.dots.set _ _).getD i dot0).d ≤ _
    by_cases hi : (p.2 * st.W + p.1).toNat < st.dots.length
    · by_cases hj : (p.2 * st.W + p.1).toNat = i
      · subst hj
        rw [getD_set_self hi]
        have hr := res_less h.depth h.write h.test f (st.dots.getD (p.2 * st.W + p.1).toNat dot0)
        by_cases hl : f.d < (st.dots.getD (p.2 * st.W + p.1).toNat dot0).d
        · rw [hr.1 hl]; omega
        · rw [(hr.2 hl).1]; exact Int.le_refl _
      · rw [getD_set_ne hj]; exact Int.le_refl _
    · rw [getD_set_out hi]; exact Int.le_refl _
  · exact Int.le_refl _

/-- Where a pixel is covered, the depth is then at most the triangle's. -/
theorem px_met {st : St} (h : LessT st) (u v x : Cor) (ar : Int) (p : Int × Int) (hi : idxOf st p < st.dots.length) (hc : covB u v x p.1 p.2 = true) : (st.px u v x ar p).dep (idxOf st p) ≤ (pix u v x ar p.1 p.2).d := by
  unfold St.px
  rw [if_pos hc]
  obtain ⟨f, hf, e⟩ := dot_plain h (pix u v x ar p.1 p.2) p.1 p.2
  rw [e]
  unfold St.dep idxOf at *
  show ((st.dots.set _ _).getD _ dot0).d ≤ _
  rw [getD_set_self hi]
  have hr := res_less h.depth h.write h.test f (st.dots.getD (p.2 * st.W + p.1).toNat dot0)
  by_cases hl : f.d < (st.dots.getD (p.2 * st.W + p.1).toNat dot0).d
  · rw [hr.1 hl, hf]; exact Int.le_refl _
  · rw [(hr.2 hl).1]; omega

theorem fold_less (u v x : Cor) (ar : Int) : ∀ (l : List (Int × Int)) (st : St), LessT st → (∀ p ∈ l, idxOf st p < st.dots.length) →
    LessT (l.foldl (St.px u v x ar) st) ∧ (∀ i, (l.foldl (St.px u v x ar) st).dep i ≤ st.dep i) ∧ (l.foldl (St.px u v x ar) st).W = st.W ∧ (l.foldl (St.px u v x ar) st).dots.length = st.dots.length ∧ ∀ p ∈ l, covB u v x p.1 p.2 = true → (l.foldl (St.px u v x ar) st).dep (idxOf st p) ≤ (pix u v x ar p.1 p.2).d
  | [], st, h, _ => ⟨h, fun _ => Int.le_refl _, rfl, rfl, fun p hp => by simp at hp⟩
  | q :: l, st, h, hi => by
    have hs := px_same u v x ar st q
    have hW : (st.px u v x ar q).W = st.W := hs.1
    have hL : (st.px u v x ar q).dots.length = st.dots.length := hs.2.2.2.2.2.2.2.2.2
    have hix : ∀ p, idxOf (st.px u v x ar q) p = idxOf st p := fun p => by unfold idxOf; rw [hW]
    obtain ⟨r1, r2, r3, r4, r5⟩ := fold_less u v x ar l (st.px u v x ar q) (h.px u v x ar q) (fun p hp => by rw [hix, hL]; exact hi p (by simp [hp]))
    rw [List.foldl_cons]
    refine ⟨r1, fun i => Int.le_trans (r2 i) (px_down h u v x ar q i), r3.trans hW, r4.trans hL, fun p hp hc => ?_⟩
    rcases List.mem_cons.1 hp with rfl | hp
    · exact Int.le_trans (r2 _) (px_met h u v x ar p (hi p (by simp)) hc)
    · have := r5 p hp hc
      rwa [hix] at this

/-- Where depths are at most the triangle's already, nothing is counted. -/
theorem foldq_none (u v x : Cor) (ar : Int) : ∀ (l : List (Int × Int)) (st : St), LessT st → (∀ p ∈ l, covB u v x p.1 p.2 = true → st.dep (idxOf st p) ≤ (pix u v x ar p.1 p.2).d) → (l.foldl (St.px u v x ar) st).qs = st.qs
  | [], _, _, _ => rfl
  | q :: l, st, h, hm => by
    have hs := px_same u v x ar st q
    have hix : ∀ p, idxOf (st.px u v x ar q) p = idxOf st p := fun p => by unfold idxOf; rw [hs.1]
    rw [List.foldl_cons, foldq_none u v x ar l (st.px u v x ar q) (h.px u v x ar q) (fun p hp hc => by rw [hix]; exact Int.le_trans (px_down h u v x ar q _) (hm p (by simp [hp]) hc))]
    unfold St.px
    split
    · rename_i hc
      obtain ⟨f, hf, e⟩ := dot_plain h (pix u v x ar q.1 q.2) q.1 q.2
      rw [e]
      have hr := res_less h.depth h.write h.test f (st.dots.getD (q.2 * st.W + q.1).toNat dot0)
      have hd := hm q (by simp) hc
      unfold St.dep idxOf at hd
      have := (hr.2 (by omega)).2
      rw [this]; rfl
    · rfl
end Go.Proofs.YthcikinkicpicaaGreatDoor

namespace Go.Proofs.YthcikinkicpicaaGreatDoor

/-- A triangle with both faces drawn: nothing, or its pixels. -/
theorem tri_form (a b c : Cor) : (∀ st : St, st.T.faces = 0 → st.tri a b c = st) ∨ ∃ u v x ar, ∀ st : St, st.T.faces = 0 → st.tri a b c = (rowsL st.wx st.ww.toNat st.wh.toNat st.wy).foldl (St.px u v x ar) st := by
  by_cases h0 : edge a b c.x c.y = 0
  · left
    intro st _
    unfold St.tri
    rw [if_pos (.inl h0)]
  · right
    by_cases hn : edge a b c.x c.y < 0
    · refine ⟨a, c, b, -edge a b c.x c.y, fun st hf => ?_⟩
      unfold St.tri
      rw [if_neg (by omega), if_pos hn, triY_fold]
    · refine ⟨a, b, c, edge a b c.x c.y, fun st hf => ?_⟩
      unfold St.tri
      rw [if_neg (by omega), if_neg hn, triY_fold]

theorem count_alloff {l : List Qry} (h : ∀ q ∈ l, q.on = false) : l.map count = l := by
  have : l.map count = l.map id := List.map_congr_left (fun q hq => by unfold count; rw [h q hq]; rfl)
  rw [this, List.map_id]
theorem px_off (u v x : Cor) (ar : Int) (st : St) (p : Int × Int) (h : ∀ q ∈ st.qs, q.on = false) : (st.px u v x ar p).qs = st.qs := by
  unfold St.px
  split
  · unfold St.dot
    split
    · rfl
    · show (if _ then st.qs.map count else st.qs) = _
      split
      · exact count_alloff h
      · rfl
  · rfl
theorem fold_off (u v x : Cor) (ar : Int) : ∀ (l : List (Int × Int)) (st : St), (∀ q ∈ st.qs, q.on = false) → (l.foldl (St.px u v x ar) st).qs = st.qs
  | [], _, _ => rfl
  | p :: l, st, h => by
    have e := px_off u v x ar st p h
    rw [List.foldl_cons, fold_off u v x ar l _ (by rw [e]; exact h), e]
theorem fold_still (u v x : Cor) (ar : Int) : ∀ (l : List (Int × Int)) (st : St), (l.foldl (St.px u v x ar) st).T = st.T ∧ (l.foldl (St.px u v x ar) st).W = st.W ∧ (l.foldl (St.px u v x ar) st).H = st.H ∧ (l.foldl (St.px u v x ar) st).wx = st.wx ∧ (l.foldl (St.px u v x ar) st).wy = st.wy ∧
    (l.foldl (St.px u v x ar) st).ww = st.ww ∧ (l.foldl (St.px u v x ar) st).wh = st.wh ∧ (l.foldl (St.px u v x ar) st).sh = st.sh ∧ (l.foldl (St.px u v x ar) st).out = st.out ∧ (l.foldl (St.px u v x ar) st).dots.length = st.dots.length
  | [], _ => ⟨rfl, rfl, rfl, rfl, rfl, rfl, rfl, rfl, rfl, rfl⟩
  | p :: l, st => by
    have h := px_same u v x ar st p
    have r := fold_still u v x ar l (st.px u v x ar p)
    rw [List.foldl_cons]
    obtain ⟨h1, h2, h3, h4, h5, h6, h7, h8, h9, h10⟩ := h
    obtain ⟨r1, r2, r3, r4, r5, r6, r7, r8, r9, r10⟩ := r
    exact ⟨r1.trans h3, r2.trans h1, r3.trans h2, r4.trans h4, r5.trans h5, r6.trans h6, r7.trans h7, r8.trans h8, r9.trans h9, r10.trans h10⟩

theorem one_tri (st : St) (l : List Int) (i : Int) : st.one 9 l i = st.tri (cornerOf l 0) (cornerOf l 9) (cornerOf l 18) := by
  simp [St.one, badB, St.does]

/-- The pane with the depth test 'less'. -/
def stLess : St := { st0 with T := { T0 with depth := 1, write := 1 } }
theorem one_less : st0.one 3 [1, 1] 0 = stLess := rfl

/-- A query is begun where it is off; ended; told. -/
theorem one_begin (st : St) (i : Int) (h : (st.qs.getD 0 { ever := false, on := false, n := 0 }).on = false) : st.one 10 [0] i = { st with qs := st.qs.set 0 { ever := true, on := true, n := 0 } } := by
  have e : st.query 10 0 = ({ st with qs := st.qs.set 0 { ever := true, on := true, n := 0 } }, 0) := by
    rw [List.getD_eq_getElem?_getD] at h
    simp [St.query, h]
  unfold St.one
  simp [badB, St.does, e]
theorem one_end (st : St) (i : Int) (h : (st.qs.getD 0 { ever := false, on := false, n := 0 }).on = true) : st.one 11 [0] i = { st with qs := st.qs.set 0 { (st.qs.getD 0 { ever := false, on := false, n := 0 }) with on := false } } := by
  have e : st.query 11 0 = ({ st with qs := st.qs.set 0 { (st.qs.getD 0 { ever := false, on := false, n := 0 }) with on := false } }, 0) := by
    rw [List.getD_eq_getElem?_getD] at h
    simp [St.query, h]
  unfold St.one
  simp [badB, St.does, e]
theorem one_tell (st : St) (i : Int) (h : (st.qs.getD 0 { ever := false, on := false, n := 0 }).on = false) (h2 : (st.qs.getD 0 { ever := false, on := false, n := 0 }).ever = true) : st.one 14 [0] i = { st with out := st.out ++ [{ k := 4, a := 0, b := (st.qs.getD 0 { ever := false, on := false, n := 0 }).n, c := 0 }] } := by
  have e : st.query 14 0 = ({ st with out := st.out ++ [{ k := 4, a := 0, b := (st.qs.getD 0 { ever := false, on := false, n := 0 }).n, c := 0 }] }, 0) := by
    rw [List.getD_eq_getElem?_getD] at h h2
    simp [St.query, h, h2]
  unfold St.one
  simp [badB, St.does, e]

theorem off0 : ∀ q ∈ stLess.qs, q.on = false := by
  intro q hq
  have hq' : q ∈ [q0, q0, q0, q0] := hq
  simp at hq'
  subst hq'
  rfl

theorem again_run (l : List Int) : (runC [(3, [1, 1]), (9, l), (10, [0]), (9, l), (11, [0]), (14, [0])] 0 st0).out = [{ k := 4, a := 0, b := 0, c := 0 }] := by
  have fin : ∀ (st : St) (i j : Int), st.qs = [{ ever := true, on := true, n := 0 }, q0, q0, q0] → st.out = [] → ((st.one 11 [0] i).one 14 [0] j).out = [{ k := 4, a := 0, b := 0, c := 0 }] := by
    intro st i j hq ho
    have h1 : (st.qs.getD 0 { ever := false, on := false, n := 0 }).on = true := by rw [hq]; rfl
    rw [one_end st i h1]
    rw [one_tell _ j (by rw [hq]; rfl) (by rw [hq]; rfl)]
    show st.out ++ _ = _
    rw [ho, hq]
    rfl
  simp only [runC]
  rw [show ((0 : Nat) : Int) = 0 from rfl, one_less]
  simp only [one_tri]
  generalize cornerOf l 0 = a
  generalize cornerOf l 9 = b
  generalize cornerOf l 18 = c
  rcases tri_form a b c with hz | ⟨u, v, x, ar, hf⟩
  · rw [hz stLess rfl, one_begin stLess _ rfl, hz _ rfl]
    exact fin _ _ _ rfl rfl
  · have e1 := hf stLess rfl
    have hs := fold_still u v x ar (rowsL stLess.wx stLess.ww.toNat stLess.wh.toNat stLess.wy) stLess
    have hq := fold_off u v x ar (rowsL stLess.wx stLess.ww.toNat stLess.wh.toNat stLess.wy) stLess off0
    have hl := fold_less u v x ar (rowsL stLess.wx stLess.ww.toNat stLess.wh.toNat stLess.wy) stLess ⟨rfl, rfl, rfl, rfl⟩ (fun p hp => by
      rw [mem_rowsL] at hp
      have h1 : stLess.dots.length = 64 := by show (List.replicate 64 dot1).length = 64; simp
      have h2 : stLess.wx = 0 := rfl
      have h3 : stLess.wy = 0 := rfl
      have h4 : stLess.ww.toNat = 8 := rfl
      have h5 : stLess.wh.toNat = 8 := rfl
      have h6 : stLess.W = 8 := rfl
      unfold idxOf
      rw [h1, h6]
      omega)
    rw [e1]
    generalize hS : (rowsL stLess.wx stLess.ww.toNat stLess.wh.toNat stLess.wy).foldl (St.px u v x ar) stLess = S at *
    obtain ⟨s1, s2, s3, s4, s5, s6, s7, s8, s9, s10⟩ := hs
    have hq0 : S.qs = [q0, q0, q0, q0] := hq
    rw [one_begin S _ (by rw [hq0]; rfl)]
    rw [hf { S with qs := S.qs.set 0 { ever := true, on := true, n := 0 } } (by show S.T.faces = 0; rw [s1]; rfl)]
    have hn := foldq_none u v x ar (rowsL S.wx S.ww.toNat S.wh.toNat S.wy) { S with qs := S.qs.set 0 { ever := true, on := true, n := 0 } } ⟨hl.1.sh, hl.1.depth, hl.1.write, hl.1.test⟩ (fun p hp hc => by
      rw [s4, s5, s6, s7] at hp
      have := hl.2.2.2.2 p hp hc
      have e : idxOf stLess p = idxOf S p := by unfold idxOf; rw [s2]
      rw [e] at this
      exact this)
    have ho := (fold_still u v x ar (rowsL S.wx S.ww.toNat S.wh.toNat S.wy) { S with qs := S.qs.set 0 { ever := true, on := true, n := 0 } }).2.2.2.2.2.2.2.2.1
    refine fin _ _ _ ?_ ?_
    · refine hn.trans ?_
      show S.qs.set 0 _ = _
      rw [hq0]; rfl
    · exact ho.trans (s9.trans rfl)
end Go.Proofs.YthcikinkicpicaaGreatDoor
