import Derived.RangeFuncNested
import Derived.RangeFuncBound
import Derived.RangeFuncCalls
import Derived.RangeFuncLeaves
import Derived.OwnWalkIn
import Derived.Test.YtifloehpdkfchaaDoorA02
import Derived.Shelf.Abstract
import Derived.Shelf.RegionOpen
import Derived.WalkKit
import Derived.TacticsInMore
import Derived.LoopNIn
import Derived.LoopIn
import Derived.Sort.LoopGhostIn

namespace Go.Proofs.YtifloehpdkfchaaDoor
open Go.RowKit

/-- An iterator hands over the members of xs, one by one, to rounds that always go on; R is what it reads between them. -/
def Iter {α : Type} (P : Program) (gf : Nat) (args : Nat → Array Value) (encs : α → Array Value) (xs : List α) (R : World → Prop) : Prop :=
  ∀ (l base : Nat) (J : List α → World → Prop) (W : World),
    (∀ pre A B, base ≤ A.heap.size → Below base A B → J pre A → J pre B) → (∀ pre A, J pre A → base ≤ A.heap.size ∧ R A) →
    (∀ pre x rest A, xs = pre ++ x :: rest → J pre A → YieldAt Fence.wide 0 P l (encs x) A fun e B => e = .returned (.bool true) ∧ J (pre ++ [x]) B ∧ ∀ k, base ≤ k → k < A.heap.size → B.heap[k]? = A.heap[k]?) →
    J [] W → CallsIn Fence.wide 0 P gf (args l) W fun e B => (∃ v, e = .returned v) ∧ J xs B

theorem below_put {n : Nat} {W : World} {l : Nat} (h : n ≤ l) (o : Obj) : Below n W (W.putObj l o) :=
  ⟨rfl, rfl, rfl, by simp, fun _ hk => World.putObj_heap_other (by omega)⟩

/-- A range over a bound method whose rounds all go on. -/
theorem range_law {P : Program} {α : Type} {g : Operand} {ps : Array Tmp} {assign body : Code} {Q : Exit → Act → World → Prop} {a : Act} {w : World} {gf : Nat} {r : Value}
    (hg : a.eval g = .func (.func gf) #[r] #[]) (eg : ∀ args w, (callFunc gf args).run P w = .ok (.enter gf args) w) {encs : α → Array Value} {xs : List α} {R : World → Prop}
    (hit : Iter P gf (fun l => #[r, .func (.yield l) #[] #[]]) encs xs R) (hps : ∀ x, (encs x).size = ps.size) (I : List α → World → Prop)
    (hI : ∀ pre A B, w.heap.size ≤ A.heap.size → Below w.heap.size A B → I pre A → I pre B) (hR : ∀ pre A, I pre A → w.heap.size ≤ A.heap.size ∧ R A) (h0 : I [] w) (a₁ : α → Act)
    (hassign : ∀ (l : Nat) (x : α) (W : World) (K : Act → World → Prop), K (a₁ x) W →
      assign.wpIn (Fence.wide.inRound l) 0 P (Exit.then K (fun _ _ _ => False)) { tmps := (ps.zip (encs x)).foldl (fun t (p, v) => t.setIfInBounds p v) a.tmps, defers := [] } W)
    (hbody : ∀ (l : Nat) (pre : List α) (x : α) (rest : List α) (W : World), xs = pre ++ x :: rest → I pre W →
      body.wpIn (Fence.wide.inRound l) 0 P (fun e _ W' => e = .normal ∧ I (pre ++ [x]) W' ∧ ∀ k, w.heap.size ≤ k → k < W.heap.size → W'.heap[k]? = W.heap[k]?) (a₁ x) W)
    (hdone : ∀ (D : Nat) (W : World), w.heap.size ≤ D → I xs W → W.heap[D]? = some (.deferred (some [])) → Q .normal { a with defers := { target := .collected D, args := #[] } :: a.defers } W) :
    (Code.rangeFunc g ps assign body).wpIn Fence.wide 0 P Q a w := by
  refine wpIn_rangeFunc ?_
  intro fn hfn
  obtain ⟨rec, hrec⟩ : ∃ rec : LoopState → Loop, rec = fun st => { state := st, pending := none, fn, tmps := a.tmps, params := ps, assign, body, defers := w.heap.size } := ⟨_, rfl⟩
  obtain ⟨W1, hW1⟩ : ∃ W1, (w.alloc (.deferred (some []))).alloc (.loop (rec .ready)) = W1 := ⟨_, rfl⟩
  have hs1 : W1.heap.size = w.heap.size + 2 := by rw [← hW1]; simp
  have hl1 : W1.heap[w.heap.size + 1]? = some (.loop (rec .ready)) := by
    rw [← hW1]; have := World.alloc_heap_new (w.alloc (.deferred (some []))) (.loop (rec .ready)); rwa [World.size_alloc] at this
  have hd1 : W1.heap[w.heap.size]? = some (.deferred (some [])) := by
    rw [← hW1]; exact (Below.heap_alloc _ _ _ (by simp)).trans (World.alloc_heap_new w _)
  have hb1 : Below w.heap.size w W1 := by
    rw [← hW1]; exact ((Below.refl _ w).alloc (Nat.le_refl _) _).alloc (by simp) _
  refine ⟨w.heap.size + 1, [{ target := .collected w.heap.size, args := #[] }], W1, { target := .fn (.func gf) #[], args := #[r, .func (.yield (w.heap.size + 1)) #[] #[]] }, W1, gf,
    #[r, .func (.yield (w.heap.size + 1)) #[] #[]], W1, ?_, ?_, ?_, ?_, ?_, ?_⟩
  · rw [← hW1, hrec]; exact run_enterLoop_outer _ _ _ _ _
  · simp only [resolve, hg]
    simp [go_sem]
  · intro f' _; trivial
  · simp [invoke, go_sem, eg]
  · intro h; simp [Fence.wide] at h
  · refine (hit (w.heap.size + 1) (w.heap.size + 2)
      (fun pre W => I pre W ∧ W.heap[w.heap.size + 1]? = some (.loop (rec .ready)) ∧ W.heap[w.heap.size]? = some (.deferred (some []))) W1 ?_ ?_ ?_ ⟨hI [] w W1 (Nat.le_refl _) hb1 h0, hl1, hd1⟩).mono ?_
    · rintro pre A B hsz hb ⟨hi, hl, hd⟩
      exact ⟨hI pre A B (by omega) (hb.mono (by omega)) hi, (hb.block _ (by omega)).trans hl, (hb.block _ (by omega)).trans hd⟩
    · rintro pre A ⟨hi, hl, hd⟩
      have := (Array.getElem?_eq_some_iff.1 hl).1
      exact ⟨by omega, (hR pre A hi).2⟩
    · rintro pre x rest A hxs ⟨hi, hl, hd⟩
      have hlt := (Array.getElem?_eq_some_iff.1 hl).1
      have hy := run_yield (P := P) (args := encs x) hl (by rw [hrec]; exact hps x)
      rw [hrec] at hy
      refine ⟨fn, _, assign, body, hy, roundIn_of_wpIn hfn (hassign _ x A _ ⟨_, run_beginRound hl (by rw [hrec]), ?_⟩)⟩
      obtain ⟨A2, hA2⟩ : ∃ A2, A.putObj (w.heap.size + 1) (.loop { rec .ready with state := .busy }) = A2 := ⟨_, rfl⟩
      have hl2 : A2.heap[w.heap.size + 1]? = some (.loop { rec .ready with state := .busy }) := by rw [← hA2]; exact World.putObj_heap_same hlt
      have hd2 : A2.heap[w.heap.size]? = some (.deferred (some [])) := by rw [← hA2]; exact (World.putObj_heap_other (by omega)).trans hd
      have hi2 : I pre A2 := by rw [← hA2]; exact hI pre A _ (by omega) (below_put (by omega) _) hi
      have hlt2 := (Array.getElem?_eq_some_iff.1 hl2).1
      rw [hA2]
      refine wpIn_mono (hbody _ pre x rest A2 hxs hi2) ?_
      rintro e a3 W3 ⟨rfl, hi3, hk3⟩
      have hl3 := (hk3 _ (by omega) hlt2).trans hl2
      have hd3 := (hk3 _ (Nat.le_refl _) (by omega)).trans hd2
      have hlt3 := (Array.getElem?_eq_some_iff.1 hl3).1
      have he := run_endRound (P := P) none hl3
      have hsz2 : A2.heap.size = A.heap.size := by rw [← hA2]; exact World.putObj_size
      refine ⟨_, _, he, rfl, ⟨hI _ W3 _ (by omega) (below_put (by omega) _) hi3, ?_, ?_⟩, fun k hk1 hk2 => (World.putObj_heap_other (by omega)).trans ((hk3 k (by omega) (by omega)).trans (by rw [← hA2]; exact World.putObj_heap_other (by omega)))⟩
      · rw [World.putObj_heap_same hlt3]
        rw [hrec]; rfl
      · exact (World.putObj_heap_other (by omega)).trans hd3
    · rintro e B ⟨⟨v, rfl⟩, hi, hl, hd⟩
      have hlt := (Array.getElem?_eq_some_iff.1 hl).1
      refine ⟨none, _, ?_, hdone w.heap.size (B.putObj (w.heap.size + 1) (.loop { rec .ready with state := .exhausted })) (Nat.le_refl _) (hI _ B _ (by omega) (below_put (by omega) _) hi) ((World.putObj_heap_other (by omega)).trans hd)⟩
      have := run_endLoop (P := P) hl (by rw [hrec]; simp)
      rw [this, hrec]

/-- A slice is made whole, inside a fence. -/
theorem make_all {F : Fence} {m : Nat} {P : Program} (w : World) {ops : Array Oper} {rest : List Oper} {o : Oper} {a : Act} {Q : Exit → Act → World → Prop} (hg : o.guard = none) (l c : Operand) (t : TypeId) (hop : o.op = Op.makeSlice t l c)
    (base : Nat) (e : TypeId) (i : TypeInfo) (z : Value) (size : Nat) (h1 : P.underlying t = some (.slice e)) (h2 : P.info? e = some i) (h3 : i.zero = some z) (h4 : i.size = size)
    (kl kc : IntKind) (L C : Int) (n : Nat) (hl : a.eval l = .int kl L) (hc : a.eval c = .int kc C) (hL : L = (n : Int)) (hC : C = (n : Int)) (b2 : i.bytes * n ≤ 281474976710656) (b3 : n ≤ maxLen) (b4 : base ≤ w.heap.size)
    (hK : ∀ w', w'.ownsRow base e size (.slice (some ⟨w.heap.size, 0, none⟩) n n) n (madeCells z.cells (n * size)).toList → w.grownBy w' none → wpListIn F m P ops Q rest (a.put o.dst (.slice (some ⟨w.heap.size, 0, none⟩) n n)) w') :
    wpListIn F m P ops Q (o :: rest) a w := by
  subst hL hC
  obtain ⟨w', hrun, r1, r2⟩ := run_make_full (P := P) w base t e i z size h1 h2 h3 h4 kl kc n b2 b3 b4
  refine wpListIn_plain hg fun K hK' => ⟨by simp [Oper.about, hop], ?_⟩
  rw [Oper.semAt_plain F _ _ (by rw [hop]; intro c hc'; cases hc')]
  simp [execOp, hop, hl, hc, hrun, Result.andThen]
  exact hK' _ _ (hK w' r1 r2)

end Go.Proofs.YtifloehpdkfchaaDoor

namespace Go.Proofs.YtifloehpdkfchaaDoor
open Go.RowKit

/-- Where a pixel lies: its tile, its place in the tile. -/
def tNo (A X Y : Nat) : Nat := Y / 4 * A + X / 4
def iNo (X Y : Nat) : Nat := Y % 4 * 4 + X % 4
theorem iNo_lt (X Y : Nat) : iNo X Y < 16 := by unfold iNo; omega

/-- A surface's cells: n tiles, each with its mark, its one value and its sixteen; what pixel i of tile t is: f t i. -/
structure TilesU (cur : Array Value) (K : IntKind) (n : Nat) (f : Nat → Nat → Int) : Prop where
  sz : cur.size = n * 18
  at_ : ∀ t, t < n → ∃ (m : Bool) (a : Int), cur[t * 18]? = some (.bool m) ∧ cur[t * 18 + 1]? = some (.int K a) ∧ (m = true → ∀ i, i < 16 → a = f t i) ∧
    ∀ i, i < 16 → ∃ v : Int, cur[t * 18 + 2 + i]? = some (.int K v) ∧ (m = false → v = f t i)

/-- A surface at p, o: its header, its tiles' block. -/
structure SurfU (w : World) (p o tB A n : Nat) (K : IntKind) (T : TypeId) (f : Nat → Nat → Int) : Prop where
  hA : w.cell? ⟨p, o, none⟩ = some (.int .i64 A)
  hT : w.cell? ⟨p, o + 1, none⟩ = some (.slice (some ⟨tB, 0, none⟩) n n)
  blk : ∃ cur, w.heap[tB]? = some (.cells cur T (0, 0)) ∧ TilesU cur K n f

theorem TilesU.step {cur cur' : Array Value} {K : IntKind} {n t : Nat} {f f' : Nat → Nat → Int} (h : TilesU cur K n f) (hs : cur'.size = cur.size)
    (hoth : ∀ j, ¬ (t * 18 ≤ j ∧ j < t * 18 + 18) → cur'[j]? = cur[j]?) (hf : ∀ t', t' ≠ t → ∀ i, f' t' i = f t' i)
    (ht : t < n → ∃ (m : Bool) (a : Int), cur'[t * 18]? = some (.bool m) ∧ cur'[t * 18 + 1]? = some (.int K a) ∧ (m = true → ∀ i, i < 16 → a = f' t i) ∧
      ∀ i, i < 16 → ∃ v : Int, cur'[t * 18 + 2 + i]? = some (.int K v) ∧ (m = false → v = f' t i)) : TilesU cur' K n f' := by
  refine ⟨by rw [hs]; exact h.sz, fun t' ht' => ?_⟩
  by_cases e : t' = t
  · subst e; exact ht ht'
  · obtain ⟨m, a, c0, c1, hm, hp⟩ := h.at_ t' ht'
    refine ⟨m, a, ?_, ?_, ?_, ?_⟩
    · rw [hoth _ (by omega)]; exact c0
    · rw [hoth _ (by omega)]; exact c1
    · intro hm' i hi; rw [hf t' e]; exact hm hm' i hi
    · intro i hi
      obtain ⟨v, c2, hv⟩ := hp i hi
      exact ⟨v, by rw [hoth _ (by omega)]; exact c2, fun hm' => by rw [hf t' e]; exact hv hm'⟩

/-- A tile is filled as far as k. -/
structure FillIs (cur cur' : Array Value) (t k : Nat) (v : Value) : Prop where
  sz : cur'.size = cur.size
  at_ : ∀ j, cur'[j]? = if j = t * 18 then some (.bool false) else if t * 18 + 2 ≤ j ∧ j < t * 18 + 2 + k then some v else cur[j]?

theorem FillIs.zero {cur : Array Value} {t : Nat} (v : Value) (h : t * 18 < cur.size) : FillIs cur (cur.setIfInBounds (t * 18) (.bool false)) t 0 v := by
  refine ⟨by simp, fun j => ?_⟩
  by_cases e : j = t * 18
  · subst e; simp [h]
  · rw [if_neg e, if_neg (by omega), Array.getElem?_setIfInBounds_ne (by omega)]
theorem FillIs.succ {cur cur' : Array Value} {t k : Nat} {v : Value} (h : FillIs cur cur' t k v) (hk : t * 18 + 2 + k < cur.size) : FillIs cur (cur'.setIfInBounds (t * 18 + 2 + k) v) t (k + 1) v := by
  refine ⟨by simp [h.sz], fun j => ?_⟩
  by_cases e : j = t * 18 + 2 + k
  · subst e
    rw [if_neg (by omega), if_pos (by omega)]
    simp [h.sz, hk]
  · rw [Array.getElem?_setIfInBounds_ne (by omega), h.at_ j]
    by_cases e0 : j = t * 18
    · rw [if_pos e0, if_pos e0]
    · rw [if_neg e0, if_neg e0]
      by_cases e1 : t * 18 + 2 ≤ j ∧ j < t * 18 + 2 + k
      · rw [if_pos e1, if_pos (by omega)]
      · rw [if_neg e1, if_neg (by omega)]

theorem FillIs.tiles {cur cur' : Array Value} {K : IntKind} {n t : Nat} {f : Nat → Nat → Int} {v : Int} (h : FillIs cur cur' t 16 (.int K v)) (hT : TilesU cur K n f) (ht : t < n) :
    TilesU cur' K n (fun t' i => if t' = t then v else f t' i) ∧ cur'[t * 18]? = some (.bool false) := by
  have h0 : cur'[t * 18]? = some (.bool false) := by rw [h.at_, if_pos rfl]
  refine ⟨hT.step h.sz (fun j hj => ?_) (fun t' e i => if_neg e) (fun _ => ?_), h0⟩
  · rw [h.at_, if_neg (by omega), if_neg (by omega)]
  · obtain ⟨m, a, c0, c1, hm, hp⟩ := hT.at_ t ht
    refine ⟨false, a, h0, ?_, (by simp), fun i hi => ⟨v, ?_, fun _ => by simp⟩⟩
    · rw [h.at_, if_neg (by omega), if_neg (by omega)]; exact c1
    · rw [h.at_, if_neg (by omega), if_pos (by omega)]

theorem set_at {cur : Array Value} {i : Nat} (h : i < cur.size) (v : Value) : (cur.setIfInBounds i v)[i]? = some v := by simp [h]

theorem TilesU.mark {cur : Array Value} {K : IntKind} {n t : Nat} {f : Nat → Nat → Int} (h : TilesU cur K n f) (ht : t < n) (a : Int) :
    TilesU ((cur.setIfInBounds (t * 18) (.bool true)).setIfInBounds (t * 18 + 1) (.int K a)) K n (fun t' i => if t' = t then a else f t' i) := by
  have hs := h.sz
  refine h.step (t := t) (by simp) (fun j hj => ?_) (fun t' e i => if_neg e) (fun _ => ?_)
  · rw [Array.getElem?_setIfInBounds_ne (by omega), Array.getElem?_setIfInBounds_ne (by omega)]
  · obtain ⟨m, a', c0, c1, hm, hp⟩ := h.at_ t ht
    refine ⟨true, a, ?_, ?_, fun _ i _ => by simp, fun i hi => ?_⟩
    · rw [Array.getElem?_setIfInBounds_ne (by omega)]; exact set_at (by omega) _
    · exact set_at (by rw [Array.size_setIfInBounds]; omega) _
    · obtain ⟨v, c2, _⟩ := hp i hi
      exact ⟨v, by rw [Array.getElem?_setIfInBounds_ne (by omega), Array.getElem?_setIfInBounds_ne (by omega)]; exact c2, fun h => by simp at h⟩

/-- What a pixel's value becomes. -/
def upd (f : Nat → Nat → Int) (t i : Nat) (v : Int) : Nat → Nat → Int := fun t' i' => if t' = t ∧ i' = i then v else f t' i'

theorem TilesU.put {cur : Array Value} {K : IntKind} {n t i : Nat} {f : Nat → Nat → Int} (h : TilesU cur K n f) (ht : t < n) (hi : i < 16) (h0 : cur[t * 18]? = some (.bool false)) (v : Int) :
    TilesU (cur.setIfInBounds (t * 18 + 2 + i) (.int K v)) K n (upd f t i v) := by
  have hs := h.sz
  refine h.step (t := t) (by simp) (fun j hj => ?_) (fun t' e i => if_neg (by rintro ⟨h, _⟩; exact e h)) (fun _ => ?_)
  · rw [Array.getElem?_setIfInBounds_ne (by omega)]
  · obtain ⟨m, a', c0, c1, hm, hp⟩ := h.at_ t ht
    rw [h0] at c0
    simp at c0
    subst c0
    refine ⟨false, a', ?_, ?_, (by simp), fun i' hi' => ?_⟩
    · rw [Array.getElem?_setIfInBounds_ne (by omega)]; exact h0
    · rw [Array.getElem?_setIfInBounds_ne (by omega)]; exact c1
    · by_cases e : i' = i
      · subst e
        exact ⟨v, set_at (by omega) _, fun _ => by simp [upd]⟩
      · obtain ⟨v', c2, hv⟩ := hp i' hi'
        exact ⟨v', by rw [Array.getElem?_setIfInBounds_ne (by omega)]; exact c2, fun hm' => by rw [hv hm']; exact (if_neg (by rintro ⟨_, h⟩; exact e h)).symm⟩

theorem TilesU.congr {cur : Array Value} {K : IntKind} {n : Nat} {f f' : Nat → Nat → Int} (h : TilesU cur K n f) (e : ∀ t, t < n → ∀ i, i < 16 → f' t i = f t i) : TilesU cur K n f' := by
  refine ⟨h.sz, fun t ht => ?_⟩
  obtain ⟨m, a, c0, c1, hm, hp⟩ := h.at_ t ht
  exact ⟨m, a, c0, c1, fun hm' i hi => by rw [e t ht i hi]; exact hm hm' i hi, fun i hi => by
    obtain ⟨v, c2, hv⟩ := hp i hi
    exact ⟨v, c2, fun hm' => by rw [e t ht i hi]; exact hv hm'⟩⟩

theorem owned_blk {w : World} {base B n : Nat} {e : TypeId} {size : Nat} {xs : List Value} (h : w.ownsRow base e size (.slice (some ⟨B, 0, none⟩) n n) n xs) : w.heap[B]? = some (.cells xs.toArray e (0, 0)) := by
  obtain ⟨h1, h2⟩ := h
  rcases h2 with ⟨h2, _⟩ | ⟨g, cap, cur, hv, _, hh, _, _, hs, ht⟩
  · cases h2
  · have hv' := hv
    injection hv' with e1 e2 e3
    injection e1 with e1
    injection e1 with e1
    subst e1 e3
    rw [hh]
    rw [List.take_of_length_le (by simp [hs])] at ht
    rw [← ht]

theorem made_at (z : Array Value) (N j : Nat) (h : j < N) : (madeCells z N)[j]? = some (z[j % z.size]!) := by simp [madeCells, h]

theorem kept_set1 {w : World} (b o : Nat) (v : Value) : Kept (· = b) w (w.setCell ⟨b, o, none⟩ v) := (Kept.refl (· = b) w).set (.inl rfl) o v

theorem range_split {n x : Nat} {pre rest : List Nat} (h : List.range n = pre ++ x :: rest) : x = pre.length ∧ x < n ∧ pre = List.range pre.length := by
  have h1 : (List.range n)[pre.length]? = some x := by rw [h]; simp
  have hl : pre.length < n := by
    have := congrArg List.length h
    simp at this; omega
  rw [List.getElem?_range hl] at h1
  simp at h1
  refine ⟨h1.symm, by omega, ?_⟩
  have h2 := congrArg (List.take pre.length) h
  rw [List.take_left, List.take_range, Nat.min_eq_left (by omega)] at h2
  exact h2.symm

end Go.Proofs.YtifloehpdkfchaaDoor

namespace Go.Proofs.YtifloehpdkfchaaDoor
open Go.RowKit Go.Shelf
attribute [local go_sem] Oper.semAt_some

@[reducible] def boxV (x y c r : Int) : Value := .agg #[.int .i64 x, .int .i64 y, .int .i64 c, .int .i64 r]

/-- How many tiles a line of the window meets. -/
def nTiles (x c : Int) : Nat := ((x + c - (x - x % 4) + 3) / 4).toNat

theorem tileRow_snoc (y : Int) : ∀ (n : Nat) (x : Int), tileRow y (n + 1) x = tileRow y n x ++ [(x + 4 * n, y)]
  | 0, x => by simp [tileRow]
  | n + 1, x => by
    rw [tileRow, tileRow_snoc y n (x + 4), tileRow]
    have e : x + 4 + 4 * (n : Int) = x + 4 * ((n + 1 : Nat) : Int) := by omega
    rw [e]; rfl
theorem tilesL_snoc (x : Int) (nx : Nat) : ∀ (n : Nat) (y : Int), tilesL x nx (n + 1) y = tilesL x nx n y ++ tileRow (y + 4 * n) nx x
  | 0, y => by simp [tilesL]
  | n + 1, y => by
    rw [tilesL, tilesL_snoc x nx n (y + 4), tilesL]
    have e : y + 4 + 4 * (n : Int) = y + 4 * ((n + 1 : Nat) : Int) := by omega
    rw [e, List.append_assoc]
theorem tileRow_split (y : Int) (m n : Nat) (x : Int) : tileRow y (m + n) x = tileRow y m x ++ tileRow y n (x + 4 * m) := by
  induction n generalizing x with
  | zero => simp [tileRow]
  | succ n ih =>
    rw [show m + (n + 1) = (m + n) + 1 from rfl, tileRow_snoc, ih, tileRow_snoc, List.append_assoc]
    have e : x + 4 * ((m + n : Nat) : Int) = x + 4 * (m : Int) + 4 * (n : Int) := by omega
    rw [e]
theorem tilesL_split (x : Int) (nx m n : Nat) (y : Int) : tilesL x nx (m + n) y = tilesL x nx m y ++ tilesL x nx n (y + 4 * m) := by
  induction n generalizing y with
  | zero => simp [tilesL]
  | succ n ih =>
    rw [show m + (n + 1) = (m + n) + 1 from rfl, tilesL_snoc, ih, tilesL_snoc, List.append_assoc]
    have e : y + 4 * ((m + n : Nat) : Int) = y + 4 * (m : Int) + 4 * (n : Int) := by omega
    rw [e]

set_option maxRecDepth 100000 in
set_option maxHeartbeats 1000000 in
theorem eachBox (x y c r : Int) (x0 : 0 ≤ x) (x1 : x ≤ 300) (y0 : 0 ≤ y) (y1 : y ≤ 300) (c0 : 0 ≤ c) (c1 : c ≤ 300) (r0 : 0 ≤ r) (r1 : r ≤ 300) :
    Iter Tryd.prog 76 (fun l => #[boxV x y c r, .func (.yield l) #[] #[]]) (fun t : Int × Int => #[.int .i64 t.1, .int .i64 t.2]) (if c = 0 ∨ r = 0 then [] else winTiles x y c r) (fun _ => True) := by
  intro l base J W hJ hR hY h0
  have hsz := (hR _ _ h0).1
  have HJ : Hid (∀ pre A B, base ≤ A.heap.size → Below base A B → J pre A → J pre B) := hJ
  have HR : Hid (∀ pre A, J pre A → base ≤ A.heap.size ∧ True) := hR
  have HY : Hid (∀ pre t rest A, (if c = 0 ∨ r = 0 then [] else winTiles x y c r) = pre ++ t :: rest → J pre A → YieldAt Fence.wide 0 Tryd.prog l #[.int .i64 t.1, .int .i64 t.2] A fun e B => e = .returned (.bool true) ∧ J (pre ++ [t]) B ∧ ∀ k, base ≤ k → k < A.heap.size → B.heap[k]? = A.heap[k]?) := hY
  have H0 : Hid (∀ ob, J [] (W.alloc ob)) := fun ob => hJ _ _ _ hsz ((Below.refl _ _).alloc hsz ob) h0
  clear hJ hR hY h0
  unfold boxV
  refine callsIn_of_wp Tryd.func76 rfl trivial ?_ rfl
  simp only [Tryd.ntmps76, List.size_toArray, List.length_cons, List.length_nil, Nat.reduceAdd, Nat.reduceSub, Array.replicate_succ, Array.replicate_zero, List.push_toArray, List.append_toArray, List.nil_append, List.cons_append]
  by_cases hz : c = 0 ∨ r = 0
  · rw [if_pos hz]
    by_cases hc0 : c = 0
    · subst hc0
      clear hz HY
      gi_wp2
      refine bodyPost_ret (v := .tuple #[]) (by simp [results, Tryd.results76, go_sem]) rfl ?_
      exact ⟨⟨_, rfl⟩, H0.out _⟩
    · obtain rfl : r = 0 := by omega
      have bc : (c == 0) = false := by simpa using hc0
      clear hz HY
      gi_wp2
      refine bodyPost_ret (v := .tuple #[]) (by simp [results, Tryd.results76, go_sem]) rfl ?_
      exact ⟨⟨_, rfl⟩, H0.out _⟩
  · rw [if_neg hz] at HY ⊢
    have hc : 0 < c := by omega
    have hr : 0 < r := by omega
    have bc : (c == 0) = false := by simp; omega
    have br : (r == 0) = false := by simp; omega
    have HX : Hid (winTiles x y c r = tilesL (x - x % 4) ((x + c - (x - x % 4) + 3) / 4).toNat ((y + r - (y - y % 4) + 3) / 4).toNat (y - y % 4)) := rfl
    obtain ⟨nx, hnx⟩ : ∃ nx : Nat, nx = ((x + c - (x - x % 4) + 3) / 4).toNat := ⟨_, rfl⟩
    obtain ⟨ny, hny⟩ : ∃ ny : Nat, ny = ((y + r - (y - y % 4) + 3) / 4).toNat := ⟨_, rfl⟩
    obtain ⟨xa, hxa⟩ : ∃ xa : Int, xa = x - x % 4 := ⟨_, rfl⟩
    obtain ⟨ya, hya⟩ : ∃ ya : Int, ya = y - y % 4 := ⟨_, rfl⟩
    have HXX : winTiles x y c r = tilesL xa nx ny ya := by rw [hnx, hny, hxa, hya]; rfl
    rw [HXX] at HY ⊢
    have a1 : 0 ≤ xa := by omega
    have a2 : 0 ≤ ya := by omega
    have hnx1 : xa + 4 * (nx : Int) ≥ x + c := by omega
    have hnx2 : xa + 4 * (nx : Int) < x + c + 4 := by omega
    have hny1 : ya + 4 * (ny : Int) ≥ y + r := by omega
    have hny2 : ya + 4 * (ny : Int) < y + r + 4 := by omega
    have hxa' : x - x % 4 = xa := hxa.symm
    have hya' : y - y % 4 = ya := hya.symm
    have HB : Hid ((W.alloc (.cells #[.int .i64 x, .int .i64 y, .int .i64 c, .int .i64 r] 50)).heap[W.heap.size]? = some (.cells #[.int .i64 x, .int .i64 y, .int .i64 c, .int .i64 r] 50 (0, 0))) := heap_alloc_new _ _
    clear HX HXX hnx hny hxa hya hz
    gi_wp2
    gi_loopg [4, 5] ny (fun m i _ wr => ∃ j : Nat, j + m = ny ∧ i = .int .i64 (ya + 4 * j) ∧ Hid (J (tilesL xa nx j ya) wr) ∧ wr.heap[W.heap.size]? = some (.cells #[.int .i64 x, .int .i64 y, .int .i64 c, .int .i64 r] 50 (0, 0)))
    case atStart => exact ⟨0, by omega, by simp, H0.out _, HB.out⟩
    case round =>
      obtain ⟨j, hj, rfl, hJ, hbx⟩ := hrel
      have cb := cell_of hbx
      by_cases hlt : j < ny
      · obtain ⟨n', rfl⟩ : ∃ n', gk = n' + 1 := ⟨gk - 1, by omega⟩
        have g1 : ya + 4 * (j : Int) < y + r := by omega
        have HI : Hid (J (tilesL xa nx j ya ++ tileRow (ya + 4 * j) 0 xa) wr) := by show J _ _; simpa [tileRow] using hJ.out
        clear hJ
        gi_wp2
        gi_loopg [5] nx (fun m i wq => ∃ k : Nat, k + m = nx ∧ i = .int .i64 (xa + 4 * k) ∧ Hid (J (tilesL xa nx j ya ++ tileRow (ya + 4 * j) k xa) wq) ∧ wq.heap[W.heap.size]? = some (.cells #[.int .i64 x, .int .i64 y, .int .i64 c, .int .i64 r] 50 (0, 0)))
        case atStart => exact ⟨0, by omega, by simp, HI, hbx⟩
        case round =>
          obtain ⟨kk, hk, rfl, hJk, hbk⟩ := hrel
          clear HI cb hbx
          have cb := cell_of hbk
          by_cases hlt2 : kk < nx
          · obtain ⟨n2, rfl⟩ : ∃ n2, gk = n2 + 1 := ⟨gk - 1, by omega⟩
            have g2 : xa + 4 * (kk : Int) < x + c := by omega
            obtain ⟨fn, tmps, assign, body, hy, hRd⟩ := HY.out (tilesL xa nx j ya ++ tileRow (ya + 4 * j) kk xa) (xa + 4 * kk, ya + 4 * j) (tileRow (ya + 4 * j) (nx - kk - 1) (xa + 4 * kk + 4) ++ tilesL xa nx (ny - j - 1) (ya + 4 * j + 4)) wr (by
              have e1 : ny = j + (1 + (ny - j - 1)) := by omega
              have e2 : nx = kk + (1 + (nx - kk - 1)) := by omega
              conv => lhs; rw [e1, tilesL_split]
              rw [List.append_assoc]
              congr 1
              rw [Nat.add_comm 1, tilesL]
              conv => lhs; lhs; rw [e2, tileRow_split]
              rw [List.append_assoc]
              congr 1
              rw [Nat.add_comm 1, tileRow]
              simp) hJk.out
            dsimp only at hy
            gi_wp2
            refine ⟨rfl, hRd.mono ?_⟩
            rintro e W3 ⟨rfl, hJ3, hs3⟩
            have hb3 := (hs3 W.heap.size hsz (lt_of_heap hbk)).trans hbk
            have HJ3 : Hid (J (tilesL xa nx j ya ++ tileRow (ya + 4 * j) (kk + 1) xa) W3) := by show J _ _; rw [tileRow_snoc, ← List.append_assoc]; exact hJ3
            clear hJ3 hs3 hbk cb
            gi_wp2
            gi_roundg n2
            case rel => exact ⟨kk + 1, by omega, by go_num, HJ3, hb3⟩
            case measure => omega
          · obtain rfl : gk = 0 := by omega
            obtain rfl : kk = nx := by omega
            have g2 : ¬ (xa + 4 * (kk : Int) < x + c) := by omega
            have HN : Hid (J (tilesL xa kk (j + 1) ya) wr) := by show J _ _; rw [tilesL_snoc]; exact hJk.out
            clear hJk
            gi_wp2
            gi_roundg n'
            case rel => exact ⟨j + 1, by omega, by go_num, HN, hbk⟩
            case measure => omega
      · obtain rfl : gk = 0 := by omega
        obtain rfl : j = ny := by omega
        have g1 : ¬ (ya + 4 * (j : Int) < y + r) := by omega
        gi_wp2
        go_end0
        exact ⟨⟨_, rfl⟩, hJ.out⟩
end Go.Proofs.YtifloehpdkfchaaDoor

namespace Go.Proofs.YtifloehpdkfchaaDoor
open Go.RowKit

/-- A colour. -/
structure Col where
  r : Int
  g : Int
  b : Int
@[reducible] def Col.v (c : Col) : Value := .agg #[.int .u8 c.r, .int .u8 c.g, .int .u8 c.b]

/-- At j lie a colour's three cells. -/
def ColAt (cur : Array Value) (j : Nat) (c : Col) : Prop := cur[j]? = some (.int .u8 c.r) ∧ cur[j + 1]? = some (.int .u8 c.g) ∧ cur[j + 2]? = some (.int .u8 c.b)

structure TilesC (cur : Array Value) (n : Nat) (f : Nat → Nat → Col) : Prop where
  sz : cur.size = n * 52
  at_ : ∀ t, t < n → ∃ (m : Bool) (a : Col), cur[t * 52]? = some (.bool m) ∧ ColAt cur (t * 52 + 1) a ∧ (m = true → ∀ i, i < 16 → a = f t i) ∧
    ∀ i, i < 16 → ∃ v : Col, ColAt cur (t * 52 + 4 + i * 3) v ∧ (m = false → v = f t i)

structure SurfC (w : World) (p o tB A n : Nat) (T : TypeId) (f : Nat → Nat → Col) : Prop where
  hA : w.cell? ⟨p, o, none⟩ = some (.int .i64 A)
  hT : w.cell? ⟨p, o + 1, none⟩ = some (.slice (some ⟨tB, 0, none⟩) n n)
  blk : ∃ cur, w.heap[tB]? = some (.cells cur T (0, 0)) ∧ TilesC cur n f

theorem ColAt.same {cur cur' : Array Value} {j : Nat} {c : Col} (h : ColAt cur j c) (e : ∀ i, j ≤ i → i < j + 3 → cur'[i]? = cur[i]?) : ColAt cur' j c :=
  ⟨(e _ (by omega) (by omega)).trans h.1, (e _ (by omega) (by omega)).trans h.2.1, (e _ (by omega) (by omega)).trans h.2.2⟩

theorem TilesC.step {cur cur' : Array Value} {n t : Nat} {f f' : Nat → Nat → Col} (h : TilesC cur n f) (hs : cur'.size = cur.size)
    (hoth : ∀ j, ¬ (t * 52 ≤ j ∧ j < t * 52 + 52) → cur'[j]? = cur[j]?) (hf : ∀ t', t' ≠ t → ∀ i, f' t' i = f t' i)
    (ht : t < n → ∃ (m : Bool) (a : Col), cur'[t * 52]? = some (.bool m) ∧ ColAt cur' (t * 52 + 1) a ∧ (m = true → ∀ i, i < 16 → a = f' t i) ∧
      ∀ i, i < 16 → ∃ v : Col, ColAt cur' (t * 52 + 4 + i * 3) v ∧ (m = false → v = f' t i)) : TilesC cur' n f' := by
  refine ⟨by rw [hs]; exact h.sz, fun t' ht' => ?_⟩
  by_cases e : t' = t
  · subst e; exact ht ht'
  · obtain ⟨m, a, c0, c1, hm, hp⟩ := h.at_ t' ht'
    refine ⟨m, a, ?_, ?_, ?_, ?_⟩
    · rw [hoth _ (by omega)]; exact c0
    · exact c1.same (fun i h1 h2 => hoth _ (by omega))
    · intro hm' i hi; rw [hf t' e]; exact hm hm' i hi
    · intro i hi
      obtain ⟨v, c2, hv⟩ := hp i hi
      exact ⟨v, c2.same (fun i h1 h2 => hoth _ (by omega)), fun hm' => by rw [hf t' e]; exact hv hm'⟩

def set3 (cur : Array Value) (j : Nat) (c : Col) : Array Value := ((cur.setIfInBounds j (.int .u8 c.r)).setIfInBounds (j + 1) (.int .u8 c.g)).setIfInBounds (j + 2) (.int .u8 c.b)
theorem set3_size (cur : Array Value) (j : Nat) (c : Col) : (set3 cur j c).size = cur.size := by simp [set3]
theorem set3_at {cur : Array Value} {j : Nat} (c : Col) (h : j + 3 ≤ cur.size) : ColAt (set3 cur j c) j c := by
  unfold set3
  refine ⟨?_, ?_, ?_⟩
  · rw [Array.getElem?_setIfInBounds_ne (by omega), Array.getElem?_setIfInBounds_ne (by omega)]; exact set_at (by omega) _
  · rw [Array.getElem?_setIfInBounds_ne (by omega)]; exact set_at (by rw [Array.size_setIfInBounds]; omega) _
  · exact set_at (by rw [Array.size_setIfInBounds, Array.size_setIfInBounds]; omega) _
theorem set3_ne {cur : Array Value} {j i : Nat} (c : Col) (h : ¬ (j ≤ i ∧ i < j + 3)) : (set3 cur j c)[i]? = cur[i]? := by
  unfold set3
  rw [Array.getElem?_setIfInBounds_ne (by omega), Array.getElem?_setIfInBounds_ne (by omega), Array.getElem?_setIfInBounds_ne (by omega)]

/-- A tile is filled as far as k. -/
structure FillC (cur cur' : Array Value) (t k : Nat) (v : Col) : Prop where
  sz : cur'.size = cur.size
  mk_ : cur'[t * 52]? = some (.bool false)
  px : ∀ i, i < k → ColAt cur' (t * 52 + 4 + i * 3) v
  ot : ∀ j, ¬ (j = t * 52) → ¬ (t * 52 + 4 ≤ j ∧ j < t * 52 + 4 + k * 3) → cur'[j]? = cur[j]?

theorem FillC.zero {cur : Array Value} {t : Nat} (v : Col) (h : t * 52 < cur.size) : FillC cur (cur.setIfInBounds (t * 52) (.bool false)) t 0 v :=
  ⟨by simp, set_at h _, fun i hi => by omega, fun j h1 _ => Array.getElem?_setIfInBounds_ne (by omega)⟩
theorem FillC.succ {cur cur' : Array Value} {t k : Nat} {v : Col} (h : FillC cur cur' t k v) (hk : t * 52 + 4 + k * 3 + 3 ≤ cur.size) : FillC cur (set3 cur' (t * 52 + 4 + k * 3) v) t (k + 1) v := by
  refine ⟨by rw [set3_size]; exact h.sz, ?_, fun i hi => ?_, fun j h1 h2 => ?_⟩
  · rw [set3_ne _ (by omega)]; exact h.mk_
  · by_cases e : i = k
    · subst e; exact set3_at v (by rw [h.sz]; omega)
    · exact (h.px i (by omega)).same (fun j h1 h2 => set3_ne _ (by omega))
  · rw [set3_ne _ (by omega)]; exact h.ot j h1 (by omega)

theorem FillC.tiles {cur cur' : Array Value} {n t : Nat} {f : Nat → Nat → Col} {v : Col} (h : FillC cur cur' t 16 v) (hT : TilesC cur n f) (ht : t < n) :
    TilesC cur' n (fun t' i => if t' = t then v else f t' i) ∧ cur'[t * 52]? = some (.bool false) := by
  refine ⟨hT.step (t := t) h.sz (fun j hj => h.ot j (by omega) (by omega)) (fun t' e i => if_neg e) (fun _ => ?_), h.mk_⟩
  obtain ⟨m, a, c0, c1, hm, hp⟩ := hT.at_ t ht
  exact ⟨false, a, h.mk_, c1.same (fun i h1 h2 => h.ot i (by omega) (by omega)), (by simp), fun i hi => ⟨v, h.px i hi, fun _ => by simp⟩⟩

theorem TilesC.mark {cur : Array Value} {n t : Nat} {f : Nat → Nat → Col} (h : TilesC cur n f) (ht : t < n) (a : Col) :
    TilesC (set3 (cur.setIfInBounds (t * 52) (.bool true)) (t * 52 + 1) a) n (fun t' i => if t' = t then a else f t' i) := by
  have hs := h.sz
  refine h.step (t := t) (by rw [set3_size]; simp) (fun j hj => ?_) (fun t' e i => if_neg e) (fun _ => ?_)
  · rw [set3_ne _ (by omega), Array.getElem?_setIfInBounds_ne (by omega)]
  · obtain ⟨m, a', c0, c1, hm, hp⟩ := h.at_ t ht
    refine ⟨true, a, ?_, ?_, fun _ i _ => by simp, fun i hi => ?_⟩
    · rw [set3_ne _ (by omega)]; exact set_at (by omega) _
    · exact set3_at a (by rw [Array.size_setIfInBounds]; omega)
    · obtain ⟨v, c2, _⟩ := hp i hi
      exact ⟨v, c2.same (fun j h1 h2 => by rw [set3_ne _ (by omega), Array.getElem?_setIfInBounds_ne (by omega)]), fun h => by simp at h⟩

def updC (f : Nat → Nat → Col) (t i : Nat) (v : Col) : Nat → Nat → Col := fun t' i' => if t' = t ∧ i' = i then v else f t' i'

theorem TilesC.put {cur : Array Value} {n t i : Nat} {f : Nat → Nat → Col} (h : TilesC cur n f) (ht : t < n) (hi : i < 16) (h0 : cur[t * 52]? = some (.bool false)) (v : Col) :
    TilesC (set3 cur (t * 52 + 4 + i * 3) v) n (updC f t i v) := by
  have hs := h.sz
  refine h.step (t := t) (by rw [set3_size]) (fun j hj => ?_) (fun t' e i => if_neg (by rintro ⟨h, _⟩; exact e h)) (fun _ => ?_)
  · rw [set3_ne _ (by omega)]
  · obtain ⟨m, a', c0, c1, hm, hp⟩ := h.at_ t ht
    rw [h0] at c0
    simp at c0
    subst c0
    refine ⟨false, a', ?_, ?_, (by simp), fun i' hi' => ?_⟩
    · rw [set3_ne _ (by omega)]; exact h0
    · exact c1.same (fun j h1 h2 => set3_ne _ (by omega))
    · by_cases e : i' = i
      · subst e
        exact ⟨v, set3_at v (by omega), fun _ => by simp [updC]⟩
      · obtain ⟨v', c2, hv⟩ := hp i' hi'
        exact ⟨v', c2.same (fun j h1 h2 => set3_ne _ (by omega)), fun hm' => by rw [hv hm']; exact (if_neg (by rintro ⟨_, h⟩; exact e h)).symm⟩

theorem TilesC.congr {cur : Array Value} {n : Nat} {f f' : Nat → Nat → Col} (h : TilesC cur n f) (e : ∀ t, t < n → ∀ i, i < 16 → f' t i = f t i) : TilesC cur n f' := by
  refine ⟨h.sz, fun t ht => ?_⟩
  obtain ⟨m, a, c0, c1, hm, hp⟩ := h.at_ t ht
  exact ⟨m, a, c0, c1, fun hm' i hi => by rw [e t ht i hi]; exact hm hm' i hi, fun i hi => by
    obtain ⟨v, c2, hv⟩ := hp i hi
    exact ⟨v, c2, fun hm' => by rw [e t ht i hi]; exact hv hm'⟩⟩

end Go.Proofs.YtifloehpdkfchaaDoor
