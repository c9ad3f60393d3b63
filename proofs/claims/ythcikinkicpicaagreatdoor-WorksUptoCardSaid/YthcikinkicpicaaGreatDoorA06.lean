import Derived.RangeFuncNested
import Derived.RangeFuncBound
import Derived.RangeFuncCalls
import Derived.RangeFuncLeaves
import Derived.OwnWalkIn
import Derived.OrdersHeld
import Derived.OrdersIn

namespace Go.Proofs.YthcikinkicpicaaGreatDoor
open Go.RowKit

/-- An iterator hands over the members of xs, one by one, to rounds that always go on; R is what it reads between them. -/
def Iter {α : Type} (P : Program) (gf : Nat) (args : Nat → Array Value) (encs : α → Array Value) (xs : List α) (R : World → Prop) : Prop :=
  ∀ (l base : Nat) (J : List α → World → Prop) (W : World),
    (∀ pre A B, base ≤ A.heap.size → Below base A B → J pre A → J pre B) → (∀ pre A, J pre A → base ≤ A.heap.size ∧ R A) →
    (∀ pre x rest A, xs = pre ++ x :: rest → J pre A → YieldAt Fence.wide 0 P l (encs x) A fun e B => e = .returned (.bool true) ∧ J (pre ++ [x]) B ∧ ∀ k, base ≤ k → k < A.heap.size → B.heap[k]? = A.heap[k]?) →
    J [] W → CallsIn Fence.wide 0 P gf (args l) W fun e B => (∃ v, e = .returned v) ∧ J xs B

theorem below_put {n : Nat} {W : World} {l : Nat} (h : n ≤ l) (o : Obj) : Below n W (W.putObj l o) :=
  ⟨rfl, rfl, rfl, by simp, fun _ hk => World.putObj_heap_other (by omega)⟩

/-- A range over a bound method whose rounds all go on. -/
theorem range_law {P : Program} {α : Type} {g : Operand} {ps : Array Tmp} {assign body : Code} {Q : Exit → Act → World → Prop} {a : Act} {w : World} {gf : Nat} {r : Value}
    (hg : a.eval g = .func (.func gf) #[r] #[]) (eg : ∀ args w, (callFunc gf args).run P w = .ok (.enter gf args) w) {encs : α → Array Value} {xs : List α} {R : World → Prop}
    (hit : Iter P gf (fun l => #[r, .func (.yield l) #[] #[]]) encs xs R) (hps : ∀ x, (encs x).size = ps.size) (I : List α → World → Prop)
    (hI : ∀ pre A B, w.heap.size ≤ A.heap.size → Below w.heap.size A B → I pre A → I pre B) (hR : ∀ pre A, I pre A → w.heap.size ≤ A.heap.size ∧ R A) (h0 : I [] w) (a₁ : α → Act)
    (hassign : ∀ (l : Nat) (x : α) (W : World) (K : Act → World → Prop), K (a₁ x) W →
      assign.wpIn (Fence.wide.inRound l) 0 P (Exit.then K (fun _ _ _ => False)) { tmps := (ps.zip (encs x)).foldl (fun t (p, v) => t.setIfInBounds p v) a.tmps, defers := [] } W)
    (hbody : ∀ (l : Nat) (pre : List α) (x : α) (rest : List α) (W : World), xs = pre ++ x :: rest → I pre W →
      body.wpIn (Fence.wide.inRound l) 0 P (fun e _ W' => e = .normal ∧ I (pre ++ [x]) W' ∧ ∀ k, w.heap.size ≤ k → k < W.heap.size → W'.heap[k]? = W.heap[k]?) (a₁ x) W)
    (hdone : ∀ (D : Nat) (W : World), w.heap.size ≤ D → I xs W → W.heap[D]? = some (.deferred (some [])) → Q .normal { a with defers := { target := .collected D, args := #[] } :: a.defers } W) :
    (Code.rangeFunc g ps assign body).wpIn Fence.wide 0 P Q a w := by
  refine wpIn_rangeFunc ?_
  intro fn hfn
  obtain ⟨rec, hrec⟩ : ∃ rec : LoopState → Loop, rec = fun st => { state := st, pending := none, fn, tmps := a.tmps, params := ps, assign, body, defers := w.heap.size } := ⟨_, rfl⟩
  obtain ⟨W1, hW1⟩ : ∃ W1, (w.alloc (.deferred (some []))).alloc (.loop (rec .ready)) = W1 := ⟨_, rfl⟩
  have hs1 : W1.heap.size = w.heap.size + 2 := by rw [← hW1]; simp
  have hl1 : W1.heap[w.heap.size + 1]? = some (.loop (rec .ready)) := by
    rw [← hW1]; have := World.alloc_heap_new (w.alloc (.deferred (some []))) (.loop (rec .ready)); rwa [World.size_alloc] at this
  have hd1 : W1.heap[w.heap.size]? = some (.deferred (some [])) := by
    rw [← hW1]; exact (Below.heap_alloc _ _ _ (by simp)).trans (World.alloc_heap_new w _)
  have hb1 : Below w.heap.size w W1 := by
    rw [← hW1]; exact ((Below.refl _ w).alloc (Nat.le_refl _) _).alloc (by simp) _
  refine ⟨w.heap.size + 1, [{ target := .collected w.heap.size, args := #[] }], W1, { target := .fn (.func gf) #[], args := #[r, .func (.yield (w.heap.size + 1)) #[] #[]] }, W1, gf,
    #[r, .func (.yield (w.heap.size + 1)) #[] #[]], W1, ?_, ?_, ?_, ?_, ?_, ?_⟩
  · rw [← hW1, hrec]; exact run_enterLoop_outer _ _ _ _ _
  · simp only [resolve, hg]
    simp [go_sem]
  · intro f' _; trivial
  · simp [invoke, go_sem, eg]
  · intro h; simp [Fence.wide] at h
  · refine (hit (w.heap.size + 1) (w.heap.size + 2)
      (fun pre W => I pre W ∧ W.heap[w.heap.size + 1]? = some (.loop (rec .ready)) ∧ W.heap[w.heap.size]? = some (.deferred (some []))) W1 ?_ ?_ ?_ ⟨hI [] w W1 (Nat.le_refl _) hb1 h0, hl1, hd1⟩).mono ?_
    · rintro pre A B hsz hb ⟨hi, hl, hd⟩
      exact ⟨hI pre A B (by omega) (hb.mono (by omega)) hi, (hb.block _ (by omega)).trans hl, (hb.block _ (by omega)).trans hd⟩
    · rintro pre A ⟨hi, hl, hd⟩
      have := (Array.getElem?_eq_some_iff.1 hl).1
      exact ⟨by omega, (hR pre A hi).2⟩
    · rintro pre x rest A hxs ⟨hi, hl, hd⟩
      have hlt := (Array.getElem?_eq_some_iff.1 hl).1
      have hy := run_yield (P := P) (args := encs x) hl (by rw [hrec]; exact hps x)
      rw [hrec] at hy
      refine ⟨fn, _, assign, body, hy, roundIn_of_wpIn hfn (hassign _ x A _ ⟨_, run_beginRound hl (by rw [hrec]), ?_⟩)⟩
      obtain ⟨A2, hA2⟩ : ∃ A2, A.putObj (w.heap.size + 1) (.loop { rec .ready with state := .busy }) = A2 := ⟨_, rfl⟩
      have hl2 : A2.heap[w.heap.size + 1]? = some (.loop { rec .ready with state := .busy }) := by rw [← hA2]; exact World.putObj_heap_same hlt
      have hd2 : A2.heap[w.heap.size]? = some (.deferred (some [])) := by rw [← hA2]; exact (World.putObj_heap_other (by omega)).trans hd
      have hi2 : I pre A2 := by rw [← hA2]; exact hI pre A _ (by omega) (below_put (by omega) _) hi
      have hlt2 := (Array.getElem?_eq_some_iff.1 hl2).1
      rw [hA2]
      refine wpIn_mono (hbody _ pre x rest A2 hxs hi2) ?_
      rintro e a3 W3 ⟨rfl, hi3, hk3⟩
      have hl3 := (hk3 _ (by omega) hlt2).trans hl2
      have hd3 := (hk3 _ (Nat.le_refl _) (by omega)).trans hd2
      have hlt3 := (Array.getElem?_eq_some_iff.1 hl3).1
      have he := run_endRound (P := P) none hl3
      have hsz2 : A2.heap.size = A.heap.size := by rw [← hA2]; exact World.putObj_size
      refine ⟨_, _, he, rfl, ⟨hI _ W3 _ (by omega) (below_put (by omega) _) hi3, ?_, ?_⟩, fun k hk1 hk2 => (World.putObj_heap_other (by omega)).trans ((hk3 k (by omega) (by omega)).trans (by rw [← hA2]; exact World.putObj_heap_other (by omega)))⟩
      · rw [World.putObj_heap_same hlt3]
        rw [hrec]; rfl
      · exact (World.putObj_heap_other (by omega)).trans hd3
    · rintro e B ⟨⟨v, rfl⟩, hi, hl, hd⟩
      have hlt := (Array.getElem?_eq_some_iff.1 hl).1
      refine ⟨none, _, ?_, hdone w.heap.size (B.putObj (w.heap.size + 1) (.loop { rec .ready with state := .exhausted })) (Nat.le_refl _) (hI _ B _ (by omega) (below_put (by omega) _) hi) ((World.putObj_heap_other (by omega)).trans hd)⟩
      have := run_endLoop (P := P) hl (by rw [hrec]; simp)
      rw [this, hrec]

/-- A slice is made whole, inside a fence. -/
theorem make_all {F : Fence} {m : Nat} {P : Program} (w : World) {ops : Array Oper} {rest : List Oper} {o : Oper} {a : Act} {Q : Exit → Act → World → Prop} (hg : o.guard = none) (l c : Operand) (t : TypeId) (hop : o.op = Op.makeSlice t l c)
    (base : Nat) (e : TypeId) (i : TypeInfo) (z : Value) (size : Nat) (h1 : P.underlying t = some (.slice e)) (h2 : P.info? e = some i) (h3 : i.zero = some z) (h4 : i.size = size)
    (kl kc : IntKind) (L C : Int) (n : Nat) (hl : a.eval l = .int kl L) (hc : a.eval c = .int kc C) (hL : L = (n : Int)) (hC : C = (n : Int)) (b2 : i.bytes * n ≤ 281474976710656) (b3 : n ≤ maxLen) (b4 : base ≤ w.heap.size)
    (hK : ∀ w', w'.ownsRow base e size (.slice (some ⟨w.heap.size, 0, none⟩) n n) n (madeCells z.cells (n * size)).toList → w.grownBy w' none → wpListIn F m P ops Q rest (a.put o.dst (.slice (some ⟨w.heap.size, 0, none⟩) n n)) w') :
    wpListIn F m P ops Q (o :: rest) a w := by
  subst hL hC
  obtain ⟨w', hrun, r1, r2⟩ := run_make_full (P := P) w base t e i z size h1 h2 h3 h4 kl kc n b2 b3 b4
  refine wpListIn_plain hg fun K hK' => ⟨by simp [Oper.about, hop], ?_⟩
  rw [Oper.semAt_plain F _ _ (by rw [hop]; intro c hc'; cases hc')]
  simp [execOp, hop, hl, hc, hrun, Result.andThen]
  exact hK' _ _ (hK w' r1 r2)

end Go.Proofs.YthcikinkicpicaaGreatDoor

namespace Go.Proofs.YthcikinkicpicaaGreatDoor
open Go.RowKit

/-- An iterator whose rounds may leave: then it returns at once. -/
def IterL {α : Type} (P : Program) (gf : Nat) (args : Nat → Array Value) (encs : α → Array Value) (xs : List α) : Prop :=
  ∀ (l base : Nat) (J : List α → World → Prop) (F : World → Prop) (W : World),
    (∀ pre A B, base ≤ A.heap.size → Below base A B → J pre A → J pre B) → (∀ A B, base ≤ A.heap.size → Below base A B → F A → F B) → (∀ pre A, J pre A → base ≤ A.heap.size) →
    (∀ pre x rest A, xs = pre ++ x :: rest → J pre A → YieldAt Fence.wide 0 P l (encs x) A fun e B => (e = .returned (.bool true) ∧ J (pre ++ [x]) B ∧ ∀ k, base ≤ k → k < A.heap.size → B.heap[k]? = A.heap[k]?) ∨ (e = .returned (.bool false) ∧ F B)) →
    J [] W → CallsIn Fence.wide 0 P gf (args l) W fun e B => (∃ v, e = .returned v) ∧ (J xs B ∨ F B)

/-- Where no round leaves. -/
theorem IterL.iter {α : Type} {P : Program} {gf : Nat} {args : Nat → Array Value} {encs : α → Array Value} {xs : List α} (h : IterL P gf args encs xs) : Iter P gf args encs xs (fun _ => True) := by
  intro l base J W hJ hR hY h0
  refine (h l base J (fun _ => False) W hJ (fun _ _ _ _ h => h) (fun pre A hA => (hR pre A hA).1) (fun pre x rest A hx hA => ?_) h0).mono ?_
  · obtain ⟨fn, tmps, assign, body, hy, hRd⟩ := hY pre x rest A hx hA
    exact ⟨fn, tmps, assign, body, hy, hRd.mono (fun e B h => .inl h)⟩
  · rintro e B ⟨hv, h | h⟩
    · exact ⟨hv, h⟩
    · exact h.elim

/-- A range over a bound method whose rounds may return. -/
theorem range_lawL {P : Program} {α : Type} {g : Operand} {ps : Array Tmp} {assign body : Code} {Q : Exit → Act → World → Prop} {a : Act} {w : World} {gf : Nat} {r : Value}
    (hg : a.eval g = .func (.func gf) #[r] #[]) (eg : ∀ args w, (callFunc gf args).run P w = .ok (.enter gf args) w) {encs : α → Array Value} {xs : List α}
    (hit : IterL P gf (fun l => #[r, .func (.yield l) #[] #[]]) encs xs) (hps : ∀ x, (encs x).size = ps.size) (I : List α → World → Prop) (L : World → Prop)
    (hI : ∀ pre A B, w.heap.size ≤ A.heap.size → Below w.heap.size A B → I pre A → I pre B) (hL : ∀ A B, w.heap.size ≤ A.heap.size → Below w.heap.size A B → L A → L B) (_hR : ∀ pre A, I pre A → w.heap.size ≤ A.heap.size) (h0 : I [] w) (a₁ : α → Act)
    (hassign : ∀ (l : Nat) (x : α) (W : World) (K : Act → World → Prop), K (a₁ x) W →
      assign.wpIn (Fence.wide.inRound l) 0 P (Exit.then K (fun _ _ _ => False)) { tmps := (ps.zip (encs x)).foldl (fun t (p, v) => t.setIfInBounds p v) a.tmps, defers := [] } W)
    (hbody : ∀ (l : Nat) (pre : List α) (x : α) (rest : List α) (W : World), xs = pre ++ x :: rest → I pre W →
      body.wpIn (Fence.wide.inRound l) 0 P (fun e _ W' => ((e = .normal ∧ I (pre ++ [x]) W') ∨ (e = .ret ∧ L W')) ∧ ∀ k, w.heap.size ≤ k → k < W.heap.size → W'.heap[k]? = W.heap[k]?) (a₁ x) W)
    (hdone : ∀ (D : Nat) (W : World), w.heap.size ≤ D → I xs W → W.heap[D]? = some (.deferred (some [])) → Q .normal { a with defers := { target := .collected D, args := #[] } :: a.defers } W)
    (hleft : ∀ (D : Nat) (W : World), w.heap.size ≤ D → L W → W.heap[D]? = some (.deferred (some [])) → Code.ret.wpIn Fence.wide 0 P Q { a with defers := { target := .collected D, args := #[] } :: a.defers } W) :
    (Code.rangeFunc g ps assign body).wpIn Fence.wide 0 P Q a w := by
  refine wpIn_rangeFunc ?_
  intro fn hfn
  obtain ⟨rec, hrec⟩ : ∃ rec : LoopState → Option Code → Loop, rec = fun st pe => { state := st, pending := pe, fn, tmps := a.tmps, params := ps, assign, body, defers := w.heap.size } := ⟨_, rfl⟩
  obtain ⟨W1, hW1⟩ : ∃ W1, (w.alloc (.deferred (some []))).alloc (.loop (rec .ready none)) = W1 := ⟨_, rfl⟩
  have hs1 : W1.heap.size = w.heap.size + 2 := by rw [← hW1]; simp
  have hl1 : W1.heap[w.heap.size + 1]? = some (.loop (rec .ready none)) := by
    rw [← hW1]; have := World.alloc_heap_new (w.alloc (.deferred (some []))) (.loop (rec .ready none)); rwa [World.size_alloc] at this
  have hd1 : W1.heap[w.heap.size]? = some (.deferred (some [])) := by
    rw [← hW1]; exact (Below.heap_alloc _ _ _ (by simp)).trans (World.alloc_heap_new w _)
  have hb1 : Below w.heap.size w W1 := by
    rw [← hW1]; exact ((Below.refl _ w).alloc (Nat.le_refl _) _).alloc (by simp) _
  refine ⟨w.heap.size + 1, [{ target := .collected w.heap.size, args := #[] }], W1, { target := .fn (.func gf) #[], args := #[r, .func (.yield (w.heap.size + 1)) #[] #[]] }, W1, gf,
    #[r, .func (.yield (w.heap.size + 1)) #[] #[]], W1, ?_, ?_, ?_, ?_, ?_, ?_⟩
  · rw [← hW1, hrec]; exact run_enterLoop_outer _ _ _ _ _
  · simp only [resolve, hg]
    simp [go_sem]
  · intro f' _; trivial
  · simp [invoke, go_sem, eg]
  · intro h; simp [Fence.wide] at h
  · refine (hit (w.heap.size + 1) (w.heap.size + 2)
      (fun pre W => I pre W ∧ W.heap[w.heap.size + 1]? = some (.loop (rec .ready none)) ∧ W.heap[w.heap.size]? = some (.deferred (some [])))
      (fun W => L W ∧ W.heap[w.heap.size + 1]? = some (.loop (rec .done (some .ret))) ∧ W.heap[w.heap.size]? = some (.deferred (some []))) W1 ?_ ?_ ?_ ?_ ⟨hI [] w W1 (Nat.le_refl _) hb1 h0, hl1, hd1⟩).mono ?_
    · rintro pre A B hsz hb ⟨hi, hl, hd⟩
      exact ⟨hI pre A B (by omega) (hb.mono (by omega)) hi, (hb.block _ (by omega)).trans hl, (hb.block _ (by omega)).trans hd⟩
    · rintro A B hsz hb ⟨hi, hl, hd⟩
      exact ⟨hL A B (by omega) (hb.mono (by omega)) hi, (hb.block _ (by omega)).trans hl, (hb.block _ (by omega)).trans hd⟩
    · rintro pre A ⟨hi, hl, hd⟩
      have := (Array.getElem?_eq_some_iff.1 hl).1
      omega
    · rintro pre x rest A hxs ⟨hi, hl, hd⟩
      have hlt := (Array.getElem?_eq_some_iff.1 hl).1
      have hy := run_yield (P := P) (args := encs x) hl (by rw [hrec]; exact hps x)
      rw [hrec] at hy
      refine ⟨fn, _, assign, body, hy, roundIn_of_wpIn hfn (hassign _ x A _ ⟨_, run_beginRound hl (by rw [hrec]), ?_⟩)⟩
      obtain ⟨A2, hA2⟩ : ∃ A2, A.putObj (w.heap.size + 1) (.loop { rec .ready none with state := .busy }) = A2 := ⟨_, rfl⟩
      have hl2 : A2.heap[w.heap.size + 1]? = some (.loop { rec .ready none with state := .busy }) := by rw [← hA2]; exact World.putObj_heap_same hlt
      have hd2 : A2.heap[w.heap.size]? = some (.deferred (some [])) := by rw [← hA2]; exact (World.putObj_heap_other (by omega)).trans hd
      have hi2 : I pre A2 := by rw [← hA2]; exact hI pre A _ (by omega) (below_put (by omega) _) hi
      have hlt2 := (Array.getElem?_eq_some_iff.1 hl2).1
      rw [hA2]
      refine wpIn_mono (hbody _ pre x rest A2 hxs hi2) ?_
      rintro e a3 W3 ⟨hor, hk3⟩
      have hl3 := (hk3 _ (by omega) hlt2).trans hl2
      have hd3 := (hk3 _ (Nat.le_refl _) (by omega)).trans hd2
      have hlt3 := (Array.getElem?_eq_some_iff.1 hl3).1
      have hsz2 : A2.heap.size = A.heap.size := by rw [← hA2]; exact World.putObj_size
      rcases hor with ⟨rfl, hi3⟩ | ⟨rfl, hi3⟩
      · have he := run_endRound (P := P) none hl3
        refine ⟨_, _, he, .inl ⟨rfl, ⟨hI _ W3 _ (by omega) (below_put (by omega) _) hi3, ?_, ?_⟩, fun k hk1 hk2 => (World.putObj_heap_other (by omega)).trans ((hk3 k (by omega) (by omega)).trans (by rw [← hA2]; exact World.putObj_heap_other (by omega)))⟩⟩
        · rw [World.putObj_heap_same hlt3]
          rw [hrec]; rfl
        · exact (World.putObj_heap_other (by omega)).trans hd3
      · have he := run_endRound (P := P) (some .ret) hl3
        refine ⟨_, _, he, .inr ⟨rfl, hL W3 _ (by omega) (below_put (by omega) _) hi3, ?_, ?_⟩⟩
        · rw [World.putObj_heap_same hlt3]
          rw [hrec]; rfl
        · exact (World.putObj_heap_other (by omega)).trans hd3
    · rintro e B ⟨⟨v, rfl⟩, ⟨hi, hl, hd⟩ | ⟨hi, hl, hd⟩⟩
      · have hlt := (Array.getElem?_eq_some_iff.1 hl).1
        refine ⟨none, _, ?_, hdone w.heap.size (B.putObj (w.heap.size + 1) (.loop { rec .ready none with state := .exhausted })) (Nat.le_refl _) (hI _ B _ (by omega) (below_put (by omega) _) hi) ((World.putObj_heap_other (by omega)).trans hd)⟩
        have := run_endLoop (P := P) hl (by rw [hrec]; simp)
        rw [this, hrec]
      · have hlt := (Array.getElem?_eq_some_iff.1 hl).1
        refine ⟨some .ret, _, ?_, hleft w.heap.size (B.putObj (w.heap.size + 1) (.loop { rec .done (some .ret) with state := .exhausted })) (Nat.le_refl _) (hL B _ (by omega) (below_put (by omega) _) hi) ((World.putObj_heap_other (by omega)).trans hd)⟩
        have := run_endLoop (P := P) hl (by rw [hrec]; simp)
        rw [this, hrec]
end Go.Proofs.YthcikinkicpicaaGreatDoor

namespace Go.Proofs.YthcikinkicpicaaGreatDoor
open Go.RowKit

/-- No operation defers. -/
def Plainly (ops : Array Oper) : Prop := ∀ (i : Nat) (o : Oper), ops[i]? = some o → ∀ c, o.op ≠ .defer c
def noDefer (o : Oper) : Bool := match o.op with
  | .defer _ => false
  | _ => true
theorem plainly_of {l : List Oper} (h : l.all noDefer = true) : Plainly l.toArray := by
  intro i o ho c hc
  rw [List.getElem?_toArray] at ho
  have := List.all_eq_true.1 h o (List.mem_of_getElem? ho)
  simp [noDefer, hc] at this

theorem upon_round {l n : Nat} {P : Program} {o : Oper} {a : Act} {next : Act → World → Prop} {Q : Exit → Act → World → Prop} {r : Result Next} (h : o.upon P a next Q r) : o.uponIn (Fence.wide.inRound l) n P a next Q r := by
  cases r with
  | ok x w' =>
    cases x with
    | value v => exact h
    | skip => exact h
    | defer d => exact h
    | enter f args => exact ⟨fun hd => by simp [Fence.wide] at hd, CallsIn.inRound l (callsIn_wide.2 h)⟩
    | row row args => exact ⟨fun hd => by simp [Fence.wide] at hd, fun c cs _ => let ⟨v, w2, r, s⟩ := h c cs; ⟨v, w2, r, stepsIn_wide.2 s⟩⟩
    | round l' f t as b => exact h.elim
    | _ => exact h.elim
  | halt hh w' =>
    cases hh with
    | panic v => exact h
    | _ => exact h.elim

/-- A region that is walked alone serves in a round. -/
theorem any_round {l : Nat} {P : Program} {md : Region.Mode} {ops : Array Oper} {Q : Exit → Act → World → Prop} (hp : Plainly ops) (hQ : ¬ LetsOut Q) : ∀ (fuel : Nat) (listed : Array Bool) (a : Act) (w : World), wpAny P md ops Q fuel listed a w → wpAnyIn (Fence.wide.inRound l) 0 P md ops Q fuel listed a w
  | 0, _, _, _, h => h
  | fuel + 1, listed, a, w, h => by
    refine ⟨h.1, fun i hi => ?_⟩
    have h2 := h.2 i hi
    unfold wpOp at h2
    unfold wpOpIn
    cases ho : ops[i]? with
    | none =>
      rw [ho] at h2
      exact any_round hp hQ fuel _ a w h2
    | some o =>
      rw [ho] at h2
      simp only at h2 ⊢
      split at h2
      · rename_i hw
        rw [if_pos hw]
        rcases h2 with h2 | ⟨_, h2⟩
        · have h3 := Oper.wp_mono (fun a' w' h' => any_round (l := l) hp hQ fuel _ a' w' h') h2
          unfold Oper.wp at h3
          refine ⟨fun f _ => trivial, ?_⟩
          rw [Oper.semAt_eq _ _ _ (hp i o ho)]
          exact upon_round h3
        · exact absurd h2 hQ
      · rename_i hw
        rw [if_neg hw]
        exact ⟨fun f _ => trivial, any_round hp hQ fuel _ _ _ h2⟩
/-- So does one that is walked with S held. -/
theorem region_held_round {l : Nat} {P : Program} {id : Nat} {L : List Oper} {Q : Exit → Act → World → Prop} {S : World → Prop} {a : Act} {w : World} (n : Nat) (hn : L.length = n) (hm : P.follows .mixedOrders = true) (hp : L.all noDefer = true) (hQ : ¬ LetsOut Q)
    (h : wpAnyH P .any L.toArray Q S n (Array.replicate n false) a w.drew) : (Code.region id L.toArray true).wpIn (Fence.wide.inRound l) 0 P Q a w :=
  wpIn_region_any hm (any_round (plainly_of hp) hQ _ _ _ _ (wpAny_of_held _ _ _ _ (by rw [List.size_toArray, hn]; exact h)))
end Go.Proofs.YthcikinkicpicaaGreatDoor

namespace Go.Proofs.YthcikinkicpicaaGreatDoor
open Go.RowKit

/-- A range over a bound method whose rounds all go on, where the variable of the range has a block of its own in each round. -/
theorem range_lawA {P : Program} {α : Type} {g : Operand} {ps : Array Tmp} {assign body : Code} {Q : Exit → Act → World → Prop} {a : Act} {w : World} {gf : Nat} {r : Value}
    (hg : a.eval g = .func (.func gf) #[r] #[]) (eg : ∀ args w, (callFunc gf args).run P w = .ok (.enter gf args) w) {encs : α → Array Value} {xs : List α} {R : World → Prop}
    (hit : Iter P gf (fun l => #[r, .func (.yield l) #[] #[]]) encs xs R) (hps : ∀ x, (encs x).size = ps.size) (I : List α → World → Prop)
    (hI : ∀ pre A B, w.heap.size ≤ A.heap.size → Below w.heap.size A B → I pre A → I pre B) (hR : ∀ pre A, I pre A → w.heap.size ≤ A.heap.size ∧ R A) (h0 : I [] w) (ob : α → Obj) (a₁ : α → Nat → Act)
    (hassign : ∀ (l : Nat) (x : α) (W : World) (K : Act → World → Prop), K (a₁ x W.heap.size) (W.alloc (ob x)) →
      assign.wpIn (Fence.wide.inRound l) 0 P (Exit.then K (fun _ _ _ => False)) { tmps := (ps.zip (encs x)).foldl (fun t (p, v) => t.setIfInBounds p v) a.tmps, defers := [] } W)
    (hbody : ∀ (l : Nat) (pre : List α) (x : α) (rest : List α) (B : Nat) (W : World), xs = pre ++ x :: rest → I pre W → w.heap.size ≤ B → W.heap[B]? = some (ob x) →
      body.wpIn (Fence.wide.inRound l) 0 P (fun e _ W' => e = .normal ∧ I (pre ++ [x]) W' ∧ ∀ k, w.heap.size ≤ k → k < W.heap.size → W'.heap[k]? = W.heap[k]?) (a₁ x B) W)
    (hdone : ∀ (D : Nat) (W : World), w.heap.size ≤ D → I xs W → W.heap[D]? = some (.deferred (some [])) → Q .normal { a with defers := { target := .collected D, args := #[] } :: a.defers } W) :
    (Code.rangeFunc g ps assign body).wpIn Fence.wide 0 P Q a w := by
  refine wpIn_rangeFunc ?_
  intro fn hfn
  obtain ⟨rec, hrec⟩ : ∃ rec : LoopState → Loop, rec = fun st => { state := st, pending := none, fn, tmps := a.tmps, params := ps, assign, body, defers := w.heap.size } := ⟨_, rfl⟩
  obtain ⟨W1, hW1⟩ : ∃ W1, (w.alloc (.deferred (some []))).alloc (.loop (rec .ready)) = W1 := ⟨_, rfl⟩
  have hs1 : W1.heap.size = w.heap.size + 2 := by rw [← hW1]; simp
  have hl1 : W1.heap[w.heap.size + 1]? = some (.loop (rec .ready)) := by
    rw [← hW1]; have := World.alloc_heap_new (w.alloc (.deferred (some []))) (.loop (rec .ready)); rwa [World.size_alloc] at this
  have hd1 : W1.heap[w.heap.size]? = some (.deferred (some [])) := by
    rw [← hW1]; exact (Below.heap_alloc _ _ _ (by simp)).trans (World.alloc_heap_new w _)
  have hb1 : Below w.heap.size w W1 := by
    rw [← hW1]; exact ((Below.refl _ w).alloc (Nat.le_refl _) _).alloc (by simp) _
  refine ⟨w.heap.size + 1, [{ target := .collected w.heap.size, args := #[] }], W1, { target := .fn (.func gf) #[], args := #[r, .func (.yield (w.heap.size + 1)) #[] #[]] }, W1, gf,
    #[r, .func (.yield (w.heap.size + 1)) #[] #[]], W1, ?_, ?_, ?_, ?_, ?_, ?_⟩
  · rw [← hW1, hrec]; exact run_enterLoop_outer _ _ _ _ _
  · simp only [resolve, hg]
    simp [go_sem]
  · intro f' _; trivial
  · simp [invoke, go_sem, eg]
  · intro h; simp [Fence.wide] at h
  · refine (hit (w.heap.size + 1) (w.heap.size + 2)
      (fun pre W => I pre W ∧ W.heap[w.heap.size + 1]? = some (.loop (rec .ready)) ∧ W.heap[w.heap.size]? = some (.deferred (some []))) W1 ?_ ?_ ?_ ⟨hI [] w W1 (Nat.le_refl _) hb1 h0, hl1, hd1⟩).mono ?_
    · rintro pre A B hsz hb ⟨hi, hl, hd⟩
      exact ⟨hI pre A B (by omega) (hb.mono (by omega)) hi, (hb.block _ (by omega)).trans hl, (hb.block _ (by omega)).trans hd⟩
    · rintro pre A ⟨hi, hl, hd⟩
      have := (Array.getElem?_eq_some_iff.1 hl).1
      exact ⟨by omega, (hR pre A hi).2⟩
    · rintro pre x rest A hxs ⟨hi, hl, hd⟩
      have hlt := (Array.getElem?_eq_some_iff.1 hl).1
      have hy := run_yield (P := P) (args := encs x) hl (by rw [hrec]; exact hps x)
      rw [hrec] at hy
      obtain ⟨A1, hA1⟩ : ∃ A1, A.alloc (ob x) = A1 := ⟨_, rfl⟩
      have hbA : Below A.heap.size A A1 := by rw [← hA1]; exact (Below.refl _ _).alloc (Nat.le_refl _) _
      have hl' : A1.heap[w.heap.size + 1]? = some (.loop (rec .ready)) := (hbA.block _ hlt).trans hl
      have hd' : A1.heap[w.heap.size]? = some (.deferred (some [])) := (hbA.block _ (by omega)).trans hd
      have hi' : I pre A1 := hI pre A A1 (by omega) (hbA.mono (by omega)) hi
      have hob : A1.heap[A.heap.size]? = some (ob x) := by rw [← hA1]; exact World.alloc_heap_new A _
      have hs1' : A1.heap.size = A.heap.size + 1 := by rw [← hA1]; simp
      refine ⟨fn, _, assign, body, hy, roundIn_of_wpIn hfn (hassign _ x A _ ⟨_, run_beginRound (by rw [hA1]; exact hl') (by rw [hrec]), ?_⟩)⟩
      rw [hA1]
      obtain ⟨A2, hA2⟩ : ∃ A2, A1.putObj (w.heap.size + 1) (.loop { rec .ready with state := .busy }) = A2 := ⟨_, rfl⟩
      have hl2 : A2.heap[w.heap.size + 1]? = some (.loop { rec .ready with state := .busy }) := by rw [← hA2]; exact World.putObj_heap_same (by omega)
      have hd2 : A2.heap[w.heap.size]? = some (.deferred (some [])) := by rw [← hA2]; exact (World.putObj_heap_other (by omega)).trans hd'
      have hi2 : I pre A2 := by rw [← hA2]; exact hI pre A1 _ (by omega) (below_put (by omega) _) hi'
      have hob2 : A2.heap[A.heap.size]? = some (ob x) := by rw [← hA2]; exact (World.putObj_heap_other (by omega)).trans hob
      have hlt2 := (Array.getElem?_eq_some_iff.1 hl2).1
      rw [hA2]
      refine wpIn_mono (hbody _ pre x rest A.heap.size A2 hxs hi2 (by omega) hob2) ?_
      rintro e a3 W3 ⟨rfl, hi3, hk3⟩
      have hl3 := (hk3 _ (by omega) hlt2).trans hl2
      have hd3 := (hk3 _ (Nat.le_refl _) (by omega)).trans hd2
      have hlt3 := (Array.getElem?_eq_some_iff.1 hl3).1
      have he := run_endRound (P := P) none hl3
      have hsz2 : A2.heap.size = A1.heap.size := by rw [← hA2]; exact World.putObj_size
      refine ⟨_, _, he, rfl, ⟨hI _ W3 _ (by omega) (below_put (by omega) _) hi3, ?_, ?_⟩, fun k hk1 hk2 => (World.putObj_heap_other (by omega)).trans ((hk3 k (by omega) (by omega)).trans ((show A2.heap[k]? = A1.heap[k]? by rw [← hA2]; exact World.putObj_heap_other (by omega)).trans (hbA.block k hk2)))⟩
      · rw [World.putObj_heap_same hlt3]
        rw [hrec]; rfl
      · exact (World.putObj_heap_other (by omega)).trans hd3
    · rintro e B ⟨⟨v, rfl⟩, hi, hl, hd⟩
      have hlt := (Array.getElem?_eq_some_iff.1 hl).1
      refine ⟨none, _, ?_, hdone w.heap.size (B.putObj (w.heap.size + 1) (.loop { rec .ready with state := .exhausted })) (Nat.le_refl _) (hI _ B _ (by omega) (below_put (by omega) _) hi) ((World.putObj_heap_other (by omega)).trans hd)⟩
      have := run_endLoop (P := P) hl (by rw [hrec]; simp)
      rw [this, hrec]

end Go.Proofs.YthcikinkicpicaaGreatDoor

namespace Go.Proofs.YthcikinkicpicaaGreatDoor
open Go.RowKit

/-- An iterator that turns nothing but what it makes itself. -/
def IterG {α : Type} (P : Program) (gf : Nat) (args : Nat → Array Value) (encs : α → Array Value) (xs : List α) (R : World → Prop) : Prop :=
  ∀ (l base : Nat) (J : List α → World → Prop) (W : World),
    (∀ pre A B, base ≤ A.heap.size → Below A.heap.size A B → J pre A → J pre B) → (∀ pre A, J pre A → base ≤ A.heap.size ∧ R A) →
    (∀ pre x rest A, xs = pre ++ x :: rest → J pre A → YieldAt Fence.wide 0 P l (encs x) A fun e B => e = .returned (.bool true) ∧ J (pre ++ [x]) B ∧ ∀ k, base ≤ k → k < A.heap.size → B.heap[k]? = A.heap[k]?) →
    J [] W → CallsIn Fence.wide 0 P gf (args l) W fun e B => (∃ v, e = .returned v) ∧ J xs B

/-- A range over a bound method whose rounds all go on, where the variable of the range has a block of its own in each round; and what is handed on need not lie beneath the range. -/
theorem range_lawG {P : Program} {α : Type} {g : Operand} {ps : Array Tmp} {assign body : Code} {Q : Exit → Act → World → Prop} {a : Act} {w : World} {gf : Nat} {r : Value}
    (hg : a.eval g = .func (.func gf) #[r] #[]) (eg : ∀ args w, (callFunc gf args).run P w = .ok (.enter gf args) w) {encs : α → Array Value} {xs : List α} {R : World → Prop}
    (hit : IterG P gf (fun l => #[r, .func (.yield l) #[] #[]]) encs xs R) (hps : ∀ x, (encs x).size = ps.size) (I : List α → World → Prop)
    (hI : ∀ pre A B, w.heap.size ≤ A.heap.size → Below A.heap.size A B → I pre A → I pre B) (hP : ∀ pre A o x, A.heap[w.heap.size + 1]? = some (.loop x) → I pre A → I pre (A.putObj (w.heap.size + 1) o)) (hR : ∀ pre A, I pre A → w.heap.size ≤ A.heap.size ∧ R A) (h0 : I [] w) (ob : α → Obj) (a₁ : α → Nat → Act)
    (hassign : ∀ (l : Nat) (x : α) (W : World) (K : Act → World → Prop), K (a₁ x W.heap.size) (W.alloc (ob x)) →
      assign.wpIn (Fence.wide.inRound l) 0 P (Exit.then K (fun _ _ _ => False)) { tmps := (ps.zip (encs x)).foldl (fun t (p, v) => t.setIfInBounds p v) a.tmps, defers := [] } W)
    (hbody : ∀ (l : Nat) (pre : List α) (x : α) (rest : List α) (B : Nat) (W : World), xs = pre ++ x :: rest → I pre W → w.heap.size ≤ B → W.heap[B]? = some (ob x) →
      body.wpIn (Fence.wide.inRound l) 0 P (fun e _ W' => e = .normal ∧ I (pre ++ [x]) W' ∧ ∀ k, w.heap.size ≤ k → k < W.heap.size → W'.heap[k]? = W.heap[k]?) (a₁ x B) W)
    (hdone : ∀ (D : Nat) (W : World), w.heap.size ≤ D → I xs W → W.heap[D]? = some (.deferred (some [])) → Q .normal { a with defers := { target := .collected D, args := #[] } :: a.defers } W) :
    (Code.rangeFunc g ps assign body).wpIn Fence.wide 0 P Q a w := by
  refine wpIn_rangeFunc ?_
  intro fn hfn
  obtain ⟨rec, hrec⟩ : ∃ rec : LoopState → Loop, rec = fun st => { state := st, pending := none, fn, tmps := a.tmps, params := ps, assign, body, defers := w.heap.size } := ⟨_, rfl⟩
  obtain ⟨W1, hW1⟩ : ∃ W1, (w.alloc (.deferred (some []))).alloc (.loop (rec .ready)) = W1 := ⟨_, rfl⟩
  have hs1 : W1.heap.size = w.heap.size + 2 := by rw [← hW1]; simp
  have hl1 : W1.heap[w.heap.size + 1]? = some (.loop (rec .ready)) := by
    rw [← hW1]; have := World.alloc_heap_new (w.alloc (.deferred (some []))) (.loop (rec .ready)); rwa [World.size_alloc] at this
  have hd1 : W1.heap[w.heap.size]? = some (.deferred (some [])) := by
    rw [← hW1]; exact (Below.heap_alloc _ _ _ (by simp)).trans (World.alloc_heap_new w _)
  have hb1 : Below w.heap.size w W1 := by
    rw [← hW1]; exact ((Below.refl _ w).alloc (Nat.le_refl _) _).alloc (by simp) _
  refine ⟨w.heap.size + 1, [{ target := .collected w.heap.size, args := #[] }], W1, { target := .fn (.func gf) #[], args := #[r, .func (.yield (w.heap.size + 1)) #[] #[]] }, W1, gf,
    #[r, .func (.yield (w.heap.size + 1)) #[] #[]], W1, ?_, ?_, ?_, ?_, ?_, ?_⟩
  · rw [← hW1, hrec]; exact run_enterLoop_outer _ _ _ _ _
  · simp only [resolve, hg]
    simp [go_sem]
  · intro f' _; trivial
  · simp [invoke, go_sem, eg]
  · intro h; simp [Fence.wide] at h
  · refine (hit (w.heap.size + 1) (w.heap.size + 2)
      (fun pre W => I pre W ∧ W.heap[w.heap.size + 1]? = some (.loop (rec .ready)) ∧ W.heap[w.heap.size]? = some (.deferred (some []))) W1 ?_ ?_ ?_ ⟨hI [] w W1 (Nat.le_refl _) hb1 h0, hl1, hd1⟩).mono ?_
    · rintro pre A B hsz hb ⟨hi, hl, hd⟩
      exact ⟨hI pre A B (by omega) hb hi, (hb.block _ (Array.getElem?_eq_some_iff.1 hl).1).trans hl, (hb.block _ (Array.getElem?_eq_some_iff.1 hd).1).trans hd⟩
    · rintro pre A ⟨hi, hl, hd⟩
      have := (Array.getElem?_eq_some_iff.1 hl).1
      exact ⟨by omega, (hR pre A hi).2⟩
    · rintro pre x rest A hxs ⟨hi, hl, hd⟩
      have hlt := (Array.getElem?_eq_some_iff.1 hl).1
      have hy := run_yield (P := P) (args := encs x) hl (by rw [hrec]; exact hps x)
      rw [hrec] at hy
      obtain ⟨A1, hA1⟩ : ∃ A1, A.alloc (ob x) = A1 := ⟨_, rfl⟩
      have hbA : Below A.heap.size A A1 := by rw [← hA1]; exact (Below.refl _ _).alloc (Nat.le_refl _) _
      have hl' : A1.heap[w.heap.size + 1]? = some (.loop (rec .ready)) := (hbA.block _ hlt).trans hl
      have hd' : A1.heap[w.heap.size]? = some (.deferred (some [])) := (hbA.block _ (by omega)).trans hd
      have hi' : I pre A1 := hI pre A A1 (by omega) hbA hi
      have hob : A1.heap[A.heap.size]? = some (ob x) := by rw [← hA1]; exact World.alloc_heap_new A _
      have hs1' : A1.heap.size = A.heap.size + 1 := by rw [← hA1]; simp
      refine ⟨fn, _, assign, body, hy, roundIn_of_wpIn hfn (hassign _ x A _ ⟨_, run_beginRound (by rw [hA1]; exact hl') (by rw [hrec]), ?_⟩)⟩
      rw [hA1]
      obtain ⟨A2, hA2⟩ : ∃ A2, A1.putObj (w.heap.size + 1) (.loop { rec .ready with state := .busy }) = A2 := ⟨_, rfl⟩
      have hl2 : A2.heap[w.heap.size + 1]? = some (.loop { rec .ready with state := .busy }) := by rw [← hA2]; exact World.putObj_heap_same (by omega)
      have hd2 : A2.heap[w.heap.size]? = some (.deferred (some [])) := by rw [← hA2]; exact (World.putObj_heap_other (by omega)).trans hd'
      have hi2 : I pre A2 := by rw [← hA2]; exact hP pre A1 _ _ hl' hi'
      have hob2 : A2.heap[A.heap.size]? = some (ob x) := by rw [← hA2]; exact (World.putObj_heap_other (by omega)).trans hob
      have hlt2 := (Array.getElem?_eq_some_iff.1 hl2).1
      rw [hA2]
      refine wpIn_mono (hbody _ pre x rest A.heap.size A2 hxs hi2 (by omega) hob2) ?_
      rintro e a3 W3 ⟨rfl, hi3, hk3⟩
      have hl3 := (hk3 _ (by omega) hlt2).trans hl2
      have hd3 := (hk3 _ (Nat.le_refl _) (by omega)).trans hd2
      have hlt3 := (Array.getElem?_eq_some_iff.1 hl3).1
      have he := run_endRound (P := P) none hl3
      have hsz2 : A2.heap.size = A1.heap.size := by rw [← hA2]; exact World.putObj_size
      refine ⟨_, _, he, rfl, ⟨hP _ W3 _ _ hl3 hi3, ?_, ?_⟩, fun k hk1 hk2 => (World.putObj_heap_other (by omega)).trans ((hk3 k (by omega) (by omega)).trans ((show A2.heap[k]? = A1.heap[k]? by rw [← hA2]; exact World.putObj_heap_other (by omega)).trans (hbA.block k hk2)))⟩
      · rw [World.putObj_heap_same hlt3]
        rw [hrec]; rfl
      · exact (World.putObj_heap_other (by omega)).trans hd3
    · rintro e B ⟨⟨v, rfl⟩, hi, hl, hd⟩
      have hlt := (Array.getElem?_eq_some_iff.1 hl).1
      refine ⟨none, _, ?_, hdone w.heap.size (B.putObj (w.heap.size + 1) (.loop { rec .ready with state := .exhausted })) (Nat.le_refl _) (hP _ B _ _ hl hi) ((World.putObj_heap_other (by omega)).trans hd)⟩
      have := run_endLoop (P := P) hl (by rw [hrec]; simp)
      rw [this, hrec]

end Go.Proofs.YthcikinkicpicaaGreatDoor
