import Derived.Test.YthcikinkicpicaaGreatDoorA15
import Derived.Test.YthcikinkicpicaaGreatDoorA04
import Derived.Test.YthcikinkicpicaaGreatDoorA02
import Derived.ProofKit
import Derived.WideKeyEntry
import Derived.OwnWalkIn
import Derived.Maps.AppendAt
import Derived.Test.YthcikinkicpicaaGreatDoorA14

namespace Go.Proofs.YthcikinkicpicaaGreatDoor
open Go.RowKit

theorem anyOn4 (q0 q1 q2 q3 : Qry) : anyOn [q0, q1, q2, q3] = (q0.on || q1.on || q2.on || q3.on) := by
  simp [anyOn, Bool.or_assoc]

set_option maxRecDepth 100000 in
set_option maxHeartbeats 1000000 in
theorem counting_any (p : Nat) (w : World) (b0 b1 b2 b3 : Bool) (h0 : w.cell? ⟨p, 30, none⟩ = some (.bool b0)) (h1 : w.cell? ⟨p, 33, none⟩ = some (.bool b1)) (h2 : w.cell? ⟨p, 36, none⟩ = some (.bool b2)) (h3 : w.cell? ⟨p, 39, none⟩ = some (.bool b3)) :
    Calls Tryz.prog 119 #[.pointer (some ⟨p, 29, none⟩)] w fun e w' => e = .returned (.bool (b0 || b1 || b2 || b3)) ∧ w' = w := by
  cases b0
  · cases b1
    · cases b2
      · cases b3
        all_goals
          go_enter Tryz.func119, Tryz.ntmps119
          go_wp2_with fail
          refine wp_loop_rounds 5 ?_
          rw [rounds_succ]; go_wp2_with fail
          rw [rounds_succ]; go_wp2_with fail
          rw [rounds_succ]; go_wp2_with fail
          rw [rounds_succ]; go_wp2_with fail
          (try (rw [rounds_succ]; go_wp2_with fail))
          go_ret
          exact ⟨rfl, rfl⟩
      · go_enter Tryz.func119, Tryz.ntmps119
        go_wp2_with fail
        refine wp_loop_rounds 5 ?_
        rw [rounds_succ]; go_wp2_with fail
        rw [rounds_succ]; go_wp2_with fail
        rw [rounds_succ]; go_wp2_with fail
        go_ret
        exact ⟨rfl, rfl⟩
    · go_enter Tryz.func119, Tryz.ntmps119
      go_wp2_with fail
      refine wp_loop_rounds 5 ?_
      rw [rounds_succ]; go_wp2_with fail
      rw [rounds_succ]; go_wp2_with fail
      go_ret
      exact ⟨rfl, rfl⟩
  · go_enter Tryz.func119, Tryz.ntmps119
    go_wp2_with fail
    refine wp_loop_rounds 5 ?_
    rw [rounds_succ]; go_wp2_with fail
    go_ret
    exact ⟨rfl, rfl⟩
end Go.Proofs.YthcikinkicpicaaGreatDoor

namespace Go.Proofs.YthcikinkicpicaaGreatDoor
open Go.RowKit

/-- A triangle's block. -/
def trT (t : Tr) : Array Value := trc t.a t.b t.c t.ar ⟨t.f, t.bounds⟩

theorem bounds_in (t : Tr) (h : t.Ok) : t.bounds.In := by
  have := h.a.x0; have := h.a.x1; have := h.b.x0; have := h.b.x1; have := h.c.x0; have := h.c.x1
  have := h.a.y0; have := h.a.y1; have := h.b.y0; have := h.b.y1; have := h.c.y0; have := h.c.y1
  unfold Tr.bounds mids Tr.lx Tr.hx Tr.ly Tr.hy
  constructor <;> dsimp only <;> omega
theorem win_in (st : St) (K : Int) (h : st.Ok K) : (winBx st).In := by
  have := h.wx0; have := h.wx1; have := h.wy0; have := h.wy1; have := h.ww0; have := h.wh0; have := h.W1; have := h.H1
  unfold winBx
  constructor <;> dsimp only <;> omega
theorem meet_in (b o : Bx) (hb : b.In) (ho : o.In) : (b.meet o).In := by
  obtain ⟨b1, b2, b3, b4, b5, b6, b7, b8⟩ := hb
  obtain ⟨o1, o2, o3, o4, o5, o6, o7, o8⟩ := ho
  unfold Bx.meet
  constructor <;> dsimp only <;> omega
theorem look_in (bd : Bool) (st : St) (K : Int) (h : st.Ok K) (t : Tr) (ht : t.Ok) : (lookBx bd st t).In := by
  unfold lookBx
  cases bd
  · exact win_in st K h
  · exact meet_in _ _ (win_in st K h) (bounds_in t ht)
theorem tile_in (k : Int × Int) (h1 : -1000 ≤ k.1) (h2 : k.1 ≤ 1000) (h3 : -1000 ≤ k.2) (h4 : k.2 ≤ 1000) : (tileBx k).In := by
  unfold tileBx
  constructor <;> dsimp only <;> omega

section
variable (base : Nat) (p cB zB sB A n : Nat) (s : ByteArray) (k : Int) (ways : Wy) (shV outV : Value) (st : St) (w : World)

theorem Dr.uses (h : Dr base w p cB zB sB A n s k ways shV outV st) (way : Int) : Calls Tryz.prog 80 #[.pointer (some ⟨p, 14, none⟩), .int .i64 way] w fun e w' => e = .returned (.bool (useB ways.v way)) ∧ w' = w := uses_any p w ways.v way (cell_of h.bp 28)

set_option maxRecDepth 100000 in
set_option maxHeartbeats 1000000 in
theorem lookedAt_in (h : Dr base w p cB zB sB A n s k ways shV outV st) (K : Int) (hok : st.Ok K) (q : Nat) (t : Tr) (ht : t.Ok) (hq : w.heap[q]? = some (.cells (trT t) 165 (0, 0))) :
    Calls Tryz.prog 89 #[.pointer (some ⟨p, 0, none⟩), .pointer (some ⟨q, 0, none⟩)] w fun e w' => e = .returned (bxV (lookBx (useB ways.v 128) st t)) ∧ Below w.heap.size w w' := by
  have lp := lt_of_heap h.bp
  have lq := lt_of_heap hq
  have HU : Hid (∀ W, Below w.heap.size w W → Calls Tryz.prog 80 #[.pointer (some ⟨p, 14, none⟩), .int .i64 128] W fun e w' => e = .returned (.bool (useB ways.v 128)) ∧ w' = W) := fun W hW => Dr.uses base p cB zB sB A n s k ways shV outV st W (h.frame hW) 128
  have HM : Hid (∀ W, Calls Tryz.prog 90 #[bxV (winBx st), bxV t.bounds] W fun e w' => e = .returned (bxV ((winBx st).meet t.bounds)) ∧ Below W.heap.size W w') := fun W => meet_any _ _ (win_in st K hok) (bounds_in t ht) W
  have hl : lookBx (useB ways.v 128) st t = if useB ways.v 128 then (winBx st).meet t.bounds else winBx st := rfl
  rw [hl]
  have HP : Hid (∀ W, Below w.heap.size w W → W.cell? ⟨p, 4, none⟩ = some (.int .i64 st.wx) ∧ W.cell? ⟨p, 5, none⟩ = some (.int .i64 st.wy) ∧ W.cell? ⟨p, 6, none⟩ = some (.int .i64 st.ww) ∧ W.cell? ⟨p, 7, none⟩ = some (.int .i64 st.wh) ∧
      W.cell? ⟨q, 20, none⟩ = some (.int .i64 t.bounds.x) ∧ W.cell? ⟨q, 21, none⟩ = some (.int .i64 t.bounds.y) ∧ W.cell? ⟨q, 22, none⟩ = some (.int .i64 t.bounds.c) ∧ W.cell? ⟨q, 23, none⟩ = some (.int .i64 t.bounds.r)) := fun W hW => by
    have c1 := cell_of ((hW.block _ lp).trans h.bp)
    have c2 := cell_of ((hW.block _ lq).trans hq)
    exact ⟨c1 4, c1 5, c1 6, c1 7, c2 20, c2 21, c2 22, c2 23⟩
  have HMt : Hid (∀ W : World, Below w.heap.size w W → W.heap[w.heap.size]? = some (.cells #[.int .i64 0, .int .i64 0, .int .i64 0, .int .i64 0] 66 (0, 0)) → Calls Tryz.prog 90 #[.agg #[.int .i64 st.wx, .int .i64 st.wy, .int .i64 st.ww, .int .i64 st.wh], .agg #[.int .i64 t.bounds.x, .int .i64 t.bounds.y, .int .i64 t.bounds.c, .int .i64 t.bounds.r]] W fun e w' => e = .returned (bxV ((winBx st).meet t.bounds)) ∧ Below w.heap.size w w' ∧ (∀ o, w'.frozen? ⟨w.heap.size, o, none⟩ = false) ∧
      (∀ o, w'.cell? ⟨w.heap.size, o, none⟩ = #[Value.int .i64 0, .int .i64 0, .int .i64 0, .int .i64 0][o]?) ∧ w'.cell? ⟨p, 4, none⟩ = some (.int .i64 st.wx) ∧ w'.cell? ⟨p, 5, none⟩ = some (.int .i64 st.wy) ∧ w'.cell? ⟨p, 6, none⟩ = some (.int .i64 st.ww) ∧ w'.cell? ⟨p, 7, none⟩ = some (.int .i64 st.wh) ∧
      w'.cell? ⟨q, 20, none⟩ = some (.int .i64 t.bounds.x) ∧ w'.cell? ⟨q, 21, none⟩ = some (.int .i64 t.bounds.y) ∧ w'.cell? ⟨q, 22, none⟩ = some (.int .i64 t.bounds.c) ∧ w'.cell? ⟨q, 23, none⟩ = some (.int .i64 t.bounds.r)) := by
    intro W hW hr
    refine (HM.out W).mono ?_
    rintro e w' ⟨rfl, hb'⟩
    have hb2 : Below w.heap.size w w' := hW.trans (hb'.mono hW.size)
    have hr2 := (hb'.block _ (lt_of_heap hr)).trans hr
    exact ⟨rfl, hb2, frozen_of hr2, cell_of hr2, HP.out w' hb2⟩
  have HR0 : Hid ((w.alloc (.cells #[.int .i64 0, .int .i64 0, .int .i64 0, .int .i64 0] 66)).heap[w.heap.size]? = some (.cells #[.int .i64 0, .int .i64 0, .int .i64 0, .int .i64 0] 66 (0, 0))) := heap_alloc_new _ _
  have HB0 : Hid (Below w.heap.size w (w.alloc (.cells #[.int .i64 0, .int .i64 0, .int .i64 0, .int .i64 0] 66))) := below1
  obtain ⟨z0, z1, z2, z3, z4, z5, z6, z7⟩ := HP.out _ HB0.out
  have np : w.heap.size ≠ p := by omega
  have nq : w.heap.size ≠ q := by omega
  clear HM hl h hok ht hq
  generalize (winBx st).meet t.bounds = M at *
  generalize t.bounds = B at *
  generalize useB ways.v 128 = u at *
  cases u
  · rw [if_neg (by simp)]
    clear HMt
    go_enter Tryz.func89, Tryz.ntmps89
    go_wp2_with (go_at_call 80; refine (HU.out _ HB0.out).mono ?_; rintro e w' ⟨rfl, rfl⟩)
    refine bodyPost_ret (v := bxV (winBx st)) (by simp [results, Tryz.results89, go_sem, winBx]) rfl ?_
    exact ⟨rfl, below1⟩
  · rw [if_pos rfl]
    go_enter Tryz.func89, Tryz.ntmps89
    go_wp2_with (go_at_call 80; refine (HU.out _ HB0.out).mono ?_; rintro e w' ⟨rfl, rfl⟩)
    go_region_held (fun w' => w'.cell? ⟨p, 4, none⟩ = some (.int .i64 st.wx) ∧ w'.cell? ⟨p, 5, none⟩ = some (.int .i64 st.wy) ∧ w'.cell? ⟨p, 6, none⟩ = some (.int .i64 st.ww) ∧ w'.cell? ⟨p, 7, none⟩ = some (.int .i64 st.wh) ∧
      w'.cell? ⟨q, 20, none⟩ = some (.int .i64 B.x) ∧ w'.cell? ⟨q, 21, none⟩ = some (.int .i64 B.y) ∧ w'.cell? ⟨q, 22, none⟩ = some (.int .i64 B.c) ∧ w'.cell? ⟨q, 23, none⟩ = some (.int .i64 B.r)) (go_keep)
      ((go_at_call 90; refine (HMt.out _ HB0.out.drew HR0.out).mono ?_; rintro e w2 ⟨rfl, hb2, f2, c2, r0, r1, r2, r3, r4, r5, r6, r7⟩))
    all_goals
      go_wp2_with fail
      refine bodyPost_ret (v := bxV M) (by simp [results, Tryz.results89, go_sem, c2]) rfl ?_
      exact ⟨rfl, (((hb2.setCell (by exact Nat.le_refl _) _).setCell (by exact Nat.le_refl _) _).setCell (by exact Nat.le_refl _) _).setCell (by exact Nat.le_refl _) _⟩

set_option maxRecDepth 100000 in
set_option maxHeartbeats 400000 in
theorem whole_in (h : Dr base w p cB zB sB A n s k ways shV outV st) :
    Calls Tryz.prog 105 #[.pointer (some ⟨p, 2, none⟩)] w fun e w' => e = .returned (bxV ⟨0, 0, st.W, st.H⟩) ∧ Below w.heap.size w w' := by
  have lp := lt_of_heap h.bp
  have c2 : ∀ ob, (w.alloc ob).cell? ⟨p, 2, none⟩ = some (.int .i64 st.W) := fun ob => (World.cell?_alloc_past _ _ _ lp).trans (cell_of h.bp 2)
  have c3 : ∀ ob, (w.alloc ob).cell? ⟨p, 3, none⟩ = some (.int .i64 st.H) := fun ob => (World.cell?_alloc_past _ _ _ lp).trans (cell_of h.bp 3)
  clear h
  go_enter Tryz.func105, Tryz.ntmps105
  go_wp2_with fail
  go_region
  all_goals
    go_wp2_with fail
    refine bodyPost_ret (v := bxV ⟨0, 0, st.W, st.H⟩) (by simp [results, Tryz.results105, go_sem]) rfl ?_
    refine ⟨rfl, ?_⟩
    repeat (first | with_reducible exact Below.refl _ _ | with_reducible refine Below.drew ?_ | (with_reducible refine Below.alloc ?_ (by first | exact Nat.le_refl _ | (simp; done) | (simp; omega)) _) | (with_reducible refine Below.setCell ?_ (by first | exact Nat.le_refl _ | (dsimp only; omega)) _))
end
end Go.Proofs.YthcikinkicpicaaGreatDoor

namespace Go.Proofs.YthcikinkicpicaaGreatDoor
open Go.RowKit Go.ChangeMaps Go.WideMaps Go.WideElems

theorem Tryz.laidB : laidOutB Tryz.prog = true := by kernel_rfl
theorem Tryz.rowBox : (66 : TypeId) < Tryz.prog.types.size := of_decide_eq_true (by kernel_rfl)
theorem Tryz.wideBox : (match Tryz.prog.underlying 66 with | some (.array _ _) | some (.struct _) => true | _ => false) = true := by kernel_rfl
theorem Tryz.ktBox : Tryz.prog.keyTypeAt 2 66 = true := by kernel_rfl
set_option maxRecDepth 100000 in
theorem Tryz.lawBox : KeyLaw Tryz.prog 66 := deep_law_laid Tryz.laidB (m := 2) (by omega) Tryz.rowBox Tryz.ktBox Tryz.wideBox
theorem Tryz.keyTypeBox : Tryz.prog.keyType 66 = true := by kernel_rfl
theorem Tryz.cellsInt : Tryz.prog.cellsOf 3 = 1 := by kernel_rfl
theorem Tryz.cellsBox : Tryz.prog.cellsOf 66 = 4 := by kernel_rfl
theorem key_int (m : Nat) (z : Int) (h : 0 ≤ z) (h' : z ≤ 1000) : Tryz.prog.keyLits (m + 1) 3 [.int .i64 z] = some [.int .i64 z] := by
  unfold Program.keyLits
  simp only [Tryz.underlying3]
  rw [if_pos]
  refine ⟨trivial, ?_⟩
  have e1 : IntKind.i64.min = -9223372036854775808 := by decide
  have e2 : IntKind.i64.max = 9223372036854775807 := by decide
  simp only [Lit.wf, e1, e2, Bool.and_eq_true, decide_eq_true_eq]
  omega
set_option maxRecDepth 100000 in
theorem key_box (x y : Int) (hx : 0 ≤ x) (hx' : x ≤ 1000) (hy : 0 ≤ y) (hy' : y ≤ 1000) : ∃ l, keyOf Tryz.prog 66 (.agg #[.int .i64 x, .int .i64 y, .int .i64 4, .int .i64 4]) = some l := by
  obtain ⟨m, hm⟩ : ∃ m, Tryz.prog.types.size = m + 1 := ⟨Tryz.prog.types.size - 1, (Nat.succ_pred_eq_of_pos (Nat.lt_of_le_of_lt (Nat.zero_le _) Tryz.rowBox)).symm⟩
  unfold keyOf
  simp only [Tryz.underlying66, Tryz.keyTypeBox, Value.formed, Tryz.cellsBox, hm]
  unfold Program.keyLits
  simp only [Tryz.underlying66, Tryz.cellsBox]
  simp [Value.cells, key_int, hx, hx', hy, hy', Tryz.cellsInt]
theorem Tryz.zeroRow (w : World) : (zeroValue 131).run Tryz.prog w = .ok (.slice none 0 0) w := by kernel_rfl
end Go.Proofs.YthcikinkicpicaaGreatDoor

namespace Go.Proofs.YthcikinkicpicaaGreatDoor
open Go.RowKit Go.ChangeMaps Go.WideMaps Go.WideElems

/-- An entry of the bins: its tile, its row, its stamp, and what waits there. -/
structure Ent where
  kx : Nat
  ky : Nat
  v : Value
  born : Nat
  qs : List (Nat × Tr)
def Ent.key (e : Ent) : Nat × Nat := (e.kx, e.ky)
def keyV (k : Nat × Nat) : Value := .agg #[.int .i64 k.1, .int .i64 k.2, .int .i64 4, .int .i64 4]
def Ent.me (e : Ent) : MapEntry := { key := keyV e.key, val := e.v, born := e.born }
def ptrT (q : Nat × Tr) : Value := .pointer (some ⟨q.1, 0, none⟩)

structure EntOk (base : Nat) (w : World) (ck : Nat) (e : Ent) : Prop where
  x : e.kx ≤ 1000
  y : e.ky ≤ 1000
  born : e.born < ck
  row : w.ownsRow base 132 1 e.v e.qs.length (e.qs.map ptrT)
  tri : ∀ q ∈ e.qs, w.heap[q.1]? = some (.cells (trT q.2) 165 (0, 0))

def EntsApart (a b : Ent) : Prop := a.key ≠ b.key ∧ a.born ≠ b.born ∧ ∀ g, a.v.ownBlock = some g → b.v.ownBlock ≠ some g

/-- The bins: entries of their own, apart from one another. -/
structure Bins (base : Nat) (w : World) (es : Array MapEntry) (ck : Nat) (L : List Ent) : Prop where
  es : es.toList = L.map Ent.me
  ok : ∀ e ∈ L, EntOk base w ck e
  ap : L.Pairwise EntsApart

/-- What waits in a tile. -/
def binL : List Ent → Nat × Nat → List (Nat × Tr)
  | [], _ => []
  | e :: L, k => if e.key = k then e.qs else binL L k

theorem keyV_inj {a b : Nat × Nat} (h : keyV a = keyV b) : a = b := by
  unfold keyV at h
  simp at h
  exact Prod.ext (by omega) (by omega)

theorem binL_none : ∀ (L : List Ent) (k : Nat × Nat), (∀ e ∈ L, e.key ≠ k) → binL L k = []
  | [], _, _ => rfl
  | e :: L, k, h => by
    rw [binL, if_neg (h e List.mem_cons_self)]
    exact binL_none L k (fun x hx => h x (List.mem_cons_of_mem _ hx))
theorem binL_at : ∀ (A : List Ent) (e : Ent) (B : List Ent) (k : Nat × Nat), (∀ x ∈ A, x.key ≠ k) → binL (A ++ e :: B) k = if e.key = k then e.qs else binL B k
  | [], _, _, _, _ => rfl
  | a :: A, e, B, k, h => by
    rw [List.cons_append, binL, if_neg (h a List.mem_cons_self)]
    exact binL_at A e B k (fun x hx => h x (List.mem_cons_of_mem _ hx))
theorem binL_put : ∀ (A : List Ent) (e e' : Ent) (B : List Ent) (k : Nat × Nat), e'.key = e.key → e.key ≠ k → binL (A ++ e' :: B) k = binL (A ++ e :: B) k
  | [], e, e', B, k, h, hk => by
    rw [List.nil_append, List.nil_append, binL, binL, h, if_neg hk, if_neg hk]
  | a :: A, e, e', B, k, h, hk => by
    rw [List.cons_append, List.cons_append, binL, binL, binL_put A e e' B k h hk]
theorem binL_mem : ∀ (L : List Ent) (e : Ent), L.Pairwise EntsApart → e ∈ L → binL L e.key = e.qs
  | a :: L, e, hP, he => by
    rw [List.pairwise_cons] at hP
    rw [binL]
    rcases List.mem_cons.1 he with rfl | h
    · rw [if_pos rfl]
    · rw [if_neg (hP.1 e h).1]; exact binL_mem L e hP.2 h

theorem ent_split : ∀ (L : List Ent) (k : Nat × Nat), (∃ A e B, L = A ++ e :: B ∧ e.key = k ∧ ∀ x ∈ A, x.key ≠ k) ∨ ∀ e ∈ L, e.key ≠ k
  | [], _ => .inr (fun e he => by cases he)
  | a :: L, k => by
    by_cases h : a.key = k
    · exact .inl ⟨[], a, L, rfl, h, fun x hx => by cases hx⟩
    · rcases ent_split L k with ⟨A, e, B, rfl, h1, h2⟩ | h1
      · refine .inl ⟨a :: A, e, B, rfl, h1, fun x hx => ?_⟩
        rcases List.mem_cons.1 hx with rfl | hx
        · exact h
        · exact h2 x hx
      · refine .inr (fun e he => ?_)
        rcases List.mem_cons.1 he with rfl | he
        · exact h
        · exact h1 e he

section
variable {base : Nat} {w w' : World} {es : Array MapEntry} {ck : Nat} {L : List Ent}

theorem EntOk.kept {S : Nat → Prop} {e : Ent} (h : EntOk base w ck e) (hk : Kept S w w') (hS : ∀ (g : Nat) (cur : Array Value) (T : TypeId), w.heap[g]? = some (.cells cur T (0, 0)) → T = 132 ∨ T = 165 → ¬ S g) : EntOk base w' ck e := by
  refine ⟨h.x, h.y, h.born, ?_, fun q hq => ?_⟩
  · obtain ⟨o1, o2⟩ := h.row
    refine ⟨o1, ?_⟩
    rcases o2 with o2 | ⟨g, cap, cur, hv, hge, hh, r⟩
    · exact .inl o2
    · exact .inr ⟨g, cap, cur, hv, hge, (hk.block g (lt_of_heap hh) (hS g cur _ hh (.inl rfl))).trans hh, r⟩
  · have := h.tri q hq
    exact (hk.block _ (lt_of_heap this) (hS _ _ _ this (.inr rfl))).trans this
theorem Bins.kept {S : Nat → Prop} (h : Bins base w es ck L) (hk : Kept S w w') (hS : ∀ (g : Nat) (cur : Array Value) (T : TypeId), w.heap[g]? = some (.cells cur T (0, 0)) → T = 132 ∨ T = 165 → ¬ S g) : Bins base w' es ck L :=
  ⟨h.es, fun e he => (h.ok e he).kept hk hS, h.ap⟩
theorem Bins.frame (h : Bins base w es ck L) (hb : Below w.heap.size w w') : Bins base w' es ck L := h.kept ((Kept.refl (fun _ => False) w).below hb) (fun _ _ _ _ _ => id)
theorem Bins.row_of (h : Bins base w es ck L) {e : Ent} (he : e ∈ L) {g : Nat} (hg : e.v.ownBlock = some g) : ∃ cur, w.heap[g]? = some (.cells cur 132 (0, 0)) := by
  obtain ⟨_, o2⟩ := (h.ok e he).row
  rcases o2 with ⟨o2, _⟩ | ⟨g', cap, cur, hv, hge, hh, r⟩
  · rw [o2] at hg; cases hg
  · rw [hv] at hg
    obtain rfl : g' = g := by simpa [Value.ownBlock] using hg
    exact ⟨cur, hh⟩

theorem born_nodup : ∀ {L : List Ent}, L.Pairwise EntsApart → ((L.map Ent.me).map (·.born)).Nodup
  | [], _ => List.Pairwise.nil
  | e :: L, h => by
    rw [List.pairwise_cons] at h
    rw [List.map_cons, List.map_cons, List.nodup_cons]
    refine ⟨fun hm => ?_, born_nodup h.2⟩
    rw [List.map_map] at hm
    obtain ⟨x, hx, ex⟩ := List.mem_map.1 hm
    exact (h.1 x hx).2.1 ex.symm

theorem set_map_same {w : World} {m : Nat} {o : Obj} (h : w.heap[m]? = some o) : ({ w with heap := w.heap.setIfInBounds m o } : World) = w := by
  have : w.heap.setIfInBounds m o = w.heap := by
    apply Array.ext'
    rw [Array.toList_setIfInBounds]
    exact set_self _ _ _ (by simpa using h)
  rw [this]

theorem kept_block (m : Nat) (w : World) (o : Obj) : Kept (· = m) w { w with heap := w.heap.setIfInBounds m o } :=
  ⟨rfl, rfl, rfl, by simp, fun i _ hn => by simp [Array.getElem?_setIfInBounds]; intro e; exact absurd e.symm hn⟩

/-- 'm[k]' as a place to be stored into. -/
theorem entry_run {m : Nat} (hm : w.heap[m]? = some (.map es ck)) (hB : Bins base w es ck L) (k : Nat × Nat) (hx : k.1 ≤ 1000) (hy : k.2 ≤ 1000) :
    ∃ es1 ck1 A e B w1, (Instr.mapEntry 92 (.map (some m)) (keyV k)).run Tryz.prog w = .ok (.tuple #[e.v, goInt e.born]) w1 ∧ w1.heap[m]? = some (.map es1 ck1) ∧ Kept (· = m) w w1 ∧ Bins base w1 es1 ck1 (A ++ e :: B) ∧ e.key = k ∧
      (∀ x ∈ A, x.key ≠ k) ∧ (L = A ++ e :: B ∨ (L = A ∧ B = [] ∧ e.qs = [] ∧ e.v = .slice none 0 0)) := by
  obtain ⟨kl, hkey⟩ := key_box k.1 k.2 (by omega) (by omega) (by omega) (by omega)
  have hkey' : keyOf Tryz.prog 66 (keyV k) = some kl := hkey
  have hkeys : ∀ x ∈ es.toList, ∃ l, keyOf Tryz.prog 66 x.key = some l := by
    intro x hx'
    rw [hB.es] at hx'
    obtain ⟨e, he, rfl⟩ := List.mem_map.1 hx'
    have := (hB.ok e he).x
    have := (hB.ok e he).y
    exact key_box e.kx e.ky (by omega) (by omega) (by omega) (by omega)
  have hnm : ∀ (g : Nat) (cur : Array Value) (T : TypeId), w.heap[g]? = some (.cells cur T (0, 0)) → T = 132 ∨ T = 165 → ¬ (g = m) := by
    rintro g cur T hg _ rfl
    rw [hm] at hg; cases hg
  rcases Tryz.lawBox.find w hkey' es.toList hkeys with ⟨h1, h2⟩ | ⟨j, e0, h1, h2, h3⟩
  · have hno : ∀ e ∈ L, e.key ≠ k := by
      intro e he hk
      refine h2 e.me (by rw [hB.es]; exact List.mem_map_of_mem he) ?_
      show keyV e.key = keyV k
      rw [hk]
    have hrun : (Instr.mapEntry 92 (.map (some m)) (keyV k)).run Tryz.prog w = .ok (.tuple #[.slice none 0 0, goInt ck]) { w with heap := w.heap.setIfInBounds m (.map (es.push ⟨keyV k, .slice none 0 0, ck⟩) (ck + 1)) } := by
      simp [Instr.mapEntry, run_underlying Tryz.underlying92, MapKept.run_getObj_map hm, Tryz.lawBox.check w false hkey', h1, MapKept.run_setObj_map _ hm, Result.andThen]
    refine ⟨es.push ⟨keyV k, .slice none 0 0, ck⟩, ck + 1, L, ⟨k.1, k.2, .slice none 0 0, ck, []⟩, [], _, hrun, ?_, kept_block m w _, ⟨?_, ?_, ?_⟩, rfl, hno, .inr ⟨rfl, rfl, rfl, rfl⟩⟩
    · simp [lt_of_heap hm]
    · rw [Array.toList_push, hB.es, List.map_append]; rfl
    · intro e he
      rcases List.mem_append.1 he with he | he
      · have := (hB.ok e he).kept (kept_block m w (.map (es.push ⟨keyV k, .slice none 0 0, ck⟩) (ck + 1))) hnm
        exact ⟨this.x, this.y, Nat.lt_succ_of_lt this.born, this.row, this.tri⟩
      · rw [List.mem_singleton] at he
        subst he
        exact ⟨hx, hy, Nat.lt_succ_self _, ⟨rfl, .inl ⟨rfl, rfl⟩⟩, fun q hq => by cases hq⟩
    · rw [List.pairwise_append]
      refine ⟨hB.ap, List.pairwise_singleton _ _, fun a ha b hb => ?_⟩
      rw [List.mem_singleton] at hb
      subst hb
      exact ⟨hno a ha, by have := (hB.ok a ha).born; show a.born ≠ ck; omega, fun g _ h => by cases h⟩
  · obtain ⟨A, e, B, rfl, hk, hA⟩ | hno := ent_split L k
    · have hj : es[j]? = some e0 := by simpa using h2
      have he0 : e0 = e.me := by
        rw [hB.es] at h2
        obtain ⟨e', he', rfl⟩ := List.mem_map.1 (List.mem_of_getElem? h2)
        have e1 : e'.key = k := keyV_inj h3
        have hee : e' = e := by
          have hP := hB.ap
          by_cases hc : e' = e
          · exact hc
          · exfalso
            rw [List.pairwise_append] at hP
            rcases List.mem_append.1 he' with g | g
            · exact hA e' g e1
            · rcases List.mem_cons.1 g with g | g
              · exact hc g
              · exact ((List.pairwise_cons.1 hP.2.1).1 e' g).1 (hk.trans e1.symm)
        rw [hee]
      have hsame : es.modify j (fun e => { e with key := keyV k }) = es := by
        apply Array.ext'
        rw [Array.toList_modify, modify_eq_set _ _ _ _ h2]
        have : ({ e0 with key := keyV k } : MapEntry) = e0 := by rw [← h3]
        rw [this]
        exact set_self _ _ _ h2
      have hrun : (Instr.mapEntry 92 (.map (some m)) (keyV k)).run Tryz.prog w = .ok (.tuple #[e0.val, goInt e0.born]) { w with heap := w.heap.setIfInBounds m (.map es ck) } := by
        simp [Instr.mapEntry, run_underlying Tryz.underlying92, MapKept.run_getObj_map hm, Tryz.lawBox.check w false hkey', h1, hj, h3, Tryz.lawBox.stays w hkey', hsame, MapKept.run_setObj_map _ hm, Result.andThen]
      rw [set_map_same hm, he0] at hrun
      exact ⟨es, ck, A, e, B, w, hrun, hm, Kept.refl _ _, hB, hk, hA, .inl rfl⟩
    · exfalso
      rw [hB.es] at h2
      obtain ⟨e', he', rfl⟩ := List.mem_map.1 (List.mem_of_getElem? h2)
      exact hno e' he' (keyV_inj h3)

theorem modify_at {α : Type} (f : α → α) : ∀ (A : List α) (e : α) (B : List α), (A ++ e :: B).modify A.length f = A ++ f e :: B
  | [], _, _ => rfl
  | a :: A, e, B => by
    rw [List.cons_append, List.length_cons, List.modify_succ_cons, modify_at f A e B]; rfl

/-- The entry is stored into, by its stamp. -/
theorem store_run {m : Nat} {es1 : Array MapEntry} {ck1 : Nat} {A B : List Ent} {e : Ent} (hm : w.heap[m]? = some (.map es1 ck1)) (hes : es1.toList = (A ++ e :: B).map Ent.me) (hP : (A ++ e :: B).Pairwise EntsApart) (v' : Value) :
    ∃ es2 : Array MapEntry, (Instr.entryStore 92 (.map (some m)) (goInt e.born) v').run Tryz.prog w = .ok () { w with heap := w.heap.setIfInBounds m (.map es2 ck1) } ∧ ∀ qs, es2.toList = (A ++ { e with v := v', qs := qs } :: B).map Ent.me := by
  have hn : (es1.toList.map (·.born)).Nodup := by rw [hes]; exact born_nodup hP
  have hg : es1.toList[A.length]? = some e.me := by rw [hes]; simp
  have hidx : es1.findIdx? (fun x => ((x.born : Nat) : Int) == ((e.born : Nat) : Int)) = some A.length := by
    rw [findIdx_arr]
    exact findIdx_born (e0 := e.me) hn hg
  refine ⟨es1.modify A.length (fun x => { x with val := v' }), ?_, fun qs => ?_⟩
  · simp [Instr.entryStore, MapKept.run_getObj_map hm, asInt, asIntOf, goInt, hidx, MapKept.run_setObj_map _ hm, Result.andThen]
  · rw [Array.toList_modify, hes]
    have e1 : ((A ++ e :: B).map Ent.me) = A.map Ent.me ++ e.me :: B.map Ent.me := by simp
    have e2 : A.length = (A.map Ent.me).length := by simp
    rw [e1, e2, modify_at]
    simp [Ent.me, Ent.key]

/-- The operations, for a walk. -/
theorem wpList_entry {P : Program} (w : World) {ops : Array Oper} {rest : List Oper} {o : Oper} {a : Act} {Q : Exit → Act → World → Prop} (hg : o.guard = none) (m x : Operand) (t : TypeId) (hop : o.op = Op.mapEntry t m x)
    {mv key r : Value} {w1 : World} (hm : a.eval m = mv) (hx : a.eval x = key) (hrun : (Instr.mapEntry t mv key).run P w = .ok r w1) (hK : wpList P ops Q rest (a.put o.dst r) w1) : wpList P ops Q (o :: rest) a w := by
  refine wpList_plain hg fun K' hK' => ?_
  unfold Oper.wp
  simp [execOp, hop, hm, hx, hrun, Result.andThen]
  exact hK' _ _ hK
theorem wpList_entryStore {P : Program} (w : World) {ops : Array Oper} {rest : List Oper} {o : Oper} {a : Act} {Q : Exit → Act → World → Prop} (hg : o.guard = none) (m st x : Operand) (t : TypeId) (hop : o.op = Op.entryStore t m st x)
    {mv stv v : Value} {w1 : World} (hm : a.eval m = mv) (hs : a.eval st = stv) (hx : a.eval x = v) (hrun : (Instr.entryStore t mv stv v).run P w = .ok () w1) (hK : wpList P ops Q rest (a.put o.dst undef) w1) : wpList P ops Q (o :: rest) a w := by
  refine wpList_plain hg fun K' hK' => ?_
  unfold Oper.wp
  simp [execOp, hop, hm, hs, hx, hrun, Result.andThen]
  exact hK' _ _ hK
end
end Go.Proofs.YthcikinkicpicaaGreatDoor

namespace Go.Proofs.YthcikinkicpicaaGreatDoor
open Go.RowKit Go.ChangeMaps Go.WideMaps Go.WideElems

theorem Tryz.infoPtr : (Tryz.prog.info? 132).map (fun i => (i.zero, i.size, i.bytes)) = some (some (.pointer none), 1, 8) := by kernel_rfl

/-- What put leaves. -/
def PutPost (base m q : Nat) (t : Tr) (k : Nat × Nat) (L : List Ent) (w w' : World) : Prop := ∃ es' ck' L', w'.heap[m]? = some (.map es' ck') ∧ Bins base w' es' ck' L' ∧
      (∀ j, binL L' j = if j = k then binL L j ++ [(q, t)] else binL L j) ∧ (∀ e ∈ L', e.key ≠ k → e ∈ L) ∧ Kept (fun i => i = m ∨ ∃ e ∈ L, e.key = k ∧ e.v.ownBlock = some i) w w'

set_option maxRecDepth 100000 in
set_option maxHeartbeats 1000000 in
theorem put_in {base m q : Nat} {t : Tr} {es : Array MapEntry} {ck : Nat} {L : List Ent} {w : World} (hm : w.heap[m]? = some (.map es ck)) (hB : Bins base w es ck L) (hq : w.heap[q]? = some (.cells (trT t) 165 (0, 0)))
    (k : Nat × Nat) (hx : k.1 ≤ 1000) (hy : k.2 ≤ 1000) (N : Nat) (hl : (binL L k).length ≤ N) (hN : N ≤ 1000000000000) (hb : base ≤ w.heap.size) :
    Calls Tryz.prog 93 #[.map (some m), .pointer (some ⟨q, 0, none⟩), boxV k.1 k.2 4 4] w fun e w' => e = .returned (.tuple #[]) ∧ PutPost base m q t k L w w' := by
  obtain ⟨i0, hi, hz0, hz1, hz2⟩ := info_parts Tryz.infoPtr
  have lm := lt_of_heap hm
  have lq := lt_of_heap hq
  obtain ⟨W2, hW2⟩ : ∃ W2, (w.alloc (.cells #[.int .i64 k.1, .int .i64 k.2, .int .i64 4, .int .i64 4] 66)).alloc (.cells #[.pointer (some ⟨q, 0, none⟩)] 132) = W2 := ⟨_, rfl⟩
  have hb2 : Below w.heap.size w W2 := by rw [← hW2]; exact ((Below.refl _ _).alloc (Nat.le_refl _) _).alloc (by simp) _
  have hn2 : W2.heap[w.heap.size + 1]? = some (.cells #[.pointer (some ⟨q, 0, none⟩)] 132 (0, 0)) := by
    rw [← hW2]; exact heap_alloc_at (by simp) _
  have hs2 : W2.heap.size = w.heap.size + 2 := by rw [← hW2]; simp
  have hB2 := hB.frame hb2
  obtain ⟨es1, ck1, A, e, B, w1, hrun, hm1, hk1, hB1, hek, hA, hL⟩ := entry_run ((hb2.block _ lm).trans hm) hB2 k hx hy
  have he := hB1.ok e (by simp)
  have hqs : e.qs = binL L k := by
    rcases hL with rfl | ⟨rfl, rfl, h1, _⟩
    · rw [binL_at A e B k hA, if_pos hek]
    · rw [h1, binL_none _ k hA]
  have hn1 : w1.heap[w.heap.size + 1]? = some (.cells #[.pointer (some ⟨q, 0, none⟩)] 132 (0, 0)) := (hk1.block _ (by omega) (by omega)).trans hn2
  have hs1 : w.heap.size + 2 ≤ w1.heap.size := by have := hk1.size; omega
  have hq1 : w1.heap[q]? = some (.cells (trT t) 165 (0, 0)) := (hk1.block _ (by omega) (by rintro rfl; rw [hm] at hq; cases hq)).trans ((hb2.block _ lq).trans hq)
  have Hrow : Hid (w1.ownsRow base 132 1 e.v e.qs.length (e.qs.map ptrT)) := he.row
  have HNews : Hid (∀ j u, ([Value.pointer (some ⟨q, 0, none⟩)] : List Value)[j]? = some u → w1.cell? (Addr.add ⟨w.heap.size + 1, 0, none⟩ j) = some u) := by
    intro j u hu
    cases j with
    | zero => simp at hu; rw [← hu]; exact cell_of hn1 0
    | succ j => simp at hu
  have Hlen : Hid (e.qs.length ≤ N) := by show _ ≤ _; rw [hqs]; exact hl
  have Hbs : Hid (base ≤ w1.heap.size) := by show _ ≤ _; omega
  have HRun : Hid ((Instr.mapEntry 92 (.map (some m)) (keyV k)).run Tryz.prog ((w.alloc (.cells #[.int .i64 k.1, .int .i64 k.2, .int .i64 4, .int .i64 4] 66)).alloc (.cells #[.pointer (some ⟨q, 0, none⟩)] 132)) = .ok (.tuple #[e.v, goInt e.born]) w1) := by rw [hW2]; exact hrun
  have HSt : Hid (∀ (w2 : World) (v' : Value), w1.grownBy w2 e.v.ownBlock → w2.heap[m]? = some (.map es1 ck1) ∧ ∃ es2 : Array MapEntry, (Instr.entryStore 92 (.map (some m)) (goInt e.born) v').run Tryz.prog w2 = .ok () { w2 with heap := w2.heap.setIfInBounds m (.map es2 ck1) } ∧ ∀ qs, es2.toList = (A ++ { e with v := v', qs := qs } :: B).map Ent.me) := by
    intro w2 v' hg
    have hmm : w2.heap[m]? = some (.map es1 ck1) := by
      refine (hg.block m (lt_of_heap hm1) (fun h => ?_)).trans hm1
      obtain ⟨cur, hc⟩ := hB1.row_of (e := e) (by simp) h.symm
      rw [hm1] at hc; cases hc
    exact ⟨hmm, store_run hmm hB1.es hB1.ap v'⟩
  have HEnd : Hid (∀ (w2 : World) (v' : Value) (es2 : Array MapEntry), w2.ownsRow base 132 1 v' (e.qs.length + 1) (e.qs.map ptrT ++ [.pointer (some ⟨q, 0, none⟩)]) → w1.grownBy w2 e.v.ownBlock → (v'.ownBlock = e.v.ownBlock ∨ v'.ownBlock = some w1.heap.size) → w2.heap[m]? = some (.map es1 ck1) → (∀ qs, es2.toList = (A ++ { e with v := v', qs := qs } :: B).map Ent.me) →
      PutPost base m q t k L w { w2 with heap := w2.heap.setIfInBounds m (.map es2 ck1) }) := by
    intro w2 v' es2 ho hg hloc hm2 hes
    have hkm := kept_block m w2 (.map es2 ck1)
    have hP := hB1.ap
    rw [List.pairwise_append, List.pairwise_cons] at hP
    obtain ⟨hPA, ⟨hPe, hPB⟩, hPAB⟩ := hP
    have hvb : ∀ x, (x ∈ A ∨ x ∈ B) → ∀ g, x.v.ownBlock = some g → v'.ownBlock ≠ some g := by
      intro x hx' g hg' hv
      have hxm : x ∈ A ++ e :: B := by rcases hx' with h | h <;> simp [h]
      obtain ⟨cur, hc⟩ := hB1.row_of hxm hg'
      have hne : e.v.ownBlock ≠ some g := by
        rcases hx' with h | h
        · exact (hPAB x h e (by simp)).2.2 g hg'
        · intro h'; exact (hPe x h).2.2 g h' hg'
      rcases hloc with h | h
      · exact hne (h.symm.trans hv)
      · rw [h] at hv
        have := lt_of_heap hc
        simp at hv; omega
    have hnm2 : ∀ (g : Nat) (cur : Array Value) (T : TypeId), w2.heap[g]? = some (.cells cur T (0, 0)) → T = 132 ∨ T = 165 → ¬ (g = m) := by
      rintro g cur T hg' _ rfl
      rw [hm2] at hg'; cases hg'
    have hkg : Kept (fun i => some i = e.v.ownBlock) w1 w2 := ⟨hg.os, hg.tape, hg.output, hg.size, fun i hi hn => hg.block i hi hn⟩
    have hrowE : ∀ g, some g = e.v.ownBlock → ∃ cur, w1.heap[g]? = some (.cells cur 132 (0, 0)) := fun g hg' => hB1.row_of (e := e) (by simp) hg'.symm
    have htri : ∀ (r : Nat × Tr), w1.heap[r.1]? = some (.cells (trT r.2) 165 (0, 0)) → w2.heap[r.1]? = some (.cells (trT r.2) 165 (0, 0)) := by
      intro r hr
      refine (hg.block _ (lt_of_heap hr) (fun h => ?_)).trans hr
      obtain ⟨cur, hc⟩ := hrowE _ h
      exact ne_types hr hc (by decide) rfl
    have hok : ∀ x, x ∈ A ∨ x ∈ B → EntOk base w2 ck1 x := by
      intro x hx'
      have hxm : x ∈ A ++ e :: B := by rcases hx' with h | h <;> simp [h]
      have hx1 := hB1.ok x hxm
      have hne : ∀ g, x.v.ownBlock = some g → some g ≠ e.v.ownBlock := by
        intro g hg' h'
        rcases hx' with h | h
        · exact (hPAB x h e (by simp)).2.2 g hg' h'.symm
        · exact (hPe x h).2.2 g h'.symm hg'
      refine ⟨hx1.x, hx1.y, hx1.born, ?_, fun r hr => htri r (hx1.tri r hr)⟩
      obtain ⟨o1, o2⟩ := hx1.row
      refine ⟨o1, ?_⟩
      rcases o2 with o2 | ⟨g, cap, cur, hv, hge, hh, r⟩
      · exact .inl o2
      · exact .inr ⟨g, cap, cur, hv, hge, (hg.block g (lt_of_heap hh) (hne g (by rw [hv]; rfl))).trans hh, r⟩
    have hmem : ∀ x, x ∈ A ++ { e with v := v', qs := e.qs ++ [(q, t)] } :: B → x.key ≠ k → x ∈ A ∨ x ∈ B := by
      intro x hx' hk'
      rcases List.mem_append.1 hx' with h | h
      · exact .inl h
      · rcases List.mem_cons.1 h with rfl | h
        · exact absurd hek hk'
        · exact .inr h
    refine ⟨es2, ck1, A ++ { e with v := v', qs := e.qs ++ [(q, t)] } :: B, ?_, ⟨hes _, ?_, ?_⟩, ?_, ?_, ?_⟩
    · simp [lt_of_heap hm2]
    · intro x hx'
      refine EntOk.kept ?_ hkm hnm2
      rcases List.mem_append.1 hx' with h | h
      · exact hok x (.inl h)
      · rcases List.mem_cons.1 h with rfl | h
        · refine ⟨he.x, he.y, he.born, ?_, fun r hr => ?_⟩
          · simpa [ptrT] using ho
          · rcases List.mem_append.1 hr with hr | hr
            · exact htri r (he.tri r hr)
            · rw [List.mem_singleton] at hr
              subst hr
              exact htri (q, t) hq1
        · exact hok x (.inr h)
    · rw [List.pairwise_append, List.pairwise_cons]
      refine ⟨hPA, ⟨fun b hb' => ?_, hPB⟩, fun a ha b hb' => ?_⟩
      · have := hPe b hb'
        exact ⟨this.1, this.2.1, fun g hg' hb'' => hvb b (.inr hb') g hb'' hg'⟩
      · rcases List.mem_cons.1 hb' with rfl | hb'
        · have := hPAB a ha e (by simp)
          exact ⟨this.1, this.2.1, fun g hg' => hvb a (.inl ha) g hg'⟩
        · exact hPAB a ha b (List.mem_cons_of_mem _ hb')
    · intro j
      by_cases hj : j = k
      · subst hj
        rw [if_pos rfl, binL_at A _ B _ hA, ← hqs]
        exact if_pos hek
      · rw [if_neg hj, binL_put A e _ B j (by rfl) (by rw [hek]; exact fun h => hj h.symm)]
        rcases hL with rfl | ⟨rfl, rfl, h1, _⟩
        · rfl
        · clear hqs hes hmem
          by_cases hin : ∃ x ∈ L, x.key = j
          · obtain ⟨A', e', B', hs, hk', hA'⟩ | hno := ent_split L j
            · rw [hs, List.append_assoc, List.cons_append, binL_at A' e' _ j hA', binL_at A' e' _ j hA', if_pos hk', if_pos hk']
            · obtain ⟨x, hx1, hx2⟩ := hin
              exact absurd hx2 (hno x hx1)
          · have hno : ∀ x ∈ L, x.key ≠ j := fun x hx' h => hin ⟨x, hx', h⟩
            rw [binL_at L e [] j hno, binL_none L j hno, h1]
            split <;> rfl
    · intro x hx' hk'
      have := hmem x hx' hk'
      rcases hL with rfl | ⟨rfl, rfl, _, _⟩
      · rcases this with h | h <;> simp [h]
      · rcases this with h | h
        · exact h
        · cases h
    · have hk2 : Kept (fun i => i = m ∨ ∃ e ∈ L, e.key = k ∧ e.v.ownBlock = some i) w w1 := by
        refine ⟨hk1.os.trans hb2.os, hk1.tape.trans hb2.tape, hk1.output.trans hb2.output, by omega, fun i hi hn => (hk1.block i (by omega) (fun h => hn (.inl h))).trans (hb2.block i hi)⟩
      refine ⟨hkm.os.trans (hg.os.trans hk2.os), hkm.tape.trans (hg.tape.trans hk2.tape), hkm.output.trans (hg.output.trans hk2.output), Nat.le_trans hk2.size (Nat.le_trans hg.size hkm.size), fun i hi hn => ?_⟩
      refine (hkm.block i (by have := hg.size; omega) (fun h => hn (.inl h))).trans ((hg.block i (by omega) (fun h => ?_)).trans (hk2.block i hi hn))
      rcases hL with rfl | ⟨_, _, _, hv⟩
      · exact hn (.inr ⟨e, by simp, hek, h.symm⟩)
      · rw [hv] at h; cases h
  clear hB hB2 hB1 hrun hm hm1 hk1 he hq hq1 hn1 hn2 hb2 hs1 hs2 hW2 hL hA hqs hl hb lm lq
  go_enter Tryz.func93, Tryz.ntmps93
  go_wp2_with (first
    | (refine wpList_entry _ rfl (.tmp 6) (.tmp 7) 92 rfl rfl rfl HRun.out ?_)
    | (at_builtin; refine wpList_append_own_at _ rfl (.tmp 8) (.tmp 10) 131 rfl base 132 i0 _ 1 8 Tryz.underlying131 hi hz0 hz1 hz2 rfl (by decide) e.v _ _ rfl Hrow.out ⟨w.heap.size + 1, 0, none⟩ 1 1 [.pointer (some ⟨q, 0, none⟩)] rfl rfl HNews.out (by simp [Value.oneCell']) (by have := Hlen.out; simp only [maxLen]; omega) (by have := Hlen.out; omega) Hbs.out ?_; intro v' w2 ho2 hg2 _ hv2; obtain ⟨hm2, es2, hst, hes2⟩ := HSt.out w2 v' hg2)
    | (refine wpList_entryStore _ rfl (.tmp 6) (.tmp 13) (.tmp 12) 92 rfl rfl rfl rfl hst ?_))
  go_end0
  exact ⟨rfl, HEnd.out w2 v' es2 ho2 hg2 hv2 hm2 hes2⟩
end Go.Proofs.YthcikinkicpicaaGreatDoor
