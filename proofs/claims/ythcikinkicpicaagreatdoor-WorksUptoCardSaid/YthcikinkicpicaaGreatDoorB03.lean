import Derived.Test.YthcikinkicpicaaGreatDoorB02
import Derived.Deep.DeepCutAuto

namespace Go.Proofs.YthcikinkicpicaaGreatDoor
open Go.RowKit

def pcells (st : St) (dB qB : Nat) (shV outV : Value) : Array Value :=
  #[.int .i64 st.W, .int .i64 st.H, .slice (some ⟨dB, 0, none⟩) st.dots.length st.dots.length,
    .int .i64 st.T.depth, .int .i64 st.T.write, .int .i64 st.T.test, .int .i64 st.T.value, .int .i64 st.T.which, .int .i64 st.T.writes, .int .i64 st.T.fail, .int .i64 st.T.dfail, .int .i64 st.T.pass, .int .i64 st.T.faces, .int .i64 st.T.colours,
    .int .i64 st.wx, .int .i64 st.wy, .int .i64 st.ww, .int .i64 st.wh, shV, .slice (some ⟨qB, 0, none⟩) 4 4, .int .i64 st.work, outV]

def dcells (l : List Dot) : Array Value := (l.flatMap fun o => [Value.int .i64 o.r, .int .i64 o.g, .int .i64 o.b, .int .i64 o.d, .int .i64 o.s]).toArray
def qcells (l : List Qry) : Array Value := (l.flatMap fun o => [Value.bool o.ever, .bool o.on, .int .i64 o.n]).toArray

structure PaneIn (w : World) (p dB qB : Nat) (shV outV : Value) (st : St) : Prop where
  bp : w.heap[p]? = some (.cells (pcells st dB qB shV outV) 38 (0, 0))
  bd : w.heap[dB]? = some (.cells (dcells st.dots) 135 (0, 0))
  bq : w.heap[qB]? = some (.cells (qcells st.qs) 139 (0, 0))
  sh : IntsAt w (fun k => k = p ∨ k = dB ∨ k = qB) shV st.sh
  pd : p ≠ dB
  pq : p ≠ qB
  dq : dB ≠ qB

theorem flat_get {α : Type} (f : α → List Value) (m : Nat) (hf : ∀ a, (f a).length = m) : ∀ (l : List α) (i j : Nat) (h : i < l.length), j < m → (l.flatMap f)[i * m + j]? = (f l[i])[j]?
  | a :: l, 0, j, _, hj => by
    simp only [List.flatMap_cons, Nat.zero_mul, Nat.zero_add, List.getElem_cons_zero]
    rw [List.getElem?_append_left (by rw [hf]; exact hj)]
  | a :: l, i + 1, j, h, hj => by
    simp only [List.flatMap_cons, List.getElem_cons_succ]
    rw [List.getElem?_append_right (by rw [hf, Nat.succ_mul]; omega), hf, ← flat_get f m hf l i j (by simpa using h) hj]
    congr 1
    rw [Nat.succ_mul]; omega

theorem flat_len {α : Type} (f : α → List Value) (m : Nat) (hf : ∀ a, (f a).length = m) : ∀ (l : List α), (l.flatMap f).length = l.length * m
  | [] => by simp
  | a :: l => by simp only [List.flatMap_cons, List.length_append, hf, List.length_cons, flat_len f m hf l, Nat.succ_mul]; omega

theorem dcells_get (l : List Dot) (i : Nat) (h : i < l.length) :
    (dcells l)[i * 5]? = some (.int .i64 l[i].r) ∧ (dcells l)[i * 5 + 1]? = some (.int .i64 l[i].g) ∧ (dcells l)[i * 5 + 2]? = some (.int .i64 l[i].b) ∧
    (dcells l)[i * 5 + 3]? = some (.int .i64 l[i].d) ∧ (dcells l)[i * 5 + 4]? = some (.int .i64 l[i].s) := by
  have h1 := fun j hj => flat_get (fun o : Dot => [Value.int .i64 o.r, .int .i64 o.g, .int .i64 o.b, .int .i64 o.d, .int .i64 o.s]) 5 (fun _ => rfl) l i j h hj
  unfold dcells
  exact ⟨by simpa using h1 0 (by omega), by simpa using h1 1 (by omega), by simpa using h1 2 (by omega), by simpa using h1 3 (by omega), by simpa using h1 4 (by omega)⟩
theorem qcells_get (l : List Qry) (i : Nat) (h : i < l.length) :
    (qcells l)[i * 3]? = some (.bool l[i].ever) ∧ (qcells l)[i * 3 + 1]? = some (.bool l[i].on) ∧ (qcells l)[i * 3 + 2]? = some (.int .i64 l[i].n) := by
  have h1 := fun j hj => flat_get (fun o : Qry => [Value.bool o.ever, .bool o.on, .int .i64 o.n]) 3 (fun _ => rfl) l i j h hj
  unfold qcells
  exact ⟨by simpa using h1 0 (by omega), by simpa using h1 1 (by omega), by simpa using h1 2 (by omega)⟩

theorem flat_set {α : Type} (f : α → List Value) (m : Nat) (hf : ∀ a, (f a).length = m) (l : List α) (i : Nat) (a : α) (h : i < l.length) (j : Nat) :
    ((l.set i a).flatMap f)[j]? = if i * m ≤ j ∧ j < i * m + m then (f a)[j - i * m]? else (l.flatMap f)[j]? := by
  induction l generalizing i j with
  | nil => simp at h
  | cons b l ih =>
    cases i with
    | zero =>
      simp only [List.set_cons_zero, List.flatMap_cons, Nat.zero_mul, Nat.zero_le, true_and, Nat.zero_add, Nat.sub_zero]
      by_cases hj : j < m
      · rw [if_pos hj, List.getElem?_append_left (by rw [hf]; exact hj)]
      · rw [if_neg hj, List.getElem?_append_right (by rw [hf]; omega), List.getElem?_append_right (by rw [hf]; omega), hf, hf]
    | succ i =>
      simp only [List.set_cons_succ, List.flatMap_cons]
      by_cases hj : j < m
      · rw [List.getElem?_append_left (by rw [hf]; exact hj), List.getElem?_append_left (by rw [hf]; exact hj), if_neg (by rw [Nat.succ_mul]; omega)]
      · rw [List.getElem?_append_right (by rw [hf]; omega), List.getElem?_append_right (by rw [hf]; omega), hf, ih i (by simpa using h) (j - m)]
        have e1 : (i + 1) * m = i * m + m := Nat.succ_mul ..
        by_cases hk : i * m ≤ j - m ∧ j - m < i * m + m
        · rw [if_pos hk, if_pos (by omega)]
          congr 1; omega
        · rw [if_neg hk, if_neg (by omega)]

theorem set5 (l : List Dot) (i : Nat) (h : i < l.length) (o : Dot) :
    (((((dcells l).setIfInBounds (i * 5) (.int .i64 o.r)).setIfInBounds (i * 5 + 1) (.int .i64 o.g)).setIfInBounds (i * 5 + 2) (.int .i64 o.b)).setIfInBounds (i * 5 + 3) (.int .i64 o.d)).setIfInBounds (i * 5 + 4) (.int .i64 o.s)
      = dcells (l.set i o) := by
  have hl := flat_len (fun o : Dot => [Value.int .i64 o.r, .int .i64 o.g, .int .i64 o.b, .int .i64 o.d, .int .i64 o.s]) 5 (fun _ => rfl) l
  have hs := flat_set (fun o : Dot => [Value.int .i64 o.r, .int .i64 o.g, .int .i64 o.b, .int .i64 o.d, .int .i64 o.s]) 5 (fun _ => rfl) l i o h
  apply Array.ext_getElem?
  intro j
  unfold dcells
  simp only [List.setIfInBounds_toArray, List.getElem?_toArray, List.getElem?_set]
  rw [hs j]
  simp only [List.length_set, hl]
  by_cases hj : i * 5 ≤ j ∧ j < i * 5 + 5
  · rw [if_pos hj]
    obtain ⟨h1, h2⟩ := hj
    have : j = i * 5 ∨ j = i * 5 + 1 ∨ j = i * 5 + 2 ∨ j = i * 5 + 3 ∨ j = i * 5 + 4 := by omega
    have hb : i * 5 + 5 ≤ l.length * 5 := by omega
    rcases this with rfl | rfl | rfl | rfl | rfl
    · rw [if_neg (by omega), if_neg (by omega), if_neg (by omega), if_neg (by omega), if_pos rfl, if_pos (by omega)]; simp
    · rw [if_neg (by omega), if_neg (by omega), if_neg (by omega), if_pos rfl, if_pos (by omega)]; simp
    · rw [if_neg (by omega), if_neg (by omega), if_pos rfl, if_pos (by omega)]; simp
    · rw [if_neg (by omega), if_pos rfl, if_pos (by omega)]; simp
    · rw [if_pos rfl, if_pos (by omega)]; simp
  · rw [if_neg hj, if_neg (by omega), if_neg (by omega), if_neg (by omega), if_neg (by omega), if_neg (by omega)]

theorem setq (l : List Qry) (i : Nat) (h : i < l.length) (n : Int) : (qcells l).setIfInBounds (i * 3 + 2) (.int .i64 n) = qcells (l.set i { l[i] with n := n }) := by
  have hl := flat_len (fun o : Qry => [Value.bool o.ever, .bool o.on, .int .i64 o.n]) 3 (fun _ => rfl) l
  have hs := flat_set (fun o : Qry => [Value.bool o.ever, .bool o.on, .int .i64 o.n]) 3 (fun _ => rfl) l i { l[i] with n := n } h
  have hg := qcells_get l i h
  unfold qcells at hg
  apply Array.ext_getElem?
  intro j
  unfold qcells
  simp only [List.setIfInBounds_toArray, List.getElem?_toArray, List.getElem?_set] at hg ⊢
  rw [hs j]
  simp only [hl]
  by_cases hj : i * 3 ≤ j ∧ j < i * 3 + 3
  · rw [if_pos hj]
    obtain ⟨h1, h2⟩ := hj
    have : j = i * 3 ∨ j = i * 3 + 1 ∨ j = i * 3 + 2 := by omega
    rcases this with rfl | rfl | rfl
    · rw [if_neg (by omega), hg.1]; simp
    · rw [if_neg (by omega), hg.2.1]; simp
    · rw [if_pos rfl, if_pos (by omega)]; simp
  · rw [if_neg hj, if_neg (by omega)]

end Go.Proofs.YthcikinkicpicaaGreatDoor

namespace Go.Proofs.YthcikinkicpicaaGreatDoor
open Go.RowKit

set_option maxRecDepth 100000 in
set_option maxHeartbeats 1000000 in
theorem shaded_nil (p : Nat) (A : Array Value) (d : Dot) (x y work : Int) (w : World)
    (hp : w.heap[p]? = some (.cells A 38 (0, 0))) (h18 : A[18]? = some (.slice none 0 0)) (h20 : A[20]? = some (.int .i64 work))
    (hd : d.Ok) (hx0 : 0 ≤ x) (hx1 : x ≤ 300) (hy0 : 0 ≤ y) (hy1 : y ≤ 300) (hw0 : 0 ≤ work) :
    Calls Tryz.prog 107 #[.pointer (some ⟨p, 0, none⟩), d.v, .int .i64 x, .int .i64 y] w fun e w' =>
      shPost (shaded [] d x y work).2 e ∧ w'.heap[p]? = some (.cells (A.setIfInBounds 20 (.int .i64 (shaded [] d x y work).1)) 38 (0, 0)) ∧ Kept (· = p) w w' := by
  have hp18 := cell_of hp 18
  rw [h18] at hp18
  have hps := lt_of_heap hp
  have hps1 : p < w.heap.size + 1 := by omega
  have hps2 : p < w.heap.size + 1 + 1 := by omega
  unfold Dot.v
  have Hst : Hid _ := shInv_start p A [] d x y work w hp h20 hd hx0 hx1 hy0 hy1 hw0
  go_enter Tryz.func107, Tryz.ntmps107
  go_wp2_with fail
  go_loopw [12] (fun i wr => i = .int .i64 0 ∧ ShInv p A [] d x y work w 0 [d.r, d.g, d.b, x, y, d.d, 0, 0] d.d work wr)
    (fun _ _ => 0)
  case atStart => exact ⟨rfl, Hst.out⟩
  case round =>
    obtain ⟨rfl, hinv⟩ := hrel
    have cdA := cell_of hinv.bd
    have ceA := cell_of hinv.be
    have crA := cell_of hinv.br
    have fdA := frozen_of hinv.bd
    have feA := frozen_of hinv.be
    simp only [List.map_cons, List.map_nil] at crA
    go_wp2_with (go_at_call 133; refine (within_any _ _ _ _).mono ?_; rintro e w' ⟨rfl, rfl⟩)
    refine bodyPost_ret (v := .tuple #[.agg #[.int .i64 (within d.r 0 255), .int .i64 (within d.g 0 255), .int .i64 (within d.b 0 255), .int .i64 d.d, .int .i64 d.s], .bool true]) (by simp [results, Tryz.results107, go_sem, ceA]) rfl ?_
    go_light
    have e1 := hinv.ends_some rfl
    rw [e1]
    refine ⟨rfl, ?_, ?_⟩
    · rw [heap_set_ne (by omega), heap_set_ne (by omega), heap_set_ne (by omega), heap_set_ne (by omega), heap_set_ne (by omega), heap_set_ne (by omega), heap_set_ne (by omega), heap_set_ne (by omega)]
      exact hinv.bp
    · exact (((((((hinv.kept.set (.inr (by omega)) _ _).set (.inr (by omega)) _ _).set (.inr (by omega)) _ _).set (.inr (by omega)) _ _).set (.inr (by omega)) _ _).set (.inr (by omega)) _ _).set (.inr (by omega)) _ _).set (.inr (by omega)) _ _

theorem PaneIn.lt {w : World} {p dB qB : Nat} {shV outV : Value} {st : St} (h : PaneIn w p dB qB shV outV st) : p < w.heap.size ∧ dB < w.heap.size ∧ qB < w.heap.size :=
  ⟨lt_of_heap h.bp, lt_of_heap h.bd, lt_of_heap h.bq⟩

theorem IntsAt.kept {w w' : World} {no S : Nat → Prop} {v : Value} {l : List Int} (h : IntsAt w no v l) (hk : Kept S w w') (hS : ∀ k, S k → no k) : IntsAt w' no v l := by
  rcases h with h | ⟨s, so, cap, hv, hc, hs, hn, hcell⟩
  · exact .inl h
  · refine .inr ⟨s, so, cap, hv, hc, Nat.lt_of_lt_of_le hs hk.size, hn, fun j hj => ?_⟩
    rw [World.cell?_of_block (w := w) (a := ⟨s, so + j, none⟩) (hk.block s hs (fun x => hn (hS s x)))]
    exact hcell j hj

theorem PaneIn.work {w w' : World} {p dB qB : Nat} {shV outV : Value} {st : St} (h : PaneIn w p dB qB shV outV st) (k : Int)
    (hp : w'.heap[p]? = some (.cells ((pcells st dB qB shV outV).setIfInBounds 20 (.int .i64 k)) 38 (0, 0))) (hk : Kept (· = p) w w') :
    PaneIn w' p dB qB shV outV { st with work := k } := by
  obtain ⟨h1, h2, h3⟩ := h.lt
  refine ⟨hp, ?_, ?_, h.sh.kept hk (fun k hk => .inl hk), h.pd, h.pq, h.dq⟩
  · rw [hk.block dB h2 (fun x => h.pd x.symm)]; exact h.bd
  · rw [hk.block qB h3 (fun x => h.pq x.symm)]; exact h.bq

theorem shaded_in (p dB qB : Nat) (shV outV : Value) (st : St) (d : Dot) (x y : Int) (w : World) (K : Int) (h : PaneIn w p dB qB shV outV st) (hok : st.Ok K) (hK : K ≤ 4000000000000000000)
    (hd : d.Ok) (hx0 : 0 ≤ x) (hx1 : x ≤ 300) (hy0 : 0 ≤ y) (hy1 : y ≤ 300) :
    Calls Tryz.prog 107 #[.pointer (some ⟨p, 0, none⟩), d.v, .int .i64 x, .int .i64 y] w fun e w' =>
      shPost (shaded st.sh d x y st.work).2 e ∧ PaneIn w' p dB qB shV outV { st with work := (shaded st.sh d x y st.work).1 } ∧ Kept (· = p) w w' := by
  have w0 := hok.work0
  have w1 := hok.work1
  rcases h.sh with ⟨hv, hl⟩ | ⟨s, so, cap, hv, hc, hs, hn, hcell⟩
  · rw [hl]
    refine (shaded_nil p _ d x y st.work w h.bp (by rw [hv]; rfl) rfl hd hx0 hx1 hy0 hy1 w0).mono ?_
    rintro e w' ⟨h1, h2, h3⟩
    refine ⟨h1, ?_, h3⟩
    have := h.work _ h2 h3
    simpa [hl] using this
  · refine (shaded_some p s so cap _ st.sh d x y st.work w h.bp (by rw [hv]; rfl) rfl hc hs (fun e => hn (.inl e)) hcell hok.sh hok.shl hd hx0 hx1 hy0 hy1 w0 (by omega)).mono ?_
    rintro e w' ⟨h1, h2, h3⟩
    exact ⟨h1, h.work _ h2 h3, h3⟩

end Go.Proofs.YthcikinkicpicaaGreatDoor

namespace Go.Proofs.YthcikinkicpicaaGreatDoor
open Go.RowKit

theorem PaneIn.frame {w w' : World} {p dB qB : Nat} {shV outV : Value} {st : St} (h : PaneIn w p dB qB shV outV st) (hk : Below w.heap.size w w') : PaneIn w' p dB qB shV outV st := by
  obtain ⟨h1, h2, h3⟩ := h.lt
  refine ⟨?_, ?_, ?_, h.sh.kept (S := fun _ => False) ⟨hk.os, hk.tape, hk.output, hk.size, fun k hk' _ => hk.block k hk'⟩ (fun _ x => x.elim), h.pd, h.pq, h.dq⟩
  · rw [hk.block _ h1]; exact h.bp
  · rw [hk.block _ h2]; exact h.bd
  · rw [hk.block _ h3]; exact h.bq

theorem idx_lt (x y W H : Int) (hx0 : 0 ≤ x) (hx1 : x < W) (hy0 : 0 ≤ y) (hy1 : y < H) : 0 ≤ y * W ∧ 0 ≤ y * W + x ∧ y * W + x < W * H := by
  have h1 : 0 ≤ y * W := Int.mul_nonneg hy0 (by omega)
  have h2 : y * W ≤ (H - 1) * W := Int.mul_le_mul_of_nonneg_right (by omega) (by omega)
  rw [Int.sub_mul, Int.one_mul, Int.mul_comm H W] at h2
  exact ⟨h1, by omega, by omega⟩

theorem PaneIn.drew {w : World} {p dB qB : Nat} {shV outV : Value} {st : St} (h : PaneIn w p dB qB shV outV st) : PaneIn w.drew p dB qB shV outV st :=
  ⟨h.bp, h.bd, h.bq, h.sh, h.pd, h.pq, h.dq⟩
theorem PaneIn.drewN {w : World} {p dB qB : Nat} {shV outV : Value} {st : St} (h : PaneIn w p dB qB shV outV st) (n : Nat) : PaneIn (w.drewN n) p dB qB shV outV st :=
  ⟨h.bp, h.bd, h.bq, h.sh, h.pd, h.pq, h.dq⟩

theorem PaneIn.put {w : World} {p dB qB : Nat} {shV outV : Value} {st : St} (h : PaneIn w p dB qB shV outV st) {idx : Nat} (hi : idx < st.dots.length) (o : Dot) :
    PaneIn (((((w.setCell ⟨dB, idx * 5, none⟩ (.int .i64 o.r)).setCell ⟨dB, idx * 5 + 1, none⟩ (.int .i64 o.g)).setCell ⟨dB, idx * 5 + 2, none⟩ (.int .i64 o.b)).setCell ⟨dB, idx * 5 + 3, none⟩ (.int .i64 o.d)).setCell ⟨dB, idx * 5 + 4, none⟩ (.int .i64 o.s))
      p dB qB shV outV { st with dots := st.dots.set idx o } ∧
    Kept (· = dB) w (((((w.setCell ⟨dB, idx * 5, none⟩ (.int .i64 o.r)).setCell ⟨dB, idx * 5 + 1, none⟩ (.int .i64 o.g)).setCell ⟨dB, idx * 5 + 2, none⟩ (.int .i64 o.b)).setCell ⟨dB, idx * 5 + 3, none⟩ (.int .i64 o.d)).setCell ⟨dB, idx * 5 + 4, none⟩ (.int .i64 o.s)) := by
  have hk : Kept (· = dB) w (((((w.setCell ⟨dB, idx * 5, none⟩ (.int .i64 o.r)).setCell ⟨dB, idx * 5 + 1, none⟩ (.int .i64 o.g)).setCell ⟨dB, idx * 5 + 2, none⟩ (.int .i64 o.b)).setCell ⟨dB, idx * 5 + 3, none⟩ (.int .i64 o.d)).setCell ⟨dB, idx * 5 + 4, none⟩ (.int .i64 o.s)) :=
    (((((Kept.refl (· = dB) w).set (.inl rfl) _ _).set (.inl rfl) _ _).set (.inl rfl) _ _).set (.inl rfl) _ _).set (.inl rfl) _ _
  obtain ⟨h1, h2, h3⟩ := h.lt
  refine ⟨⟨?_, ?_, ?_, h.sh.kept hk (fun k hk => .inr (.inl hk)), h.pd, h.pq, h.dq⟩, hk⟩
  · rw [hk.block p h1 h.pd, h.bp]
    simp only [pcells, List.length_set]
  · rw [← set5 _ _ hi]
    exact heap_set_same (heap_set_same (heap_set_same (heap_set_same (heap_set_same h.bd _ _) _ _) _ _) _ _) _ _
  · rw [hk.block qB h3 (fun x => h.dq x.symm)]; exact h.bq

theorem dot_eq {st : St} {d f o : Dot} {x y wk M : Int} {idx : Nat} (hsh : shaded st.sh d x y st.work = (wk, some f)) (hM : y * st.W = M) (hi : M + x = idx) (hl : idx < st.dots.length) (ho : st.dots[idx] = o) {o' : Dot} {b : Bool}
    (hr : dotRes st.T f o = (o', b)) : st.dot d x y = { st with work := wk, dots := st.dots.set idx o', qs := if b then st.qs.map count else st.qs } := by
  unfold St.dot
  rw [hsh]
  have e1 : (y * st.W + x).toNat = idx := by rw [hM, hi]; rfl
  have e2 : st.dots.getD idx dot0 = o := by rw [List.getD_eq_getElem?_getD, List.getElem?_eq_getElem hl, ho]; rfl
  simp only [e1, e2, hr]

structure DotW (F : Nat) (w1 wc : World) (f o : Dot) (T : Tst) : Prop where
  bf : wc.heap[F]? = some (.cells #[.int .i64 f.r, .int .i64 f.g, .int .i64 f.b, .int .i64 f.d, .int .i64 f.s] 135 (0, 0))
  bt : wc.heap[F + 1]? = some (.cells #[.int .i64 T.depth, .int .i64 T.write, .int .i64 T.test, .int .i64 T.value, .int .i64 T.which, .int .i64 T.writes, .int .i64 T.fail, .int .i64 T.dfail, .int .i64 T.pass, .int .i64 T.faces, .int .i64 T.colours] 31 (0, 0))
  bo : wc.heap[F + 1 + 1]? = some (.cells #[.int .i64 o.r, .int .i64 o.g, .int .i64 o.b, .int .i64 o.d, .int .i64 o.s] 135 (0, 0))
  bel : Below F w1 wc

theorem DotW.mk0 (w1 : World) (f o : Dot) (T : Tst) : DotW w1.heap.size w1
    (((w1.alloc (.cells #[.int .i64 f.r, .int .i64 f.g, .int .i64 f.b, .int .i64 f.d, .int .i64 f.s] 135)).alloc
      (.cells #[.int .i64 T.depth, .int .i64 T.write, .int .i64 T.test, .int .i64 T.value, .int .i64 T.which, .int .i64 T.writes, .int .i64 T.fail, .int .i64 T.dfail, .int .i64 T.pass, .int .i64 T.faces, .int .i64 T.colours] 31)).alloc
      (.cells #[.int .i64 o.r, .int .i64 o.g, .int .i64 o.b, .int .i64 o.d, .int .i64 o.s] 135)) f o T := by
  refine ⟨?_, ?_, ?_, (((Below.refl _ _).alloc (Nat.le_refl _) _).alloc (by simp) _).alloc (by simp; omega) _⟩
  · rw [heap_alloc_old (by simp; omega), heap_alloc_old (by simp), heap_alloc_new]
  · rw [heap_alloc_old (by simp)]; exact heap_alloc_at (by simp) _
  · exact heap_alloc_at (by simp) _
theorem DotW.drew {F : Nat} {w1 wc : World} {f o : Dot} {T : Tst} (h : DotW F w1 wc f o T) : DotW F w1 wc.drew f o T := ⟨h.bf, h.bt, h.bo, h.bel.drew⟩
theorem DotW.below {F : Nat} {w1 wc w' : World} {f o : Dot} {T : Tst} (h : DotW F w1 wc f o T) (hb : Below wc.heap.size wc w') : DotW F w1 w' f o T := by
  have l1 := lt_of_heap h.bf
  have l2 := lt_of_heap h.bt
  have l3 := lt_of_heap h.bo
  exact ⟨by rw [hb.block _ l1]; exact h.bf, by rw [hb.block _ l2]; exact h.bt, by rw [hb.block _ l3]; exact h.bo, h.bel.trans (hb.mono (by omega))⟩
theorem DotW.set {F : Nat} {w1 wc : World} {f o : Dot} {T : Tst} (h : DotW F w1 wc f o T) (j : Nat) (v : Value) (o' : Dot)
    (hv : (#[.int .i64 o.r, .int .i64 o.g, .int .i64 o.b, .int .i64 o.d, .int .i64 o.s] : Array Value).setIfInBounds j v = #[.int .i64 o'.r, .int .i64 o'.g, .int .i64 o'.b, .int .i64 o'.d, .int .i64 o'.s]) :
    DotW F w1 (wc.setCell ⟨F + 1 + 1, j, none⟩ v) f o' T := by
  refine ⟨?_, ?_, ?_, h.bel.setCell (by show F ≤ F + 1 + 1; omega) _⟩
  · rw [heap_set_ne (by omega)]; exact h.bf
  · rw [heap_set_ne (by omega)]; exact h.bt
  · rw [heap_set_same h.bo, hv]
theorem DotW.frame {F : Nat} {w1 wc : World} {f o : Dot} {T : Tst} (h : DotW F w1 wc f o T) (hF : F = w1.heap.size) {p dB qB : Nat} {shV outV : Value} {st : St} (h1 : PaneIn w1 p dB qB shV outV st) : PaneIn wc p dB qB shV outV st := by
  subst hF; exact h1.frame h.bel

theorem count_off {q : Qry} (h : q.on = false) : count q = q := by simp [count, h]
theorem count_on {q : Qry} (h : q.on = true) : count q = { q with n := q.n + 1 } := by simp [count, h]
theorem set_self {α : Type} (l : List α) (k : Nat) (h : k < l.length) {a : α} (ha : l[k] = a) : l.set k a = l := by subst ha; simp

def qk (l : List Qry) (k : Nat) : List Qry := (l.take k).map count ++ l.drop k
theorem qk_len (l : List Qry) (k : Nat) : (qk l k).length = l.length := by
  unfold qk; simp; omega
theorem qk_at (l : List Qry) (k : Nat) (h : k < l.length) : (qk l k)[k]'(by rw [qk_len]; exact h) = l[k] := by
  unfold qk
  rw [List.getElem_append_right (by simp; omega)]
  simp [Nat.min_eq_left (Nat.le_of_lt h)]
theorem qk_succ (l : List Qry) (k : Nat) (h : k < l.length) : qk l (k + 1) = (qk l k).set k (count l[k]) := by
  unfold qk
  rw [List.set_append_right _ _ (by simp; omega)]
  have e : k - (List.map count (List.take k l)).length = 0 := by simp; omega
  rw [e, List.drop_eq_getElem_cons h, List.set_cons_zero, List.take_succ_eq_append_getElem h, List.map_append, List.append_assoc]
  rfl
theorem qk_zero (l : List Qry) : qk l 0 = l := by simp [qk]
theorem qk_end (l : List Qry) (k : Nat) (h : l.length ≤ k) : qk l k = l.map count := by
  unfold qk; rw [List.take_of_length_le h, List.drop_of_length_le h]; simp

theorem PaneIn.qset {w : World} {p dB qB : Nat} {shV outV : Value} {st : St} (h : PaneIn w p dB qB shV outV st) {k : Nat} (hk : k < st.qs.length) (n : Int) :
    PaneIn (w.setCell ⟨qB, k * 3 + 2, none⟩ (.int .i64 n)) p dB qB shV outV { st with qs := st.qs.set k { st.qs[k] with n := n } } ∧ Kept (· = qB) w (w.setCell ⟨qB, k * 3 + 2, none⟩ (.int .i64 n)) := by
  have hkp : Kept (· = qB) w (w.setCell ⟨qB, k * 3 + 2, none⟩ (.int .i64 n)) := (Kept.refl (· = qB) w).set (.inl rfl) _ _
  obtain ⟨h1, h2, h3⟩ := h.lt
  refine ⟨⟨?_, ?_, ?_, h.sh.kept hkp (fun k hk => .inr (.inr hk)), h.pd, h.pq, h.dq⟩, hkp⟩
  · rw [hkp.block p h1 h.pq]; exact h.bp
  · rw [hkp.block dB h2 h.dq]; exact h.bd
  · rw [heap_set_same h.bq, setq _ _ hk]

set_option maxRecDepth 100000 in
set_option maxHeartbeats 1000000 in
theorem dot_in (p dB qB : Nat) (shV outV : Value) (st : St) (d : Dot) (x y : Int) (w : World) (K : Int) (h : PaneIn w p dB qB shV outV st) (hok : st.Ok K) (hK : K ≤ 4000000000000000000)
    (hd : d.Ok) (hx0 : 0 ≤ x) (hx1 : x < st.W) (hy0 : 0 ≤ y) (hy1 : y < st.H) :
    Calls Tryz.prog 71 #[.pointer (some ⟨p, 0, none⟩), d.v, .int .i64 x, .int .i64 y] w fun e w' =>
      e = .returned (.tuple #[]) ∧ PaneIn w' p dB qB shV outV (st.dot d x y) ∧ Kept (fun k => k = p ∨ k = dB ∨ k = qB) w w' := by
  have hW1 := hok.W1
  have hW0 := hok.W0
  have hH0 := hok.H0
  have hH1 := hok.H1
  unfold Dot.v
  go_enter Tryz.func71, Tryz.ntmps71
  go_wp2_with fail
  refine (shaded_in p dB qB shV outV st d x y _ K (h.frame below1) hok hK hd hx0 (by omega) hy0 (by omega)).mono ?_
  rintro e w1 ⟨he, h1, hk1⟩
  cases hsh : shaded st.sh d x y st.work with
  | mk wk r =>
    rw [hsh] at he h1
    cases r with
    | none =>
      obtain ⟨f, rfl⟩ := he
      have Hsh : Hid _ := hsh
      clear hsh
      go_wp2_with fail
      refine bodyPost_ret (v := .tuple #[]) (by simp [results, Tryz.results71, go_sem]) rfl ?_
      refine ⟨rfl, ?_, ?_⟩
      · have : st.dot d x y = { st with work := wk } := by unfold St.dot; rw [Hsh.out]
        rw [this]; exact h1.frame below1
      · exact (((Kept.refl _ _).alloc _).trans (hk1.mono (fun k hk => Or.inl hk))).alloc _
    | some f =>
      have he' : e = .returned (.tuple #[f.v, .bool true]) := he
      subst he'
      have Hsh : Hid _ := hsh
      clear hsh he
      unfold Dot.v
      obtain ⟨lp, ld, lq⟩ := h1.lt
      have lp1 : p < w1.heap.size + 1 := by omega
      have lp2 : p < w1.heap.size + 1 + 1 := by omega
      have ld1 : dB < w1.heap.size + 1 := by omega
      have ld2 : dB < w1.heap.size + 1 + 1 := by omega
      have lp3 : p < w1.heap.size + 1 + 1 + 1 := by omega
      have ld3 : dB < w1.heap.size + 1 + 1 + 1 := by omega
      have fd := frozen_of h1.bd
      have cp := cell_of h1.bp
      simp only [pcells] at cp
      obtain ⟨j0, j1, j2⟩ := idx_lt x y st.W st.H hx0 hx1 hy0 hy1
      have hl := hok.len
      have hWH := (mul_abs_le st.W st.H 24 24 (by omega) (by omega) (by omega) (by omega)).2
      obtain ⟨M, hM⟩ : ∃ M, y * st.W = M := ⟨_, rfl⟩
      rw [hM] at j0 j1 j2
      obtain ⟨idx, hidx⟩ := Int.eq_ofNat_of_zero_le j1
      have hi9 : (idx : Int) < 576 := by omega
      rw [← hl] at j2
      have m1 : IntKind.i64.wrap (y * st.W) = M := by rw [hM]; exact k64 (by omega)
      have m2 : IntKind.i64.wrap (M + x) = (idx : Int) := by rw [hidx]; exact k64 (by omega)
      have j3 : (idx : Int) < (st.dots.length : Int) := by omega
      have j4 : idx < st.dots.length := by omega
      have j5 : (0 : Int) ≤ (idx : Int) := by omega
      obtain ⟨g0, g1, g2, g3, g4⟩ := dcells_get st.dots idx j4
      have cd := cell_of h1.bd
      have cd0 := (cd (idx * 5)).trans g0
      have cd1 := (cd (idx * 5 + 1)).trans g1
      have cd2 := (cd (idx * 5 + 2)).trans g2
      have cd3 := (cd (idx * 5 + 3)).trans g3
      have cd4 := (cd (idx * 5 + 4)).trans g4
      clear g0 g1 g2 g3 g4 cd
      generalize ho : st.dots[idx] = o at *
      have Ho : Hid _ := ho
      have HM : Hid _ := hM
      have Hi : Hid _ := hidx
      have Hl : Hid _ := hl
      clear ho hM hidx hl j1 j2 hWH hi9
      have tok := hok.T
      have ook : o.Ok := hok.dots o (by rw [← Ho.out]; exact List.getElem_mem _)
      have v1 := i64_and st.T.value st.T.which tok.value0 (by have := tok.value1; omega) tok.which0 (by have := tok.which1; omega)
      have v2 := i64_and o.s st.T.which ook.s0 (by have := ook.s1; omega) tok.which0 (by have := tok.which1; omega)
      go_wp2_with fail
      go_region
      go_wp2_with fail
      refine (test_any _ _ _ _).mono ?_
      rintro e w2 ⟨rfl, rfl⟩
      have D2 := (DotW.mk0 w1 f o st.T).drew
      cases ht : testB st.T.test (iand st.T.value st.T.which) (iand o.s st.T.which)
      · have Ht : Hid _ := ht
        clear ht
        go_wp2_with fail
        refine (made_any st.T _ _ _ ook.s0 ook.s1 tok.writes0 tok.writes1 tok.value0 tok.value1).mono ?_
        rintro e w3 ⟨rfl, hb3⟩
        have D3 := D2.below hb3
        have D4 := D3.set 4 (.int .i64 (made st.T st.T.fail o.s)) { o with s := made st.T st.T.fail o.s } rfl
        obtain ⟨hc3, hf3⟩ := bcell hb3
        go_wp2_with fail
        go_region
        go_wp2_with fail
        refine bodyPost_ret (v := .tuple #[]) (by simp [results, Tryz.results71, go_sem]) rfl ?_
        go_light
        have P := ((D4.frame rfl h1).put j4 { o with s := made st.T st.T.fail o.s })
        rw [dot_eq Hsh.out HM.out Hi.out j4 Ho.out (b := false) (o' := { o with s := made st.T st.T.fail o.s }) (by simp [dotRes, Ht.out])]
        refine ⟨rfl, P.1.drew, ?_⟩
        exact (((((Kept.refl _ _).alloc _).trans (hk1.mono (fun k hk => Or.inl hk))).below D4.bel).trans (P.2.mono (fun k hk => Or.inr (Or.inl hk)))).drew
      · have Ht : Hid _ := ht
        clear ht
        go_wp2_with fail
        refine (test_any _ _ _ _).mono ?_
        rintro e w2 ⟨rfl, rfl⟩
        cases ht2 : testB st.T.depth f.d o.d
        · have Ht2 : Hid _ := ht2
          clear ht2
          go_wp2_with fail
          refine (made_any st.T _ _ _ ook.s0 ook.s1 tok.writes0 tok.writes1 tok.value0 tok.value1).mono ?_
          rintro e w3 ⟨rfl, hb3⟩
          have D3 := D2.below hb3
          have D4 := D3.set 4 (.int .i64 (made st.T st.T.dfail o.s)) { o with s := made st.T st.T.dfail o.s } rfl
          obtain ⟨hc3, hf3⟩ := bcell hb3
          go_wp2_with fail
          go_region
          go_wp2_with fail
          refine bodyPost_ret (v := .tuple #[]) (by simp [results, Tryz.results71, go_sem]) rfl ?_
          go_light
          have P := ((D4.frame rfl h1).put j4 { o with s := made st.T st.T.dfail o.s })
          rw [dot_eq Hsh.out HM.out Hi.out j4 Ho.out (b := false) (o' := { o with s := made st.T st.T.dfail o.s }) (by simp [dotRes, Ht.out, Ht2.out])]
          refine ⟨rfl, P.1.drew, ?_⟩
          exact (((((Kept.refl _ _).alloc _).trans (hk1.mono (fun k hk => Or.inl hk))).below D4.bel).trans (P.2.mono (fun k hk => Or.inr (Or.inl hk)))).drew
        · have Ht2 : Hid _ := ht2
          clear ht2
          go_wp2_with fail
          refine (made_any st.T _ _ _ ook.s0 ook.s1 tok.writes0 tok.writes1 tok.value0 tok.value1).mono ?_
          rintro e w3 ⟨rfl, hb3⟩
          have D3 := D2.below hb3
          have D4 := D3.set 4 (.int .i64 (made st.T st.T.pass o.s)) { o with s := made st.T st.T.pass o.s } rfl
          obtain ⟨hc3, hf3⟩ := bcell hb3
          have n1 := i64_and st.T.colours 1 tok.colours0 (by have := tok.colours1; omega) (by omega) (by omega)
          have n2 := i64_and st.T.colours 2 tok.colours0 (by have := tok.colours1; omega) (by omega) (by omega)
          have n3 := i64_and st.T.colours 4 tok.colours0 (by have := tok.colours1; omega) (by omega) (by omega)
          go_upto_if 114 with fail
          go_cut [] (fun wc => DotW w1.heap.size w1 wc f { o with s := made st.T st.T.pass o.s, d := if st.T.write = 1 then f.d else o.d } st.T)
          case first =>
            by_cases hw : st.T.write = 1
            · have hw' : (st.T.write == 1) = true := by simpa using hw
              have Hw : Hid _ := hw
              clear hw
              go_wp2_with fail
              go_meet
              case rel => rw [if_pos Hw.out]; exact D4.set 3 _ _ rfl
            · have hw' : (st.T.write == 1) = false := by simpa using hw
              have Hw : Hid _ := hw
              clear hw
              go_wp2_with fail
              go_meet
              case rel => rw [if_neg Hw.out]; exact D4
          case rest =>
            clear hc3 hf3 D4 D3 D2 hb3
            have cf := cell_of hcut.bf
            have ct := cell_of hcut.bt
            have co := cell_of hcut.bo
            have fo := frozen_of hcut.bo
            have D0 := hcut
            clear hcut
            go_upto_if 121 with fail
            go_cut [] (fun wc => DotW w1.heap.size w1 wc f { o with s := made st.T st.T.pass o.s, d := if st.T.write = 1 then f.d else o.d, r := if iand st.T.colours 1 = 0 then o.r else f.r } st.T)
            case first =>
              by_cases hw : iand st.T.colours 1 = 0
              · have hw' : (iand st.T.colours 1 != 0) = false := by simpa using hw
                have Hw : Hid _ := hw
                clear hw
                go_wp2_with fail
                go_meet
                case rel => rw [if_pos Hw.out]; exact D0
              · have hw' : (iand st.T.colours 1 != 0) = true := by simpa using hw
                have Hw : Hid _ := hw
                clear hw
                go_wp2_with fail
                go_meet
                case rel => rw [if_neg (c := iand st.T.colours 1 = 0) Hw.out]; exact D0.set 0 _ _ rfl
            case rest =>
              clear cf ct co fo D0
              have cf := cell_of hcut.bf
              have ct := cell_of hcut.bt
              have co := cell_of hcut.bo
              have fo := frozen_of hcut.bo
              have D1 := hcut
              clear hcut
              go_upto_if 128 with fail
              go_cut [] (fun wc => DotW w1.heap.size w1 wc f { o with s := made st.T st.T.pass o.s, d := if st.T.write = 1 then f.d else o.d, r := if iand st.T.colours 1 = 0 then o.r else f.r, g := if iand st.T.colours 2 = 0 then o.g else f.g } st.T)
              case first =>
                by_cases hw : iand st.T.colours 2 = 0
                · have hw' : (iand st.T.colours 2 != 0) = false := by simpa using hw
                  have Hw : Hid _ := hw
                  clear hw
                  go_wp2_with fail
                  go_meet
                  case rel => rw [if_pos Hw.out]; exact D1
                · have hw' : (iand st.T.colours 2 != 0) = true := by simpa using hw
                  have Hw : Hid _ := hw
                  clear hw
                  go_wp2_with fail
                  go_meet
                  case rel => rw [if_neg (c := iand st.T.colours 2 = 0) Hw.out]; exact D1.set 1 _ _ rfl
              case rest =>
                clear cf ct co fo D1
                have cf := cell_of hcut.bf
                have ct := cell_of hcut.bt
                have co := cell_of hcut.bo
                have fo := frozen_of hcut.bo
                have D2 := hcut
                clear hcut
                go_upto_if 135 with fail
                go_cut [] (fun wc => DotW w1.heap.size w1 wc f { o with s := made st.T st.T.pass o.s, d := if st.T.write = 1 then f.d else o.d, r := if iand st.T.colours 1 = 0 then o.r else f.r, g := if iand st.T.colours 2 = 0 then o.g else f.g, b := if iand st.T.colours 4 = 0 then o.b else f.b } st.T)
                case first =>
                  by_cases hw : iand st.T.colours 4 = 0
                  · have hw' : (iand st.T.colours 4 != 0) = false := by simpa using hw
                    have Hw : Hid _ := hw
                    clear hw
                    go_wp2_with fail
                    go_meet
                    case rel => rw [if_pos Hw.out]; exact D2
                  · have hw' : (iand st.T.colours 4 != 0) = true := by simpa using hw
                    have Hw : Hid _ := hw
                    clear hw
                    go_wp2_with fail
                    go_meet
                    case rel => rw [if_neg (c := iand st.T.colours 4 = 0) Hw.out]; exact D2.set 2 _ _ rfl
                case rest =>
                  clear cf ct co fo D2
                  obtain ⟨o4, hO4⟩ : ∃ o4 : Dot, o4 = { o with s := made st.T st.T.pass o.s, d := if st.T.write = 1 then f.d else o.d, r := if iand st.T.colours 1 = 0 then o.r else f.r, g := if iand st.T.colours 2 = 0 then o.g else f.g, b := if iand st.T.colours 4 = 0 then o.b else f.b } := ⟨_, rfl⟩
                  rw [← hO4] at hcut
                  have HO : Hid _ := hO4
                  clear hO4
                  have D9 := hcut
                  have hcp := bcell hcut.bel
                  obtain ⟨hcw, hfw⟩ := hcp
                  have co := cell_of hcut.bo
                  clear hcut
                  have qp9 := (D9.frame rfl h1).put j4 o4
                  go_wp2_with fail
                  go_region
                  go_wp2_with fail
                  go_loopw [12] (fun i wr => ∃ k : Nat, k ≤ 4 ∧ i = .int .i64 k ∧ PaneIn wr p dB qB shV outV { st with work := wk, dots := st.dots.set idx o4, qs := qk st.qs k } ∧ Kept (fun k => k = p ∨ k = dB ∨ k = qB) w wr)
                    (fun i _ => 4 - (intOf i).toNat)
                  case atStart => exact ⟨0, by omega, rfl, by rw [qk_zero]; exact qp9.1.drew, (((((Kept.refl _ _).alloc _).trans (hk1.mono (fun k hk => Or.inl hk))).below D9.bel).trans (qp9.2.mono (fun k hk => Or.inr (Or.inl hk)))).drew⟩
                  case round =>
                    obtain ⟨k, hk, rfl, hP, hKp⟩ := hrel
                    have hq4 := hok.qs
                    have cpr := cell_of hP.bp
                    simp only [pcells] at cpr
                    by_cases hlt : k < 4
                    · obtain ⟨e1, e2, e3⟩ := qcells_get (qk st.qs k) k (by rw [qk_len]; omega)
                      have cq := cell_of hP.bq
                      have cq1 := (cq (k * 3 + 1)).trans e2
                      have cq2 := (cq (k * 3 + 2)).trans e3
                      have fq := frozen_of hP.bq
                      rw [qk_at _ _ (by omega)] at cq1 cq2
                      have hqn := hok.qn st.qs[k] (List.getElem_mem _)
                      obtain ⟨qn0, qn1⟩ := hqn
                      obtain ⟨n, hn⟩ : ∃ n, st.qs[k].n = n := ⟨_, rfl⟩
                      rw [hn] at qn0 qn1 cq2
                      have Hn : Hid _ := hn
                      clear e1 e2 e3 cq hn
                      cases hon : st.qs[k].on
                      · rw [hon] at cq1
                        have Hon : Hid _ := hon
                        clear hon
                        go_wp2_with fail
                        go_roundw
                        case rel => exact ⟨k + 1, by omega, by go_num, by rw [qk_succ _ _ (by omega), count_off Hon.out, set_self _ _ (by rw [qk_len]; omega) (qk_at _ _ (by omega))]; exact hP, hKp⟩
                        case measure => simp [intOf]; omega
                      · rw [hon] at cq1
                        have Hon : Hid _ := hon
                        clear hon
                        go_wp2_with fail
                        go_roundw
                        case rel =>
                          have hs := hP.qset (k := k) (by show k < (qk st.qs k).length; rw [qk_len]; omega) (n + 1)
                          refine ⟨k + 1, by omega, by go_num, ?_, hKp.trans (hs.2.mono (fun k hk => Or.inr (Or.inr hk)))⟩
                          rw [qk_succ _ _ (by omega), count_on Hon.out, Hn.out]
                          have e := qk_at st.qs k (by omega)
                          have hs1 := hs.1
                          simp only [e] at hs1
                          exact hs1
                        case measure => simp [intOf]; omega
                    · have hk4 : k = 4 := by omega
                      subst hk4
                      go_wp2_with fail
                      go_end0
                      go_light
                      rw [dot_eq Hsh.out HM.out Hi.out j4 Ho.out (b := true) (o' := o4) (by simp [dotRes, Ht.out, Ht2.out, HO.out])]
                      refine ⟨rfl, ?_, hKp⟩
                      rw [if_pos rfl, ← qk_end _ 4 (by omega)]
                      exact hP

end Go.Proofs.YthcikinkicpicaaGreatDoor
