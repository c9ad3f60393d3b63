import Derived.Test.YtifloehpdkfchaaGreatDoorB02

namespace Go.Proofs.YtifloehpdkfchaaGreatDoor
open Go.RowKit

def pcells (st : St) (dB qB : Nat) (shV outV : Value) : Array Value :=
  #[.int .i64 st.W, .int .i64 st.H, .slice (some ⟨dB, 0, none⟩) st.dots.length st.dots.length,
    .int .i64 st.T.depth, .int .i64 st.T.write, .int .i64 st.T.test, .int .i64 st.T.value, .int .i64 st.T.which, .int .i64 st.T.writes, .int .i64 st.T.fail, .int .i64 st.T.dfail, .int .i64 st.T.pass, .int .i64 st.T.faces, .int .i64 st.T.colours,
    .int .i64 st.wx, .int .i64 st.wy, .int .i64 st.ww, .int .i64 st.wh, shV, .slice (some ⟨qB, 0, none⟩) 4 4, .int .i64 st.work, outV]

def dcells (l : List Dot) : Array Value := (l.flatMap fun o => [Value.int .i64 o.r, .int .i64 o.g, .int .i64 o.b, .int .i64 o.d, .int .i64 o.s]).toArray
def qcells (l : List Qry) : Array Value := (l.flatMap fun o => [Value.bool o.ever, .bool o.on, .int .i64 o.n]).toArray

structure PaneIn (w : World) (p dB qB : Nat) (shV outV : Value) (st : St) : Prop where
  bp : w.heap[p]? = some (.cells (pcells st dB qB shV outV) 38 (0, 0))
  bd : w.heap[dB]? = some (.cells (dcells st.dots) 111 (0, 0))
  bq : w.heap[qB]? = some (.cells (qcells st.qs) 117 (0, 0))
  sh : IntsAt w (fun k => k = p ∨ k = dB ∨ k = qB) shV st.sh
  pd : p ≠ dB
  pq : p ≠ qB
  dq : dB ≠ qB

theorem flat_get {α : Type} (f : α → List Value) (m : Nat) (hf : ∀ a, (f a).length = m) : ∀ (l : List α) (i j : Nat) (h : i < l.length), j < m → (l.flatMap f)[i * m + j]? = (f l[i])[j]?
  | a :: l, 0, j, _, hj => by
    simp only [List.flatMap_cons, Nat.zero_mul, Nat.zero_add, List.getElem_cons_zero]
    rw [List.getElem?_append_left (by rw [hf]; exact hj)]
  | a :: l, i + 1, j, h, hj => by
    simp only [List.flatMap_cons, List.getElem_cons_succ]
    rw [List.getElem?_append_right (by rw [hf, Nat.succ_mul]; omega), hf, ← flat_get f m hf l i j (by simpa using h) hj]
    congr 1
    rw [Nat.succ_mul]; omega

theorem flat_len {α : Type} (f : α → List Value) (m : Nat) (hf : ∀ a, (f a).length = m) : ∀ (l : List α), (l.flatMap f).length = l.length * m
  | [] => by simp
  | a :: l => by simp only [List.flatMap_cons, List.length_append, hf, List.length_cons, flat_len f m hf l, Nat.succ_mul]; omega

theorem dcells_get (l : List Dot) (i : Nat) (h : i < l.length) :
    (dcells l)[i * 5]? = some (.int .i64 l[i].r) ∧ (dcells l)[i * 5 + 1]? = some (.int .i64 l[i].g) ∧ (dcells l)[i * 5 + 2]? = some (.int .i64 l[i].b) ∧
    (dcells l)[i * 5 + 3]? = some (.int .i64 l[i].d) ∧ (dcells l)[i * 5 + 4]? = some (.int .i64 l[i].s) := by
  have h1 := fun j hj => flat_get (fun o : Dot => [Value.int .i64 o.r, .int .i64 o.g, .int .i64 o.b, .int .i64 o.d, .int .i64 o.s]) 5 (fun _ => rfl) l i j h hj
  unfold dcells
  exact ⟨by simpa using h1 0 (by omega), by simpa using h1 1 (by omega), by simpa using h1 2 (by omega), by simpa using h1 3 (by omega), by simpa using h1 4 (by omega)⟩
theorem qcells_get (l : List Qry) (i : Nat) (h : i < l.length) :
    (qcells l)[i * 3]? = some (.bool l[i].ever) ∧ (qcells l)[i * 3 + 1]? = some (.bool l[i].on) ∧ (qcells l)[i * 3 + 2]? = some (.int .i64 l[i].n) := by
  have h1 := fun j hj => flat_get (fun o : Qry => [Value.bool o.ever, .bool o.on, .int .i64 o.n]) 3 (fun _ => rfl) l i j h hj
  unfold qcells
  exact ⟨by simpa using h1 0 (by omega), by simpa using h1 1 (by omega), by simpa using h1 2 (by omega)⟩

theorem flat_set {α : Type} (f : α → List Value) (m : Nat) (hf : ∀ a, (f a).length = m) (l : List α) (i : Nat) (a : α) (h : i < l.length) (j : Nat) :
    ((l.set i a).flatMap f)[j]? = if i * m ≤ j ∧ j < i * m + m then (f a)[j - i * m]? else (l.flatMap f)[j]? := by
  induction l generalizing i j with
  | nil => simp at h
  | cons b l ih =>
    cases i with
    | zero =>
      simp only [List.set_cons_zero, List.flatMap_cons, Nat.zero_mul, Nat.zero_le, true_and, Nat.zero_add, Nat.sub_zero]
      by_cases hj : j < m
      · rw [if_pos hj, List.getElem?_append_left (by rw [hf]; exact hj)]
      · rw [if_neg hj, List.getElem?_append_right (by rw [hf]; omega), List.getElem?_append_right (by rw [hf]; omega), hf, hf]
    | succ i =>
      simp only [List.set_cons_succ, List.flatMap_cons]
      by_cases hj : j < m
      · rw [List.getElem?_append_left (by rw [hf]; exact hj), List.getElem?_append_left (by rw [hf]; exact hj), if_neg (by rw [Nat.succ_mul]; omega)]
      · rw [List.getElem?_append_right (by rw [hf]; omega), List.getElem?_append_right (by rw [hf]; omega), hf, ih i (by simpa using h) (j - m)]
        have e1 : (i + 1) * m = i * m + m := Nat.succ_mul ..
        by_cases hk : i * m ≤ j - m ∧ j - m < i * m + m
        · rw [if_pos hk, if_pos (by omega)]
          congr 1; omega
        · rw [if_neg hk, if_neg (by omega)]

theorem set5 (l : List Dot) (i : Nat) (h : i < l.length) (o : Dot) :
    (((((dcells l).setIfInBounds (i * 5) (.int .i64 o.r)).setIfInBounds (i * 5 + 1) (.int .i64 o.g)).setIfInBounds (i * 5 + 2) (.int .i64 o.b)).setIfInBounds (i * 5 + 3) (.int .i64 o.d)).setIfInBounds (i * 5 + 4) (.int .i64 o.s)
      = dcells (l.set i o) := by
  have hl := flat_len (fun o : Dot => [Value.int .i64 o.r, .int .i64 o.g, .int .i64 o.b, .int .i64 o.d, .int .i64 o.s]) 5 (fun _ => rfl) l
  have hs := flat_set (fun o : Dot => [Value.int .i64 o.r, .int .i64 o.g, .int .i64 o.b, .int .i64 o.d, .int .i64 o.s]) 5 (fun _ => rfl) l i o h
  apply Array.ext_getElem?
  intro j
  unfold dcells
  simp only [List.setIfInBounds_toArray, List.getElem?_toArray, List.getElem?_set]
  rw [hs j]
  simp only [List.length_set, hl]
  by_cases hj : i * 5 ≤ j ∧ j < i * 5 + 5
  · rw [if_pos hj]
    obtain ⟨h1, h2⟩ := hj
    have : j = i * 5 ∨ j = i * 5 + 1 ∨ j = i * 5 + 2 ∨ j = i * 5 + 3 ∨ j = i * 5 + 4 := by omega
    have hb : i * 5 + 5 ≤ l.length * 5 := by omega
    rcases this with rfl | rfl | rfl | rfl | rfl
    · rw [if_neg (by omega), if_neg (by omega), if_neg (by omega), if_neg (by omega), if_pos rfl, if_pos (by omega)]; simp
    · rw [if_neg (by omega), if_neg (by omega), if_neg (by omega), if_pos rfl, if_pos (by omega)]; simp
    · rw [if_neg (by omega), if_neg (by omega), if_pos rfl, if_pos (by omega)]; simp
    · rw [if_neg (by omega), if_pos rfl, if_pos (by omega)]; simp
    · rw [if_pos rfl, if_pos (by omega)]; simp
  · rw [if_neg hj, if_neg (by omega), if_neg (by omega), if_neg (by omega), if_neg (by omega), if_neg (by omega)]

theorem setq (l : List Qry) (i : Nat) (h : i < l.length) (n : Int) : (qcells l).setIfInBounds (i * 3 + 2) (.int .i64 n) = qcells (l.set i { l[i] with n := n }) := by
  have hl := flat_len (fun o : Qry => [Value.bool o.ever, .bool o.on, .int .i64 o.n]) 3 (fun _ => rfl) l
  have hs := flat_set (fun o : Qry => [Value.bool o.ever, .bool o.on, .int .i64 o.n]) 3 (fun _ => rfl) l i { l[i] with n := n } h
  have hg := qcells_get l i h
  unfold qcells at hg
  apply Array.ext_getElem?
  intro j
  unfold qcells
  simp only [List.setIfInBounds_toArray, List.getElem?_toArray, List.getElem?_set] at hg ⊢
  rw [hs j]
  simp only [hl]
  by_cases hj : i * 3 ≤ j ∧ j < i * 3 + 3
  · rw [if_pos hj]
    obtain ⟨h1, h2⟩ := hj
    have : j = i * 3 ∨ j = i * 3 + 1 ∨ j = i * 3 + 2 := by omega
    rcases this with rfl | rfl | rfl
    · rw [if_neg (by omega), hg.1]; simp
    · rw [if_neg (by omega), hg.2.1]; simp
    · rw [if_pos rfl, if_pos (by omega)]; simp
  · rw [if_neg hj, if_neg (by omega)]

end Go.Proofs.YtifloehpdkfchaaGreatDoor

namespace Go.Proofs.YtifloehpdkfchaaGreatDoor
open Go.RowKit

set_option maxRecDepth 100000 in
set_option maxHeartbeats 1000000 in
theorem shaded_nil (p : Nat) (A : Array Value) (d : Dot) (x y work : Int) (w : World)
    (hp : w.heap[p]? = some (.cells A 38 (0, 0))) (h18 : A[18]? = some (.slice none 0 0)) (h20 : A[20]? = some (.int .i64 work))
    (hd : d.Ok) (hx0 : 0 ≤ x) (hx1 : x ≤ 300) (hy0 : 0 ≤ y) (hy1 : y ≤ 300) (hw0 : 0 ≤ work) :
    Calls Tryz.prog 77 #[.pointer (some ⟨p, 0, none⟩), d.v, .int .i64 x, .int .i64 y] w fun e w' =>
      shPost (shaded [] d x y work).2 e ∧ w'.heap[p]? = some (.cells (A.setIfInBounds 20 (.int .i64 (shaded [] d x y work).1)) 38 (0, 0)) ∧ Kept (· = p) w w' := by
  have hp18 := cell_of hp 18
  rw [h18] at hp18
  have hps := lt_of_heap hp
  have hps1 : p < w.heap.size + 1 := by omega
  have hps2 : p < w.heap.size + 1 + 1 := by omega
  unfold Dot.v
  have Hst : Hid _ := shInv_start p A [] d x y work w hp h20 hd hx0 hx1 hy0 hy1 hw0
  go_enter Tryz.func77, Tryz.ntmps77
  go_wp2_with fail
  go_loopw [12] (fun i wr => i = .int .i64 0 ∧ ShInv p A [] d x y work w 0 [d.r, d.g, d.b, x, y, d.d, 0, 0] d.d work wr)
    (fun _ _ => 0)
  case atStart => exact ⟨rfl, Hst.out⟩
  case round =>
    obtain ⟨rfl, hinv⟩ := hrel
    have cdA := cell_of hinv.bd
    have ceA := cell_of hinv.be
    have crA := cell_of hinv.br
    have fdA := frozen_of hinv.bd
    have feA := frozen_of hinv.be
    simp only [List.map_cons, List.map_nil] at crA
    go_wp2_with (go_at_call 92; refine (within_any _ _ _ _).mono ?_; rintro e w' ⟨rfl, rfl⟩)
    refine bodyPost_ret (v := .tuple #[.agg #[.int .i64 (within d.r 0 255), .int .i64 (within d.g 0 255), .int .i64 (within d.b 0 255), .int .i64 d.d, .int .i64 d.s], .bool true]) (by simp [results, Tryz.results77, go_sem, ceA]) rfl ?_
    go_light
    have e1 := hinv.ends_some rfl
    rw [e1]
    refine ⟨rfl, ?_, ?_⟩
    · rw [heap_set_ne (by omega), heap_set_ne (by omega), heap_set_ne (by omega), heap_set_ne (by omega), heap_set_ne (by omega), heap_set_ne (by omega), heap_set_ne (by omega), heap_set_ne (by omega)]
      exact hinv.bp
    · exact (((((((hinv.kept.set (.inr (by omega)) _ _).set (.inr (by omega)) _ _).set (.inr (by omega)) _ _).set (.inr (by omega)) _ _).set (.inr (by omega)) _ _).set (.inr (by omega)) _ _).set (.inr (by omega)) _ _).set (.inr (by omega)) _ _

theorem PaneIn.lt {w : World} {p dB qB : Nat} {shV outV : Value} {st : St} (h : PaneIn w p dB qB shV outV st) : p < w.heap.size ∧ dB < w.heap.size ∧ qB < w.heap.size :=
  ⟨lt_of_heap h.bp, lt_of_heap h.bd, lt_of_heap h.bq⟩

theorem IntsAt.kept {w w' : World} {no S : Nat → Prop} {v : Value} {l : List Int} (h : IntsAt w no v l) (hk : Kept S w w') (hS : ∀ k, S k → no k) : IntsAt w' no v l := by
  rcases h with h | ⟨s, so, cap, hv, hc, hs, hn, hcell⟩
  · exact .inl h
  · refine .inr ⟨s, so, cap, hv, hc, Nat.lt_of_lt_of_le hs hk.size, hn, fun j hj => ?_⟩
    rw [World.cell?_of_block (w := w) (a := ⟨s, so + j, none⟩) (hk.block s hs (fun x => hn (hS s x)))]
    exact hcell j hj

theorem PaneIn.work {w w' : World} {p dB qB : Nat} {shV outV : Value} {st : St} (h : PaneIn w p dB qB shV outV st) (k : Int)
    (hp : w'.heap[p]? = some (.cells ((pcells st dB qB shV outV).setIfInBounds 20 (.int .i64 k)) 38 (0, 0))) (hk : Kept (· = p) w w') :
    PaneIn w' p dB qB shV outV { st with work := k } := by
  obtain ⟨h1, h2, h3⟩ := h.lt
  refine ⟨hp, ?_, ?_, h.sh.kept hk (fun k hk => .inl hk), h.pd, h.pq, h.dq⟩
  · rw [hk.block dB h2 (fun x => h.pd x.symm)]; exact h.bd
  · rw [hk.block qB h3 (fun x => h.pq x.symm)]; exact h.bq

theorem shaded_in (p dB qB : Nat) (shV outV : Value) (st : St) (d : Dot) (x y : Int) (w : World) (K : Int) (h : PaneIn w p dB qB shV outV st) (hok : st.Ok K) (hK : K ≤ 4000000000000000000)
    (hd : d.Ok) (hx0 : 0 ≤ x) (hx1 : x ≤ 300) (hy0 : 0 ≤ y) (hy1 : y ≤ 300) :
    Calls Tryz.prog 77 #[.pointer (some ⟨p, 0, none⟩), d.v, .int .i64 x, .int .i64 y] w fun e w' =>
      shPost (shaded st.sh d x y st.work).2 e ∧ PaneIn w' p dB qB shV outV { st with work := (shaded st.sh d x y st.work).1 } ∧ Kept (· = p) w w' := by
  have w0 := hok.work0
  have w1 := hok.work1
  rcases h.sh with ⟨hv, hl⟩ | ⟨s, so, cap, hv, hc, hs, hn, hcell⟩
  · rw [hl]
    refine (shaded_nil p _ d x y st.work w h.bp (by rw [hv]; rfl) rfl hd hx0 hx1 hy0 hy1 w0).mono ?_
    rintro e w' ⟨h1, h2, h3⟩
    refine ⟨h1, ?_, h3⟩
    have := h.work _ h2 h3
    simpa [hl] using this
  · refine (shaded_some p s so cap _ st.sh d x y st.work w h.bp (by rw [hv]; rfl) rfl hc hs (fun e => hn (.inl e)) hcell hok.sh hok.shl hd hx0 hx1 hy0 hy1 w0 (by omega)).mono ?_
    rintro e w' ⟨h1, h2, h3⟩
    exact ⟨h1, h.work _ h2 h3, h3⟩

end Go.Proofs.YtifloehpdkfchaaGreatDoor
