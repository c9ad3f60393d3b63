import Derived.Test.YthcikinkicpicaaGreatDoorB01
import Derived.BigQuiet
import Derived.Deep.QuietTactic
import Derived.Deep.RegionHeld

namespace Go.Proofs.YthcikinkicpicaaGreatDoor
open Go.RowKit

/-- A list of ints lies behind a slice's value (or it is nil, and empty). -/
def IntsAt (w : World) (no : Nat → Prop) (v : Value) (l : List Int) : Prop :=
  (v = .slice none 0 0 ∧ l = []) ∨
  ∃ s so cap, v = .slice (some ⟨s, so, none⟩) l.length cap ∧ l.length ≤ cap ∧ s < w.heap.size ∧ ¬ no s ∧ ∀ j, j < l.length → w.cell? ⟨s, so + j, none⟩ = some (.int .i64 (l.getD j 0))

theorem sh_cases {l : List Int} (h : shOk l) : l = [] ∨ ∃ a b c e rest, l = a :: b :: c :: e :: rest ∧
    (0 ≤ a ∧ a ≤ 8 ∧ 0 ≤ b ∧ b ≤ 255 ∧ (a < 7 → b ≤ 7) ∧ 0 ≤ c ∧ c ≤ 255 ∧ 0 ≤ e ∧ e ≤ 255) ∧ shOk rest := by
  match l, h with
  | [], _ => exact .inl rfl
  | a :: b :: c :: e :: rest, h => exact .inr ⟨a, b, c, e, rest, rfl, h.1, h.2⟩

theorem code_at {l : List Int} {n : Nat} {a b c e : Int} {rest : List Int} (h : l.drop n = a :: b :: c :: e :: rest) :
    n + 4 ≤ l.length ∧ l.getD n 0 = a ∧ l.getD (n + 1) 0 = b ∧ l.getD (n + 2) 0 = c ∧ l.getD (n + 3) 0 = e ∧ l.drop (n + 4) = rest := by
  have h0 : ∀ j, (l.drop n)[j]? = l[n + j]? := fun j => by rw [List.getElem?_drop]
  have hl : (l.drop n).length = l.length - n := List.length_drop ..
  rw [h] at h0 hl
  simp at hl
  refine ⟨by omega, ?_, ?_, ?_, ?_, ?_⟩
  · have := h0 0; simp at this; simp [List.getD, ← this]
  · have := h0 1; simp at this; simp [List.getD, ← this]
  · have := h0 2; simp at this; simp [List.getD, ← this]
  · have := h0 3; simp at this; simp [List.getD, ← this]
  · have : l.drop (n + 4) = (l.drop n).drop 4 := by rw [List.drop_drop]
    rw [this, h]; rfl

theorem shOk_drop {l : List Int} (h : shOk l) (k : Nat) : shOk (l.drop (4 * k)) := by
  induction k with
  | zero => simpa using h
  | succ k ih =>
    rcases sh_cases ih with h1 | ⟨a, b, c, e, rest, h1, _, h3⟩
    · have : l.drop (4 * (k + 1)) = (l.drop (4 * k)).drop 4 := by rw [List.drop_drop]; congr 1
      rw [this, h1]; trivial
    · rw [show 4 * (k + 1) = 4 * k + 4 from by omega, (code_at h1).2.2.2.2.2]; exact h3

def shPost (r : Option Dot) (e : Ending) : Prop :=
  match r with
  | none => ∃ f : Dot, e = .returned (.tuple #[f.v, .bool false])
  | some f => e = .returned (.tuple #[f.v, .bool true])

structure ShInv (p : Nat) (A : Array Value) (sh : List Int) (d : Dot) (x y work : Int) (w : World) (k : Nat) (r : List Int) (z wk : Int) (wr : World) : Prop where
  kl : 4 * k ≤ sh.length
  rl : r.length = 8
  rb : ∀ v ∈ r, -2147483648 ≤ v ∧ v ≤ 2147483647
  z0 : 0 ≤ z
  z1 : z ≤ 65535
  wk0 : 0 ≤ wk
  wk1 : wk ≤ work + k
  run : shRun (sh.drop (4 * k)) r z wk = shRun sh [d.r, d.g, d.b, x, y, d.d, 0, 0] d.d work
  bp : wr.heap[p]? = some (.cells (A.setIfInBounds 20 (.int .i64 wk)) 38 (0, 0))
  bd : wr.heap[w.heap.size]? = some (.cells #[.int .i64 d.r, .int .i64 d.g, .int .i64 d.b, .int .i64 z, .int .i64 d.s] 135 (0, 0))
  be : wr.heap[w.heap.size + 1]? = some (.cells #[.int .i64 0, .int .i64 0, .int .i64 0, .int .i64 0, .int .i64 0] 135 (0, 0))
  br : wr.heap[w.heap.size + 1 + 1]? = some (.cells (r.map (Value.int .i64)).toArray 3 (0, 0))
  sz : wr.heap.size = w.heap.size + 3
  kept : Kept (· = p) w wr

theorem ShInv.drew {p : Nat} {A : Array Value} {sh : List Int} {d : Dot} {x y work : Int} {w : World} {k : Nat} {r : List Int} {z wk : Int} {wr : World}
    (h : ShInv p A sh d x y work w k r z wk wr) : ShInv p A sh d x y work w k r z wk wr.drew :=
  ⟨h.kl, h.rl, h.rb, h.z0, h.z1, h.wk0, h.wk1, h.run, h.bp, h.bd, h.be, h.br, h.sz, h.kept.drew⟩
theorem ShInv.drewN {p : Nat} {A : Array Value} {sh : List Int} {d : Dot} {x y work : Int} {w : World} {k : Nat} {r : List Int} {z wk : Int} {wr : World}
    (h : ShInv p A sh d x y work w k r z wk wr) (n : Nat) : ShInv p A sh d x y work w k r z wk (wr.drewN n) :=
  ⟨h.kl, h.rl, h.rb, h.z0, h.z1, h.wk0, h.wk1, h.run, h.bp, h.bd, h.be, h.br, h.sz, h.kept.drewN n⟩

theorem set_map_int (r : List Int) (j : Nat) (n : Int) : (r.map (Value.int .i64)).toArray.setIfInBounds j (.int .i64 n) = ((r.set j n).map (Value.int .i64)).toArray := by
  simp [List.map_set]

theorem size_setCell' (w : World) (a : Addr) (v : Value) : (w.setCell a v).heap.size = w.heap.size := by simp [World.setCell]

theorem set_set (A : Array Value) (i : Nat) (u v : Value) : (A.setIfInBounds i u).setIfInBounds i v = A.setIfInBounds i v := by
  apply Array.ext
  · simp
  · intro j h1 h2
    simp

section
variable {p : Nat} {A : Array Value} {sh : List Int} {d : Dot} {x y work : Int} {w : World} {k : Nat} {r : List Int} {z wk : Int} {wr : World} {a b c e : Int} {rest : List Int}

/-- The step is counted, and nothing else: it did not give up. -/
theorem ShInv.step_skip (hp : p < w.heap.size) (h : ShInv p A sh d x y work w k r z wk wr) (hdrop : sh.drop (4 * k) = a :: b :: c :: e :: rest) (ha : a = 7) (hne : ¬ reg r c < reg r e) :
    ShInv p A sh d x y work w (k + 1) r z (wk + 1) (wr.setCell ⟨p, 20, none⟩ (.int .i64 (wk + 1))) := by
  obtain ⟨q0, _, _, _, _, q5⟩ := code_at hdrop
  refine ⟨by omega, h.rl, h.rb, h.z0, h.z1, by have := h.wk0; omega, by have := h.wk1; push_cast; omega, ?_, ?_, ?_, ?_, ?_, ?_, ?_⟩
  · have := h.run
    rw [hdrop] at this
    rw [show 4 * (k + 1) = 4 * k + 4 from by omega, q5, ← this]
    subst ha
    simp [shRun, hne]
  · rw [heap_set_same h.bp, set_set]
  · rw [heap_set_ne (by omega)]; exact h.bd
  · rw [heap_set_ne (by omega)]; exact h.be
  · rw [heap_set_ne (by omega)]; exact h.br
  · rw [size_setCell']; exact h.sz
  · exact h.kept.set (.inl rfl) _ _

theorem ShInv.step_reg (hp : p < w.heap.size) (h : ShInv p A sh d x y work w k r z wk wr) (hdrop : sh.drop (4 * k) = a :: b :: c :: e :: rest) (ha0 : 0 ≤ a) (ha : a < 7) (n : Int)
    (hn : shVal a c e (reg r c) (reg r e) = n) :
    ShInv p A sh d x y work w (k + 1) (r.set b.toNat (within n (-2147483648) 2147483647)) z (wk + 1)
      ((wr.setCell ⟨p, 20, none⟩ (.int .i64 (wk + 1))).setCell ⟨w.heap.size + 1 + 1, b.toNat, none⟩ (.int .i64 (within n (-2147483648) 2147483647))) := by
  obtain ⟨q0, _, _, _, _, q5⟩ := code_at hdrop
  have hwi := within_bd n (-2147483648) 2147483647 (by omega)
  refine ⟨by omega, by simpa using h.rl, ?_, h.z0, h.z1, by have := h.wk0; omega, by have := h.wk1; push_cast; omega, ?_, ?_, ?_, ?_, ?_, ?_, ?_⟩
  · intro v hv
    rcases List.mem_or_eq_of_mem_set hv with h1 | h1
    · exact h.rb v h1
    · rw [h1]; exact hwi
  · have := h.run
    rw [hdrop] at this
    rw [show 4 * (k + 1) = 4 * k + 4 from by omega, q5, ← this, shRun, if_neg (by omega), if_pos ha, if_neg (by omega), hn]
  · rw [heap_set_ne (by omega), heap_set_same h.bp, set_set]
  · rw [heap_set_ne (by omega), heap_set_ne (by omega)]; exact h.bd
  · rw [heap_set_ne (by omega), heap_set_ne (by omega)]; exact h.be
  · rw [heap_set_same (by rw [heap_set_ne (by omega)]; exact h.br), set_map_int]
  · rw [size_setCell', size_setCell']; exact h.sz
  · exact (h.kept.set (.inl rfl) _ _).set (.inr (by omega)) _ _

theorem ShInv.step_depth (hp : p < w.heap.size) (h : ShInv p A sh d x y work w k r z wk wr) (hdrop : sh.drop (4 * k) = a :: b :: c :: e :: rest) (ha : a = 8) (n : Int) (hn : reg r c = n) :
    ShInv p A sh d x y work w (k + 1) r (within n 0 65535) (wk + 1)
      ((wr.setCell ⟨p, 20, none⟩ (.int .i64 (wk + 1))).setCell ⟨w.heap.size, 3, none⟩ (.int .i64 (within n 0 65535))) := by
  obtain ⟨q0, _, _, _, _, q5⟩ := code_at hdrop
  have hwi := within_bd n 0 65535 (by omega)
  refine ⟨by omega, h.rl, h.rb, hwi.1, hwi.2, by have := h.wk0; omega, by have := h.wk1; push_cast; omega, ?_, ?_, ?_, ?_, ?_, ?_, ?_⟩
  · have := h.run
    rw [hdrop] at this
    rw [show 4 * (k + 1) = 4 * k + 4 from by omega, q5, ← this, shRun, if_neg (by omega), if_neg (by omega), if_pos ha, hn]
  · rw [heap_set_ne (by omega), heap_set_same h.bp, set_set]
  · rw [heap_set_same (by rw [heap_set_ne (by omega)]; exact h.bd)]; rfl
  · rw [heap_set_ne (by omega), heap_set_ne (by omega)]; exact h.be
  · rw [heap_set_ne (by omega), heap_set_ne (by omega)]; exact h.br
  · rw [size_setCell', size_setCell']; exact h.sz
  · exact (h.kept.set (.inl rfl) _ _).set (.inr (by omega)) _ _

theorem ShInv.ends_none (h : ShInv p A sh d x y work w k r z wk wr) (hdrop : sh.drop (4 * k) = a :: b :: c :: e :: rest) (ha : a = 7) (hlt : reg r c < reg r e) : shaded sh d x y work = (wk + 1, none) := by
  have h1 := h.run
  rw [hdrop, shRun, if_pos ⟨ha, hlt⟩] at h1
  unfold shaded
  rw [← h1]

theorem ShInv.ends_some (h : ShInv p A sh d x y work w k r z wk wr) (hk : sh.length = 4 * k) :
    shaded sh d x y work = (wk, some { r := within (r.getD 0 0) 0 255, g := within (r.getD 1 0) 0 255, b := within (r.getD 2 0) 0 255, d := z, s := d.s }) := by
  have h1 := h.run
  rw [List.drop_eq_nil_of_le (by omega), shRun] at h1
  · unfold shaded
    rw [← h1]
  · intros; simp_all

theorem ShInv.code (h : ShInv p A sh d x y work w k r z wk wr) {s so : Nat} (hs : s < w.heap.size) (hsp : s ≠ p) (hcode : ∀ j, j < sh.length → w.cell? ⟨s, so + j, none⟩ = some (.int .i64 (sh.getD j 0))) :
    ∀ j, j < sh.length → wr.cell? ⟨s, so + j, none⟩ = some (.int .i64 (sh.getD j 0)) := fun j hj => by
  rw [World.cell?_of_block (w := w) (a := ⟨s, so + j, none⟩) (h.kept.block s hs hsp)]; exact hcode j hj

theorem ShInv.workCell (h : ShInv p A sh d x y work w k r z wk wr) (h20 : A[20]? = some (.int .i64 work)) : wr.cell? ⟨p, 20, none⟩ = some (.int .i64 wk) := by
  rw [cell_of h.bp 20]
  have : 20 < A.size := by
    rcases Nat.lt_or_ge 20 A.size with h | h
    · exact h
    · rw [Array.getElem?_eq_none h] at h20; cases h20
  simp [this]

theorem ShInv.regCell (h : ShInv p A sh d x y work w k r z wk wr) (c : Int) (_h0 : 0 ≤ c) : wr.cell? ⟨w.heap.size + 1 + 1, (c % 8).toNat, none⟩ = some (.int .i64 (reg r c)) := by
  have := h.rl
  rw [cell_of h.br]; unfold reg; simp [List.getD]; rw [List.getElem?_eq_getElem (by omega)]; simp
theorem ShInv.regAt (h : ShInv p A sh d x y work w k r z wk wr) (b : Int) (h0 : 0 ≤ b) (h1 : b ≤ 7) : wr.cell? ⟨w.heap.size + 1 + 1, b.toNat, none⟩ = some (.int .i64 (r.getD b.toNat 0)) := by
  have := h.rl
  rw [cell_of h.br]; simp [List.getD]; rw [List.getElem?_eq_getElem (by omega)]; simp
theorem ShInv.regBd (h : ShInv p A sh d x y work w k r z wk wr) (c : Int) (_h0 : 0 ≤ c) : -2147483648 ≤ reg r c ∧ reg r c ≤ 2147483647 := by
  have := h.rl
  unfold reg; simp [List.getD]; rw [List.getElem?_eq_getElem (by omega)]; exact h.rb _ (List.getElem_mem _)
end

theorem shInv_start (p : Nat) (A : Array Value) (sh : List Int) (d : Dot) (x y work : Int) (w : World) (hp : w.heap[p]? = some (.cells A 38 (0, 0))) (h20 : A[20]? = some (.int .i64 work))
    (hd : d.Ok) (hx0 : 0 ≤ x) (hx1 : x ≤ 300) (hy0 : 0 ≤ y) (hy1 : y ≤ 300) (hw0 : 0 ≤ work) :
    ShInv p A sh d x y work w 0 [d.r, d.g, d.b, x, y, d.d, 0, 0] d.d work
      (((w.alloc (.cells #[.int .i64 d.r, .int .i64 d.g, .int .i64 d.b, .int .i64 d.d, .int .i64 d.s] 135)).alloc (.cells #[.int .i64 0, .int .i64 0, .int .i64 0, .int .i64 0, .int .i64 0] 135)).alloc
        (.cells #[.int .i64 d.r, .int .i64 d.g, .int .i64 d.b, .int .i64 x, .int .i64 y, .int .i64 d.d, .int .i64 0, .int .i64 0] 3)) := by
  have hps := lt_of_heap hp
  obtain ⟨r0, r1, g0, g1, bb0, bb1, d0, d1, s0, s1⟩ := hd
  have hA : A.setIfInBounds 20 (.int .i64 work) = A := by
    apply Array.ext
    · simp
    · intro j h1 h2
      rw [Array.getElem_setIfInBounds]
      split
      · next h => subst h; rw [Array.getElem?_eq_getElem h2] at h20; exact (Option.some.inj h20).symm
      · rfl
  refine ⟨by simp, rfl, ?_, d0, d1, hw0, by omega, by simp, ?_, ?_, ?_, ?_, by simp, ?_⟩
  · intro v hv
    simp at hv
    omega
  · rw [heap_alloc_old (by simp; omega), heap_alloc_old (by simp; omega), heap_alloc_old hps, hA]; exact hp
  · rw [heap_alloc_old (by simp; omega), heap_alloc_old (by simp), heap_alloc_new]
  · rw [heap_alloc_old (by simp)]; exact heap_alloc_at (by simp) _
  · exact heap_alloc_at (by simp) _
  · exact (((Kept.refl _ _).alloc _).alloc _).alloc _

set_option maxRecDepth 100000 in
set_option maxHeartbeats 4000000 in
theorem shaded_some (p s so cap : Nat) (A : Array Value) (sh : List Int) (d : Dot) (x y work : Int) (w : World)
    (hp : w.heap[p]? = some (.cells A 38 (0, 0))) (h18 : A[18]? = some (.slice (some ⟨s, so, none⟩) sh.length cap)) (h20 : A[20]? = some (.int .i64 work))
    (_hcap : sh.length ≤ cap) (hs : s < w.heap.size) (hsp : s ≠ p) (hcode : ∀ j, j < sh.length → w.cell? ⟨s, so + j, none⟩ = some (.int .i64 (sh.getD j 0)))
    (hok : shOk sh) (hlen : sh.length ≤ 64) (hd : d.Ok) (hx0 : 0 ≤ x) (hx1 : x ≤ 300) (hy0 : 0 ≤ y) (hy1 : y ≤ 300) (hw0 : 0 ≤ work) (hw1 : work ≤ 4000000000000000000) :
    Calls Tryz.prog 107 #[.pointer (some ⟨p, 0, none⟩), d.v, .int .i64 x, .int .i64 y] w fun e w' =>
      shPost (shaded sh d x y work).2 e ∧ w'.heap[p]? = some (.cells (A.setIfInBounds 20 (.int .i64 (shaded sh d x y work).1)) 38 (0, 0)) ∧ Kept (· = p) w w' := by
  have hp18 := cell_of hp 18
  rw [h18] at hp18
  have hps := lt_of_heap hp
  have hps1 : p < w.heap.size + 1 := by omega
  have hps2 : p < w.heap.size + 1 + 1 := by omega
  unfold Dot.v
  have Hst : Hid _ := shInv_start p A sh d x y work w hp h20 hd hx0 hx1 hy0 hy1 hw0
  go_enter Tryz.func107, Tryz.ntmps107
  go_wp2_with fail
  go_loopw [12] (fun i wr => ∃ (k : Nat) (r : List Int) (z wk : Int), i = .int .i64 (4 * k) ∧ ShInv p A sh d x y work w k r z wk wr)
    (fun i _ => sh.length - (intOf i).toNat)
  case atStart => exact ⟨0, _, _, _, rfl, Hst.out⟩
  case round =>
    obtain ⟨k, r, z, wk, rfl, hinv⟩ := hrel
    have hcode' := hinv.code hs hsp hcode
    have hcw := hinv.workCell h20
    have hfw := frozen_of hinv.bp 20
    have hk := hinv.kl
    have hwk0 := hinv.wk0
    have hwk1 := hinv.wk1
    have hw' : wk + 1 ≤ 4000000000000000100 := by omega
    rcases sh_cases (shOk_drop hok k) with hnil | ⟨a, b, c, e, rest, hdrop, ⟨ha0, ha1, hb0, hb1, hb2, hc0, hc1, he0, he1⟩, hrest⟩
    · have cdA := cell_of hinv.bd
      have ceA := cell_of hinv.be
      have crA := cell_of hinv.br
      have fdA := frozen_of hinv.bd
      have feA := frozen_of hinv.be
      have hk' : sh.length = 4 * k := by
        have := congrArg List.length hnil
        simp at this
        omega
      have hr := hinv.rl
      match r, hr with
      | [r0, r1, r2, r3, r4, r5, r6, r7], _ =>
        simp only [List.map_cons, List.map_nil] at crA
        have hlt : ¬ 4 * (k : Int) + 3 < (sh.length : Int) := by omega
        have Hk : Hid _ := hk'
        clear hk'
        go_wp2_with (go_at_call 133; refine (within_any _ _ _ _).mono ?_; rintro e w' ⟨rfl, rfl⟩)
        refine bodyPost_ret (v := .tuple #[.agg #[.int .i64 (within r0 0 255), .int .i64 (within r1 0 255), .int .i64 (within r2 0 255), .int .i64 z, .int .i64 d.s], .bool true]) (by simp [results, Tryz.results107, go_sem, ceA]) rfl ?_
        go_light
        have e1 := hinv.ends_some Hk.out
        rw [e1]
        refine ⟨rfl, ?_, ?_⟩
        · rw [heap_set_ne (by omega), heap_set_ne (by omega), heap_set_ne (by omega), heap_set_ne (by omega), heap_set_ne (by omega), heap_set_ne (by omega), heap_set_ne (by omega), heap_set_ne (by omega)]
          exact hinv.bp
        · exact (((((((hinv.kept.set (.inr (by omega)) _ _).set (.inr (by omega)) _ _).set (.inr (by omega)) _ _).set (.inr (by omega)) _ _).set (.inr (by omega)) _ _).set (.inr (by omega)) _ _).set (.inr (by omega)) _ _).set (.inr (by omega)) _ _
    · obtain ⟨q0, q1, q2, q3, q4, q5⟩ := code_at hdrop
      have d0 := hcode' (4 * k) (by omega)
      have d1 := hcode' (4 * k + 1) (by omega)
      have d2 := hcode' (4 * k + 2) (by omega)
      have d3 := hcode' (4 * k + 3) (by omega)
      rw [q1] at d0; rw [q2] at d1; rw [q3] at d2; rw [q4] at d3
      have v7 := i64_and7 c hc0 (by omega)
      have v8 := i64_and7 e he0 (by omega)
      have c1 := hinv.regCell c hc0
      have c2 := hinv.regCell e he0
      have c3 := hinv.regAt b hb0
      have cd := cell_of hinv.bd 3
      simp at cd
      have fd := frozen_of hinv.bd 3
      have fr := frozen_of hinv.br
      obtain ⟨b11, b12⟩ := hinv.regBd c hc0
      obtain ⟨b21, b22⟩ := hinv.regBd e he0
      generalize hone : reg r c = one at *
      generalize htwo : reg r e = two at *
      have H1 : Hid _ := hone
      have H2 : Hid _ := htwo
      have HD : Hid _ := hdrop
      have hsB : w.heap.size + 1 + 1 ≠ s := by omega
      have hsp' : p ≠ s := fun h => hsp h.symm
      have hpB : p ≠ w.heap.size + 1 + 1 := by omega
      clear hdrop q1 q2 q3 q4 q5 hcode' hcode hp h18 h20 hone htwo hp18 hd
      have ha : a = 0 ∨ a = 1 ∨ a = 2 ∨ a = 3 ∨ a = 4 ∨ a = 5 ∨ a = 6 ∨ a = 7 ∨ a = 8 := by omega
      rcases ha with rfl | rfl | rfl | rfl | rfl | rfl | rfl | rfl | rfl
      · skip
        have hb7 : b ≤ 7 := hb2 (by omega)
        have c3' := c3 hb7
        have hb8 : b < 8 := by omega
        clear c3
        go_wp2_with fail
        have i1 : 4 * (k : Int) + 1 < (sh.length : Int) := by omega
        have i2 : 0 ≤ 4 * (k : Int) + 1 := by omega
        have i3 : (4 * (k : Int) + 1).toNat = 4 * k + 1 := by omega
        have i4 : IntKind.i64.wrap (4 * (k : Int) + 1) = 4 * (k : Int) + 1 := k64 (by omega)
        go_region_held (fun w' => w'.cell? ⟨s, so + (4 * k + 1), none⟩ = some (.int .i64 b)) (go_keep) ((go_at_call 133; refine (within_any _ _ _ _).mono ?_; rintro e w' ⟨rfl, rfl⟩))
        go_wp2_with fail
        go_roundw
        case rel => exact ⟨k + 1, _, _, _, by go_num, (hinv.step_reg hps HD.out (by omega) (by omega) (one + two) (by simp [shVal, H1.out, H2.out])).drew⟩
        case measure => simp [intOf]; omega
      · skip
        have hb7 : b ≤ 7 := hb2 (by omega)
        have c3' := c3 hb7
        have hb8 : b < 8 := by omega
        clear c3
        go_wp2_with fail
        have i1 : 4 * (k : Int) + 1 < (sh.length : Int) := by omega
        have i2 : 0 ≤ 4 * (k : Int) + 1 := by omega
        have i3 : (4 * (k : Int) + 1).toNat = 4 * k + 1 := by omega
        have i4 : IntKind.i64.wrap (4 * (k : Int) + 1) = 4 * (k : Int) + 1 := k64 (by omega)
        go_region_held (fun w' => w'.cell? ⟨s, so + (4 * k + 1), none⟩ = some (.int .i64 b)) (go_keep) ((go_at_call 133; refine (within_any _ _ _ _).mono ?_; rintro e w' ⟨rfl, rfl⟩))
        go_wp2_with fail
        go_roundw
        case rel => exact ⟨k + 1, _, _, _, by go_num, (hinv.step_reg hps HD.out (by omega) (by omega) (one - two) (by simp [shVal, H1.out, H2.out])).drew⟩
        case measure => simp [intOf]; omega
      · skip
        have hb7 : b ≤ 7 := hb2 (by omega)
        have c3' := c3 hb7
        have hb8 : b < 8 := by omega
        clear c3
        have hm := mul_abs_le one two 2147483648 2147483648 (by omega) (by omega) (by omega) (by omega)
        obtain ⟨hm1, hm2⟩ := hm
        go_wp2_with fail
        refine (floor_any _ _ _ (by omega) (by omega) (by omega)).mono ?_
        rintro e w' ⟨rfl, rfl⟩
        go_wp2_with fail
        have i1 : 4 * (k : Int) + 1 < (sh.length : Int) := by omega
        have i2 : 0 ≤ 4 * (k : Int) + 1 := by omega
        have i3 : (4 * (k : Int) + 1).toNat = 4 * k + 1 := by omega
        have i4 : IntKind.i64.wrap (4 * (k : Int) + 1) = 4 * (k : Int) + 1 := k64 (by omega)
        go_region_held (fun w' => w'.cell? ⟨s, so + (4 * k + 1), none⟩ = some (.int .i64 b)) (go_keep) ((go_at_call 133; refine (within_any _ _ _ _).mono ?_; rintro e w' ⟨rfl, rfl⟩))
        go_wp2_with fail
        go_roundw
        case rel => exact ⟨k + 1, _, _, _, by go_num, (hinv.step_reg hps HD.out (by omega) (by omega) (one * two / 256) (by simp [shVal, H1.out, H2.out])).drew⟩
        case measure => simp [intOf]; omega
      · skip
        have hb7 : b ≤ 7 := hb2 (by omega)
        have c3' := c3 hb7
        have hb8 : b < 8 := by omega
        clear c3
        by_cases hlt : one < two
        · go_wp2_with fail
          have i1 : 4 * (k : Int) + 1 < (sh.length : Int) := by omega
          have i2 : 0 ≤ 4 * (k : Int) + 1 := by omega
          have i3 : (4 * (k : Int) + 1).toNat = 4 * k + 1 := by omega
          have i4 : IntKind.i64.wrap (4 * (k : Int) + 1) = 4 * (k : Int) + 1 := k64 (by omega)
          go_region_held (fun w' => w'.cell? ⟨s, so + (4 * k + 1), none⟩ = some (.int .i64 b)) (go_keep) ((go_at_call 133; refine (within_any _ _ _ _).mono ?_; rintro e w' ⟨rfl, rfl⟩))
          go_wp2_with fail
          go_roundw
          case rel => exact ⟨k + 1, _, _, _, by go_num, (hinv.step_reg hps HD.out (by omega) (by omega) (one) (by simp [shVal, H1.out, H2.out]; omega)).drew⟩
          case measure => simp [intOf]; omega
        · go_wp2_with fail
          have i1 : 4 * (k : Int) + 1 < (sh.length : Int) := by omega
          have i2 : 0 ≤ 4 * (k : Int) + 1 := by omega
          have i3 : (4 * (k : Int) + 1).toNat = 4 * k + 1 := by omega
          have i4 : IntKind.i64.wrap (4 * (k : Int) + 1) = 4 * (k : Int) + 1 := k64 (by omega)
          go_region_held (fun w' => w'.cell? ⟨s, so + (4 * k + 1), none⟩ = some (.int .i64 b)) (go_keep) ((go_at_call 133; refine (within_any _ _ _ _).mono ?_; rintro e w' ⟨rfl, rfl⟩))
          go_wp2_with fail
          go_roundw
          case rel => exact ⟨k + 1, _, _, _, by go_num, (hinv.step_reg hps HD.out (by omega) (by omega) (two) (by simp [shVal, H1.out, H2.out]; omega)).drew⟩
          case measure => simp [intOf]; omega
      · skip
        have hb7 : b ≤ 7 := hb2 (by omega)
        have c3' := c3 hb7
        have hb8 : b < 8 := by omega
        clear c3
        by_cases hlt : two < one
        · go_wp2_with fail
          have i1 : 4 * (k : Int) + 1 < (sh.length : Int) := by omega
          have i2 : 0 ≤ 4 * (k : Int) + 1 := by omega
          have i3 : (4 * (k : Int) + 1).toNat = 4 * k + 1 := by omega
          have i4 : IntKind.i64.wrap (4 * (k : Int) + 1) = 4 * (k : Int) + 1 := k64 (by omega)
          go_region_held (fun w' => w'.cell? ⟨s, so + (4 * k + 1), none⟩ = some (.int .i64 b)) (go_keep) ((go_at_call 133; refine (within_any _ _ _ _).mono ?_; rintro e w' ⟨rfl, rfl⟩))
          go_wp2_with fail
          go_roundw
          case rel => exact ⟨k + 1, _, _, _, by go_num, (hinv.step_reg hps HD.out (by omega) (by omega) (one) (by simp [shVal, H1.out, H2.out]; omega)).drew⟩
          case measure => simp [intOf]; omega
        · go_wp2_with fail
          have i1 : 4 * (k : Int) + 1 < (sh.length : Int) := by omega
          have i2 : 0 ≤ 4 * (k : Int) + 1 := by omega
          have i3 : (4 * (k : Int) + 1).toNat = 4 * k + 1 := by omega
          have i4 : IntKind.i64.wrap (4 * (k : Int) + 1) = 4 * (k : Int) + 1 := k64 (by omega)
          go_region_held (fun w' => w'.cell? ⟨s, so + (4 * k + 1), none⟩ = some (.int .i64 b)) (go_keep) ((go_at_call 133; refine (within_any _ _ _ _).mono ?_; rintro e w' ⟨rfl, rfl⟩))
          go_wp2_with fail
          go_roundw
          case rel => exact ⟨k + 1, _, _, _, by go_num, (hinv.step_reg hps HD.out (by omega) (by omega) (two) (by simp [shVal, H1.out, H2.out]; omega)).drew⟩
          case measure => simp [intOf]; omega
      · skip
        have hb7 : b ≤ 7 := hb2 (by omega)
        have c3' := c3 hb7
        have hb8 : b < 8 := by omega
        clear c3
        by_cases hlt : one < two
        · go_wp2_with fail
          have i1 : 4 * (k : Int) + 1 < (sh.length : Int) := by omega
          have i2 : 0 ≤ 4 * (k : Int) + 1 := by omega
          have i3 : (4 * (k : Int) + 1).toNat = 4 * k + 1 := by omega
          have i4 : IntKind.i64.wrap (4 * (k : Int) + 1) = 4 * (k : Int) + 1 := k64 (by omega)
          go_region_held (fun w' => w'.cell? ⟨s, so + (4 * k + 1), none⟩ = some (.int .i64 b)) (go_keep) ((go_at_call 133; refine (within_any _ _ _ _).mono ?_; rintro e w' ⟨rfl, rfl⟩))
          go_wp2_with fail
          go_roundw
          case rel => exact ⟨k + 1, _, _, _, by go_num, (hinv.step_reg hps HD.out (by omega) (by omega) (1) (by simp [shVal, H1.out, H2.out]; omega)).drew⟩
          case measure => simp [intOf]; omega
        · go_wp2_with fail
          have i1 : 4 * (k : Int) + 1 < (sh.length : Int) := by omega
          have i2 : 0 ≤ 4 * (k : Int) + 1 := by omega
          have i3 : (4 * (k : Int) + 1).toNat = 4 * k + 1 := by omega
          have i4 : IntKind.i64.wrap (4 * (k : Int) + 1) = 4 * (k : Int) + 1 := k64 (by omega)
          go_region_held (fun w' => w'.cell? ⟨s, so + (4 * k + 1), none⟩ = some (.int .i64 b)) (go_keep) ((go_at_call 133; refine (within_any _ _ _ _).mono ?_; rintro e w' ⟨rfl, rfl⟩))
          go_wp2_with fail
          go_roundw
          case rel => exact ⟨k + 1, _, _, _, by go_num, (hinv.step_reg hps HD.out (by omega) (by omega) (0) (by simp [shVal, H1.out, H2.out]; omega)).drew⟩
          case measure => simp [intOf]; omega
      · skip
        have hb7 : b ≤ 7 := hb2 (by omega)
        have c3' := c3 hb7
        have hb8 : b < 8 := by omega
        clear c3
        go_wp2_with fail
        have i0 : 4 * (k : Int) + 2 < (sh.length : Int) := by omega
        have i1 : 4 * (k : Int) + 3 < (sh.length : Int) := by omega
        have i2 : 0 ≤ 4 * (k : Int) + 2 := by omega
        have i22 : 0 ≤ 4 * (k : Int) + 3 := by omega
        have i3 : (4 * (k : Int) + 2).toNat = 4 * k + 2 := by omega
        have i33 : (4 * (k : Int) + 3).toNat = 4 * k + 3 := by omega
        have i4 : IntKind.i64.wrap (4 * (k : Int) + 2) = 4 * (k : Int) + 2 := k64 (by omega)
        have i5 : IntKind.i64.wrap (4 * (k : Int) + 3) = 4 * (k : Int) + 3 := k64 (by omega)
        have i6 : IntKind.i64.wrap (256 * c) = 256 * c := k64 (by omega)
        have i7 : IntKind.i64.wrap (256 * c + e) = 256 * c + e := k64 (by omega)
        go_quiet (fail)
        by_cases hlt : 32767 < 256 * c + e
        all_goals clear i0 i1 i2 i22 i3 i33 i4 i5 i6 i7
        · go_wp2_with fail
          have i1 : 4 * (k : Int) + 1 < (sh.length : Int) := by omega
          have i2 : 0 ≤ 4 * (k : Int) + 1 := by omega
          have i3 : (4 * (k : Int) + 1).toNat = 4 * k + 1 := by omega
          have i4 : IntKind.i64.wrap (4 * (k : Int) + 1) = 4 * (k : Int) + 1 := k64 (by omega)
          go_region_held (fun w' => w'.cell? ⟨s, so + (4 * k + 1), none⟩ = some (.int .i64 b)) (go_keep) ((go_at_call 133; refine (within_any _ _ _ _).mono ?_; rintro e w' ⟨rfl, rfl⟩))
          go_wp2_with fail
          go_roundw
          case rel => exact ⟨k + 1, _, _, _, by go_num, ((hinv.step_reg hps HD.out (by omega) (by omega) (256 * c + e - 65536) (by simp [shVal]; omega)).drewN nq).drew⟩
          case measure => simp [intOf]; omega
        · go_wp2_with fail
          have i1 : 4 * (k : Int) + 1 < (sh.length : Int) := by omega
          have i2 : 0 ≤ 4 * (k : Int) + 1 := by omega
          have i3 : (4 * (k : Int) + 1).toNat = 4 * k + 1 := by omega
          have i4 : IntKind.i64.wrap (4 * (k : Int) + 1) = 4 * (k : Int) + 1 := k64 (by omega)
          go_region_held (fun w' => w'.cell? ⟨s, so + (4 * k + 1), none⟩ = some (.int .i64 b)) (go_keep) ((go_at_call 133; refine (within_any _ _ _ _).mono ?_; rintro e w' ⟨rfl, rfl⟩))
          go_wp2_with fail
          go_roundw
          case rel => exact ⟨k + 1, _, _, _, by go_num, ((hinv.step_reg hps HD.out (by omega) (by omega) (256 * c + e) (by simp [shVal]; omega)).drewN nq).drew⟩
          case measure => simp [intOf]; omega
      · by_cases hlt : one < two
        · have cdA := cell_of hinv.bd
          have ceA := cell_of hinv.be
          have fdA := frozen_of hinv.bd
          have feA := frozen_of hinv.be
          have hpB0 : p ≠ w.heap.size := by omega
          have hpB1 : p ≠ w.heap.size + 1 := by omega
          go_wp2_with fail
          refine bodyPost_ret (v := .tuple #[.agg #[.int .i64 d.r, .int .i64 d.g, .int .i64 d.b, .int .i64 z, .int .i64 d.s], .bool false]) (by simp [results, Tryz.results107, go_sem, ceA]) rfl ?_
          go_light
          have e1 := hinv.ends_none HD.out rfl (by rw [H1.out, H2.out]; exact hlt)
          rw [e1]
          refine ⟨⟨⟨d.r, d.g, d.b, z, d.s⟩, rfl⟩, ?_, ?_⟩
          · rw [heap_set_ne (by omega), heap_set_ne (by omega), heap_set_ne (by omega), heap_set_ne (by omega), heap_set_ne (by omega), heap_set_same hinv.bp, set_set]
          · exact (((((hinv.kept.set (.inl rfl) _ _).set (.inr (by omega)) _ _).set (.inr (by omega)) _ _).set (.inr (by omega)) _ _).set (.inr (by omega)) _ _).set (.inr (by omega)) _ _
        · go_wp2_with fail
          go_roundw
          case rel => exact ⟨k + 1, _, _, _, by go_num, hinv.step_skip hps HD.out rfl (by rw [H1.out, H2.out]; omega)⟩
          case measure => simp [intOf]; omega
      · go_wp2_with fail
        refine (within_any _ _ _ _).mono ?_
        rintro e w' ⟨rfl, rfl⟩
        go_wp2_with fail
        go_roundw
        case rel => exact ⟨k + 1, _, _, _, by go_num, hinv.step_depth hps HD.out rfl _ H1.out⟩
        case measure => simp [intOf]; omega

end Go.Proofs.YthcikinkicpicaaGreatDoor
