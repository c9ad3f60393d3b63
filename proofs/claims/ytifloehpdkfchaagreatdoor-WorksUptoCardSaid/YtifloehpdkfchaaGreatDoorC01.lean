import Derived.Test.YtifloehpdkfchaaGreatDoorB07
import Derived.BigQuiet
import Derived.Deep.QuietTactic
import Derived.Deep.LoopGhost

namespace Go.Proofs.YtifloehpdkfchaaGreatDoor
open Go.RowKit

/-- Replies lie behind a slice's value, one after the other from the head of a block (or it is nil, and there are none). -/
def RepsAt (w : World) (v : Value) (l : List Rep) : Prop :=
  (v = .slice none 0 0 ∧ l = []) ∨
  ∃ g cap, v = .slice (some ⟨g, 0, none⟩) l.length cap ∧ l.length ≤ cap ∧ g < w.heap.size ∧ ∀ i (h : i < l.length), w.cell? ⟨g, i * 4, none⟩ = some (.int .i64 l[i].k) ∧ w.cell? ⟨g, i * 4 + 1, none⟩ = some (.int .i64 l[i].a) ∧
    w.cell? ⟨g, i * 4 + 2, none⟩ = some (.int .i64 l[i].b) ∧ w.cell? ⟨g, i * 4 + 3, none⟩ = some (.int .i64 l[i].c)

theorem repsAt_own {w : World} {base : Nat} {e : TypeId} {v : Value} {l : List Rep} (h : w.ownsRow base e 4 v l.length (rcells l)) : RepsAt w v l := by
  rcases h.2 with ⟨h1, h2⟩ | ⟨g, cap, cur, hv, hge, hh, hc, _⟩
  · exact .inl ⟨h1, List.eq_nil_of_length_eq_zero h2⟩
  · refine .inr ⟨g, cap, hv, hc, lt_of_heap hh, fun i hi => ?_⟩
    subst hv
    have hget := fun j hj => flat_get (fun r : Rep => [Value.int .i64 r.k, .int .i64 r.a, .int .i64 r.b, .int .i64 r.c]) 4 (fun _ => rfl) l i j hi hj
    have hb : i * 4 + 4 ≤ l.length * 4 := by omega
    refine ⟨?_, ?_, ?_, ?_⟩
    · rw [h.cellAt (i * 4) (by omega)]; exact (hget 0 (by omega)).trans rfl
    · rw [h.cellAt (i * 4 + 1) (by omega)]; exact (hget 1 (by omega)).trans rfl
    · rw [h.cellAt (i * 4 + 2) (by omega)]; exact (hget 2 (by omega)).trans rfl
    · rw [h.cellAt (i * 4 + 3) (by omega)]; exact (hget 3 (by omega)).trans rfl

structure Still (w wr : World) : Prop where
  heap : wr.heap = w.heap
  os : wr.os = w.os
  tape : wr.tape = w.tape
  output : wr.output = w.output
theorem Still.refl (w : World) : Still w w := ⟨rfl, rfl, rfl, rfl⟩
theorem Still.drewN {w wr : World} (h : Still w wr) (n : Nat) : Still w (wr.drewN n) := ⟨h.heap, h.os, h.tape, h.output⟩
theorem Still.cell {w wr : World} (h : Still w wr) (a : Addr) : wr.cell? a = w.cell? a := by simp [World.cell?, h.heap]
theorem Still.below {w wr : World} (h : Still w wr) : Below w.heap.size w wr := ⟨h.os, h.tape, h.output, by rw [h.heap]; exact Nat.le_refl _, fun k _ => by rw [h.heap]⟩

set_option maxRecDepth 100000 in
set_option maxHeartbeats 1000000 in
theorem same_true (va vb : Value) (l : List Rep) (w : World) (ha : RepsAt w va l) (hb : RepsAt w vb l) (hl : l.length ≤ 1000000000000) :
    Calls Tryz.prog 8 #[va, vb] w fun e w' => e = .returned (.bool true) ∧ Below w.heap.size w w' := by
  rcases ha with ⟨rfl, rfl⟩ | ⟨ga, ca, rfl, hca, hga, hcella⟩
  · rcases hb with ⟨rfl, _⟩ | ⟨gb, cb, rfl, _⟩
    · go_enter Tryz.func8, Tryz.ntmps8
      go_wp2_with fail
      go_loopg [5] 0 (fun _ i wr => i = .int .i64 0 ∧ wr = w)
      case atStart => exact ⟨rfl, rfl⟩
      case round =>
        obtain ⟨rfl, rfl⟩ := hrel
        go_wp2_with fail
        go_ret
        exact ⟨rfl, Below.refl _ _⟩
    · go_enter Tryz.func8, Tryz.ntmps8
      go_wp2_with fail
      go_loopg [5] 0 (fun _ i wr => i = .int .i64 0 ∧ wr = w)
      case atStart => exact ⟨rfl, rfl⟩
      case round =>
        obtain ⟨rfl, rfl⟩ := hrel
        go_wp2_with fail
        go_ret
        exact ⟨rfl, Below.refl _ _⟩
  · rcases hb with ⟨rfl, rfl⟩ | ⟨gb, cb, rfl, hcb, hgb, hcellb⟩
    · go_enter Tryz.func8, Tryz.ntmps8
      go_wp2_with fail
      go_loopg [5] 0 (fun _ i wr => i = .int .i64 0 ∧ wr = w)
      case atStart => exact ⟨rfl, rfl⟩
      case round =>
        obtain ⟨rfl, rfl⟩ := hrel
        go_wp2_with fail
        go_ret
        exact ⟨rfl, Below.refl _ _⟩
    · have HA : Hid (∀ i (h : i < l.length), w.cell? ⟨ga, i * 4, none⟩ = some (.int .i64 l[i].k) ∧ w.cell? ⟨ga, i * 4 + 1, none⟩ = some (.int .i64 l[i].a) ∧ w.cell? ⟨ga, i * 4 + 2, none⟩ = some (.int .i64 l[i].b) ∧ w.cell? ⟨ga, i * 4 + 3, none⟩ = some (.int .i64 l[i].c)) := hcella
      have HB : Hid (∀ i (h : i < l.length), w.cell? ⟨gb, i * 4, none⟩ = some (.int .i64 l[i].k) ∧ w.cell? ⟨gb, i * 4 + 1, none⟩ = some (.int .i64 l[i].a) ∧ w.cell? ⟨gb, i * 4 + 2, none⟩ = some (.int .i64 l[i].b) ∧ w.cell? ⟨gb, i * 4 + 3, none⟩ = some (.int .i64 l[i].c)) := hcellb
      clear hcella hcellb
      go_enter Tryz.func8, Tryz.ntmps8
      go_wp2_with fail
      go_loopg [5] l.length (fun n i wr => ∃ k : Nat, k + n = l.length ∧ i = .int .i64 k ∧ Still w wr)
      case atStart => exact ⟨0, by omega, rfl, Still.refl _⟩
      case round =>
        obtain ⟨k, hk, rfl, hS⟩ := hrel
        by_cases hlt : k < l.length
        · obtain ⟨n', rfl⟩ : ∃ n', gk = n' + 1 := ⟨gk - 1, by omega⟩
          obtain ⟨a0, a1, a2, a3⟩ := HA.out k hlt
          obtain ⟨b0, b1, b2, b3⟩ := HB.out k hlt
          rw [← hS.cell] at a0 a1 a2 a3 b0 b1 b2 b3
          generalize l[k].k = r0 at *
          generalize l[k].a = r1 at *
          generalize l[k].b = r2 at *
          generalize l[k].c = r3 at *
          have x1 : (k : Int) < (l.length : Int) := by omega
          have x2 : (0 : Int) ≤ (k : Int) := by omega
          have hS' := hS
          clear hS
          go_wp2_with fail
          go_quiet (fail)
          go_wp2_with fail
          go_roundg n'
          case rel => exact ⟨k + 1, by omega, by go_num, hS'.drewN _⟩
          case measure => omega
        · have hg0 : gk = 0 := by omega
          subst hg0
          go_wp2_with fail
          go_ret
          exact ⟨rfl, hS.below⟩

end Go.Proofs.YtifloehpdkfchaaGreatDoor
