import Derived.Test.YthcikinkicpicaaGreatDoorB04
import Derived.BigQuiet
import Derived.Deep.QuietTactic
import Derived.Deep.LoopGhost
import Derived.Test.YthcikinkicpicaaGreatDoorB10
import Derived.Test.YthcikinkicpicaaGreatDoorA36

namespace Go.Proofs.YthcikinkicpicaaGreatDoor
open Go.RowKit

/-- Replies lie behind a slice's value, one after the other from the head of a block (or it is nil, and there are none). -/
def RepsAt (w : World) (v : Value) (l : List Rep) : Prop :=
  (v = .slice none 0 0 ∧ l = []) ∨
  ∃ g cap, v = .slice (some ⟨g, 0, none⟩) l.length cap ∧ l.length ≤ cap ∧ g < w.heap.size ∧ ∀ i (h : i < l.length), w.cell? ⟨g, i * 4, none⟩ = some (.int .i64 l[i].k) ∧ w.cell? ⟨g, i * 4 + 1, none⟩ = some (.int .i64 l[i].a) ∧
    w.cell? ⟨g, i * 4 + 2, none⟩ = some (.int .i64 l[i].b) ∧ w.cell? ⟨g, i * 4 + 3, none⟩ = some (.int .i64 l[i].c)

theorem repsAt_own {w : World} {base : Nat} {e : TypeId} {v : Value} {l : List Rep} (h : w.ownsRow base e 4 v l.length (rcells l)) : RepsAt w v l := by
  rcases h.2 with ⟨h1, h2⟩ | ⟨g, cap, cur, hv, hge, hh, hc, _⟩
  · exact .inl ⟨h1, List.eq_nil_of_length_eq_zero h2⟩
  · refine .inr ⟨g, cap, hv, hc, lt_of_heap hh, fun i hi => ?_⟩
    subst hv
    have hget := fun j hj => flat_get (fun r : Rep => [Value.int .i64 r.k, .int .i64 r.a, .int .i64 r.b, .int .i64 r.c]) 4 (fun _ => rfl) l i j hi hj
    have hb : i * 4 + 4 ≤ l.length * 4 := by omega
    refine ⟨?_, ?_, ?_, ?_⟩
    · rw [h.cellAt (i * 4) (by omega)]; exact (hget 0 (by omega)).trans rfl
    · rw [h.cellAt (i * 4 + 1) (by omega)]; exact (hget 1 (by omega)).trans rfl
    · rw [h.cellAt (i * 4 + 2) (by omega)]; exact (hget 2 (by omega)).trans rfl
    · rw [h.cellAt (i * 4 + 3) (by omega)]; exact (hget 3 (by omega)).trans rfl

structure Still (w wr : World) : Prop where
  heap : wr.heap = w.heap
  os : wr.os = w.os
  tape : wr.tape = w.tape
  output : wr.output = w.output
theorem Still.refl (w : World) : Still w w := ⟨rfl, rfl, rfl, rfl⟩
theorem Still.drewN {w wr : World} (h : Still w wr) (n : Nat) : Still w (wr.drewN n) := ⟨h.heap, h.os, h.tape, h.output⟩
theorem Still.cell {w wr : World} (h : Still w wr) (a : Addr) : wr.cell? a = w.cell? a := by simp [World.cell?, h.heap]
theorem Still.below {w wr : World} (h : Still w wr) : Below w.heap.size w wr := ⟨h.os, h.tape, h.output, by rw [h.heap]; exact Nat.le_refl _, fun k _ => by rw [h.heap]⟩

set_option maxRecDepth 100000 in
set_option maxHeartbeats 1000000 in
theorem same_true (va vb : Value) (l : List Rep) (w : World) (ha : RepsAt w va l) (hb : RepsAt w vb l) (hl : l.length ≤ 1000000000000) :
    Calls Tryz.prog 13 #[va, vb] w fun e w' => e = .returned (.bool true) ∧ Below w.heap.size w w' := by
  rcases ha with ⟨rfl, rfl⟩ | ⟨ga, ca, rfl, hca, hga, hcella⟩
  · rcases hb with ⟨rfl, _⟩ | ⟨gb, cb, rfl, _⟩
    · go_enter Tryz.func13, Tryz.ntmps13
      go_wp2_with fail
      go_loopg [5] 0 (fun _ i wr => i = .int .i64 0 ∧ wr = w)
      case atStart => exact ⟨rfl, rfl⟩
      case round =>
        obtain ⟨rfl, rfl⟩ := hrel
        go_wp2_with fail
        go_ret
        exact ⟨rfl, Below.refl _ _⟩
    · go_enter Tryz.func13, Tryz.ntmps13
      go_wp2_with fail
      go_loopg [5] 0 (fun _ i wr => i = .int .i64 0 ∧ wr = w)
      case atStart => exact ⟨rfl, rfl⟩
      case round =>
        obtain ⟨rfl, rfl⟩ := hrel
        go_wp2_with fail
        go_ret
        exact ⟨rfl, Below.refl _ _⟩
  · rcases hb with ⟨rfl, rfl⟩ | ⟨gb, cb, rfl, hcb, hgb, hcellb⟩
    · go_enter Tryz.func13, Tryz.ntmps13
      go_wp2_with fail
      go_loopg [5] 0 (fun _ i wr => i = .int .i64 0 ∧ wr = w)
      case atStart => exact ⟨rfl, rfl⟩
      case round =>
        obtain ⟨rfl, rfl⟩ := hrel
        go_wp2_with fail
        go_ret
        exact ⟨rfl, Below.refl _ _⟩
    · have HA : Hid (∀ i (h : i < l.length), w.cell? ⟨ga, i * 4, none⟩ = some (.int .i64 l[i].k) ∧ w.cell? ⟨ga, i * 4 + 1, none⟩ = some (.int .i64 l[i].a) ∧ w.cell? ⟨ga, i * 4 + 2, none⟩ = some (.int .i64 l[i].b) ∧ w.cell? ⟨ga, i * 4 + 3, none⟩ = some (.int .i64 l[i].c)) := hcella
      have HB : Hid (∀ i (h : i < l.length), w.cell? ⟨gb, i * 4, none⟩ = some (.int .i64 l[i].k) ∧ w.cell? ⟨gb, i * 4 + 1, none⟩ = some (.int .i64 l[i].a) ∧ w.cell? ⟨gb, i * 4 + 2, none⟩ = some (.int .i64 l[i].b) ∧ w.cell? ⟨gb, i * 4 + 3, none⟩ = some (.int .i64 l[i].c)) := hcellb
      clear hcella hcellb
      go_enter Tryz.func13, Tryz.ntmps13
      go_wp2_with fail
      go_loopg [5] l.length (fun n i wr => ∃ k : Nat, k + n = l.length ∧ i = .int .i64 k ∧ Still w wr)
      case atStart => exact ⟨0, by omega, rfl, Still.refl _⟩
      case round =>
        obtain ⟨k, hk, rfl, hS⟩ := hrel
        by_cases hlt : k < l.length
        · obtain ⟨n', rfl⟩ : ∃ n', gk = n' + 1 := ⟨gk - 1, by omega⟩
          obtain ⟨a0, a1, a2, a3⟩ := HA.out k hlt
          obtain ⟨b0, b1, b2, b3⟩ := HB.out k hlt
          rw [← hS.cell] at a0 a1 a2 a3 b0 b1 b2 b3
          generalize l[k].k = r0 at *
          generalize l[k].a = r1 at *
          generalize l[k].b = r2 at *
          generalize l[k].c = r3 at *
          have x1 : (k : Int) < (l.length : Int) := by omega
          have x2 : (0 : Int) ≤ (k : Int) := by omega
          have hS' := hS
          clear hS
          go_wp2_with fail
          go_quiet (fail)
          go_wp2_with fail
          go_roundg n'
          case rel => exact ⟨k + 1, by omega, by go_num, hS'.drewN _⟩
          case measure => omega
        · have hg0 : gk = 0 := by omega
          subst hg0
          go_wp2_with fail
          go_ret
          exact ⟨rfl, hS.below⟩

end Go.Proofs.YthcikinkicpicaaGreatDoor

namespace Go.Proofs.YthcikinkicpicaaGreatDoor
open Go.RowKit

/-- The program's table (its only variable), as its initialiser lays it. -/
def tabZ : List Int := [0, 2, 7, 2, 7, 4, 1, 1, 1, 27, 1, 1, 1, 3, 1]
def Tab (w : World) : Prop := ∀ i, i < tabZ.length → w.cell? ⟨0, i, none⟩ = some (.int .i64 (tabZ.getD i 0))
theorem Tab.keep {w w' : World} (h : Tab w) (hb : ∀ k, k < w.heap.size → w'.heap[k]? = w.heap[k]?) : Tab w' := by
  intro i hi
  have h0 := h i hi
  have hlt : 0 < w.heap.size := by
    rcases Nat.eq_zero_or_pos w.heap.size with e | e
    · have : w.heap[0]? = none := by simp [e]
      simp [World.cell?, this] at h0
    · exact e
  exact (World.cell?_of_block (a := ⟨0, i, none⟩) (hb 0 hlt)).trans h0

/-- The program's Draw answers what the document's pane replies, in new memory. -/
def DrawAll : Prop := ∀ (s : ByteArray) (ways : Int) (w : World), s.size ≤ 100000000000 → Tab w →
  Calls Tryz.prog 11 #[.string s, .int .i64 ways] w fun e w' => ∃ v, e = .returned v ∧ w'.ownsRow w.heap.size 25 4 v (playFrom s s.size 0 st0).out.length (rcells (playFrom s s.size 0 st0).out) ∧ Below w.heap.size w w'

theorem RepsAt.below {w w' : World} {v : Value} {l : List Rep} (h : RepsAt w v l) (hb : Below w.heap.size w w') : RepsAt w' v l := by
  rcases h with h | ⟨g, cap, hv, hc, hg, hcell⟩
  · exact .inl h
  · refine .inr ⟨g, cap, hv, hc, Nat.lt_of_lt_of_le hg hb.size, fun i hi => ?_⟩
    obtain ⟨h0, h1, h2, h3⟩ := hcell i hi
    exact ⟨(hb.cell (p := ⟨g, i * 4, none⟩) hg).trans h0, (hb.cell (p := ⟨g, i * 4 + 1, none⟩) hg).trans h1, (hb.cell (p := ⟨g, i * 4 + 2, none⟩) hg).trans h2, (hb.cell (p := ⟨g, i * 4 + 3, none⟩) hg).trans h3⟩

theorem play_out_len (s : ByteArray) : ∀ (f k : Nat) (st : St), (playFrom s f k st).out.length ≤ st.out.length + f + 1
  | 0, k, st => by rw [playFrom]; omega
  | f + 1, k, st => by
    rw [playFrom]
    split
    · omega
    · split
      · simp
      · have h1 := play_out_len s f (k + 1 + (lenAt s k).toNat) (st.one (byteAt s k) (argsAt s (k + 1) (lenAt s k).toNat) k)
        have h2 := one_out st (byteAt s k) (argsAt s (k + 1) (lenAt s k).toNat) k
        omega

structure ZInv (gz n : Nat) (w1 : World) (wr : World) : Prop where
  blk : ∃ cur, wr.heap[gz]? = some (.cells cur 25 (0, 0)) ∧ n * 4 ≤ cur.size
  bel : Below w1.heap.size w1 wr
  ge : w1.heap.size ≤ gz

set_option maxRecDepth 100000 in
set_option maxHeartbeats 1000000 in
theorem Draws_true (hdraw : DrawAll) (s : ByteArray) (ways : Int) (w : World) (ht : Tab w) (hs : s.size ≤ 10000000000) :
    Calls Tryz.prog 3 #[.string s, .int .i64 ways] w fun e w' => e = .returned (.bool true) ∧ Below w.heap.size w w' := by
  have hlen := play_out_len s s.size 0 st0
  have hl0 : st0.out.length = 0 := rfl
  have hl2 : (playFrom s s.size 0 st0).out.length ≤ 100000000000 := by omega
  clear hlen hl0
  have hplay := fun w' => Play_in s w' (by omega)
  have hd := fun w' (h : Tab w') => hdraw s ways w' (by omega) h
  generalize hR : playFrom s s.size 0 st0 = R at *
  clear hR
  have HP : Hid (∀ w' : World, Calls Tryz.prog 12 #[.string s] w' fun e w'' => e = .returned (.pointer (some ⟨w'.heap.size, 0, none⟩)) ∧ ∃ dB qB shV outV, PaneO w'.heap.size w'' w'.heap.size dB qB shV outV R ∧ Below w'.heap.size w' w'') := hplay
  have HD : Hid (∀ w' : World, Tab w' → Calls Tryz.prog 11 #[.string s, .int .i64 ways] w' fun e w'' => ∃ v, e = .returned v ∧ w''.ownsRow w'.heap.size 25 4 v R.out.length (rcells R.out) ∧ Below w'.heap.size w' w'') := hd
  have HT : Hid (Tab w) := ht
  clear hplay hd ht
  go_enter Tryz.func3, Tryz.ntmps3
  go_wp2_with fail
  refine (HD.out w HT.out).mono ?_
  rintro e w1 ⟨v1, rfl, hown1, hb1⟩
  go_wp2_with fail
  refine (HD.out w1 (HT.out.keep hb1.block)).mono ?_
  rintro e w2 ⟨v2, rfl, hown2, hb2⟩
  have hr1 := (repsAt_own hown1).below hb2
  rcases hown2.2 with ⟨rfl, h0⟩ | ⟨gz, capz, cur, rfl, hgz, hhz, hcz, hcm, hsz, _⟩
  · clear hown2
    go_wp2_with fail
    go_loopg [7] 0 (fun _ i wr => i = .int .i64 0 ∧ wr = w2)
    case atStart => exact ⟨rfl, rfl⟩
    case round =>
      obtain ⟨rfl, rfl⟩ := hrel
      go_wp2_with fail
      refine (HP.out wr).mono ?_
      rintro e w3 ⟨rfl, dB, qB, shV, outV, hP3, hb3⟩
      have cp := cell_of hP3.pin.bp
      simp only [pcells] at cp
      have hr3 := hr1.below hb3
      have hq3 := repsAt_own hP3.out
      have hBall : Below w.heap.size w w3 := (hb1.trans (hb2.mono hb1.size)).trans (hb3.mono (by have := hb1.size; have := hb2.size; omega))
      go_wp2_with fail
      refine (same_true v1 outV R.out w3 hr3 hq3 (by omega)).mono ?_
      rintro e w4 ⟨rfl, hb4⟩
      go_wp2_with fail
      go_ret
      exact ⟨rfl, hBall.trans (hb4.mono hBall.size)⟩
  · have hZ : ZInv gz R.out.length w1 w2 := ⟨⟨cur, hhz, by rw [hsz]; exact Nat.mul_le_mul_right 4 hcz⟩, hb2, hgz⟩
    clear hhz hsz hcm hown2 hb2 hr1
    go_wp2_with fail
    go_loopg [7] R.out.length (fun n i wr => ∃ k : Nat, k + n = R.out.length ∧ i = .int .i64 k ∧ ZInv gz R.out.length w1 wr)
    case atStart => exact ⟨0, by omega, rfl, hZ⟩
    case round =>
      obtain ⟨k, hk, rfl, hI⟩ := hrel
      by_cases hlt : k < R.out.length
      · obtain ⟨n', rfl⟩ : ∃ n', gk = n' + 1 := ⟨gk - 1, by omega⟩
        obtain ⟨cur', hblk, hszk⟩ := hI.blk
        have hcell : ∀ o, o < cur'.size → ∃ u, wr.cell? ⟨gz, o, none⟩ = some u := fun o ho => ⟨cur'[o], by rw [cell_of hblk]; simp [ho]⟩
        obtain ⟨u0, hu0⟩ := hcell (k * 4) (by omega)
        obtain ⟨u1, hu1⟩ := hcell (k * 4 + 1) (by omega)
        obtain ⟨u2, hu2⟩ := hcell (k * 4 + 2) (by omega)
        obtain ⟨u3, hu3⟩ := hcell (k * 4 + 3) (by omega)
        have fz := frozen_of hblk
        clear hcell
        have hge := hI.ge
        have hbel := hI.bel
        go_wp2_with fail
        go_roundg n'
        case rel =>
          go_light
          refine ⟨k + 1, by omega, by go_num, ⟨⟨_, heap_set_same (heap_set_same (heap_set_same (heap_set_same hblk _ _) _ _) _ _) _ _, by simpa using hszk⟩, ?_, hge⟩⟩
          exact (((hbel.setCell (by exact hge) _).setCell (by exact hge) _).setCell (by exact hge) _).setCell (by exact hge) _
        case measure => omega
      · have hg0 : gk = 0 := by omega
        subst hg0
        have hbel := hI.bel
        have hr := (repsAt_own hown1).below hbel
        clear hI hZ
        go_wp2_with fail
        refine (HP.out wr).mono ?_
        rintro e w3 ⟨rfl, dB, qB, shV, outV, hP3, hb3⟩
        have cp := cell_of hP3.pin.bp
        simp only [pcells] at cp
        have hr3 := hr.below hb3
        have hq3 := repsAt_own hP3.out
        have hBall : Below w.heap.size w w3 := (hb1.trans (hbel.mono hb1.size)).trans (hb3.mono (by have := hb1.size; have := hbel.size; omega))
        go_wp2_with fail
        refine (same_true v1 outV R.out w3 hr3 hq3 (by omega)).mono ?_
        rintro e w4 ⟨rfl, hb4⟩
        go_wp2_with fail
        go_ret
        exact ⟨rfl, hBall.trans (hb4.mono hBall.size)⟩

end Go.Proofs.YthcikinkicpicaaGreatDoor

namespace Go.Proofs.YthcikinkicpicaaGreatDoor
open Go.RowKit

theorem drawAll : DrawAll := fun s ways w hs ht => draw_in s ways w hs (fun i hi => ht i hi)
end Go.Proofs.YthcikinkicpicaaGreatDoor
