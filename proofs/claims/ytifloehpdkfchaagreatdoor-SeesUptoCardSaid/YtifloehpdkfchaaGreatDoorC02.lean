import Derived.Test.YtifloehpdkfchaaGreatDoorC01
import Derived.Test.YtifloehpdkfchaaGreatDoorB15
import Derived.Test.YtifloehpdkfchaaGreatDoorA28

namespace Go.Proofs.YtifloehpdkfchaaGreatDoor
open Go.RowKit

/-- The program's table (its only variable), as its initialiser lays it. -/
def tabZ : List Int := [0, 2, 7, 2, 7, 4, 1, 1, 1, 27, 1, 1, 1, 3, 1]
def Tab (w : World) : Prop := ∀ i, i < tabZ.length → w.cell? ⟨0, i, none⟩ = some (.int .i64 (tabZ.getD i 0))
theorem Tab.keep {w w' : World} (h : Tab w) (hb : ∀ k, k < w.heap.size → w'.heap[k]? = w.heap[k]?) : Tab w' := by
  intro i hi
  have h0 := h i hi
  have hlt : 0 < w.heap.size := by
    rcases Nat.eq_zero_or_pos w.heap.size with e | e
    · have : w.heap[0]? = none := by simp [e]
      simp [World.cell?, this] at h0
    · exact e
  exact (World.cell?_of_block (a := ⟨0, i, none⟩) (hb 0 hlt)).trans h0

/-- The program's Draw answers what the document's pane replies, in new memory. -/
def DrawAll : Prop := ∀ (s : ByteArray) (ways : Int) (w : World), s.size ≤ 100000000000 → Tab w →
  Calls Tryz.prog 6 #[.string s, .int .i64 ways] w fun e w' => ∃ v, e = .returned v ∧ w'.ownsRow w.heap.size 25 4 v (playFrom s s.size 0 st0).out.length (rcells (playFrom s s.size 0 st0).out) ∧ Below w.heap.size w w'

theorem RepsAt.below {w w' : World} {v : Value} {l : List Rep} (h : RepsAt w v l) (hb : Below w.heap.size w w') : RepsAt w' v l := by
  rcases h with h | ⟨g, cap, hv, hc, hg, hcell⟩
  · exact .inl h
  · refine .inr ⟨g, cap, hv, hc, Nat.lt_of_lt_of_le hg hb.size, fun i hi => ?_⟩
    obtain ⟨h0, h1, h2, h3⟩ := hcell i hi
    exact ⟨(hb.cell (p := ⟨g, i * 4, none⟩) hg).trans h0, (hb.cell (p := ⟨g, i * 4 + 1, none⟩) hg).trans h1, (hb.cell (p := ⟨g, i * 4 + 2, none⟩) hg).trans h2, (hb.cell (p := ⟨g, i * 4 + 3, none⟩) hg).trans h3⟩

theorem play_out_len (s : ByteArray) : ∀ (f k : Nat) (st : St), (playFrom s f k st).out.length ≤ st.out.length + f + 1
  | 0, k, st => by rw [playFrom]; omega
  | f + 1, k, st => by
    rw [playFrom]
    split
    · omega
    · split
      · simp
      · have h1 := play_out_len s f (k + 1 + (lenAt s k).toNat) (st.one (byteAt s k) (argsAt s (k + 1) (lenAt s k).toNat) k)
        have h2 := one_out st (byteAt s k) (argsAt s (k + 1) (lenAt s k).toNat) k
        omega

structure ZInv (gz n : Nat) (w1 : World) (wr : World) : Prop where
  blk : ∃ cur, wr.heap[gz]? = some (.cells cur 25 (0, 0)) ∧ n * 4 ≤ cur.size
  bel : Below w1.heap.size w1 wr
  ge : w1.heap.size ≤ gz

set_option maxRecDepth 100000 in
set_option maxHeartbeats 1000000 in
theorem Draws_true (hdraw : DrawAll) (s : ByteArray) (ways : Int) (w : World) (ht : Tab w) (hs : s.size ≤ 10000000000) :
    Calls Tryz.prog 3 #[.string s, .int .i64 ways] w fun e w' => e = .returned (.bool true) ∧ Below w.heap.size w w' := by
  have hlen := play_out_len s s.size 0 st0
  have hl0 : st0.out.length = 0 := rfl
  have hl2 : (playFrom s s.size 0 st0).out.length ≤ 100000000000 := by omega
  clear hlen hl0
  have hplay := fun w' => Play_in s w' (by omega)
  have hd := fun w' (h : Tab w') => hdraw s ways w' (by omega) h
  generalize hR : playFrom s s.size 0 st0 = R at *
  clear hR
  have HP : Hid (∀ w' : World, Calls Tryz.prog 7 #[.string s] w' fun e w'' => e = .returned (.pointer (some ⟨w'.heap.size, 0, none⟩)) ∧ ∃ dB qB shV outV, PaneO w'.heap.size w'' w'.heap.size dB qB shV outV R ∧ Below w'.heap.size w' w'') := hplay
  have HD : Hid (∀ w' : World, Tab w' → Calls Tryz.prog 6 #[.string s, .int .i64 ways] w' fun e w'' => ∃ v, e = .returned v ∧ w''.ownsRow w'.heap.size 25 4 v R.out.length (rcells R.out) ∧ Below w'.heap.size w' w'') := hd
  have HT : Hid (Tab w) := ht
  clear hplay hd ht
  go_enter Tryz.func3, Tryz.ntmps3
  go_wp2_with fail
  refine (HD.out w HT.out).mono ?_
  rintro e w1 ⟨v1, rfl, hown1, hb1⟩
  go_wp2_with fail
  refine (HD.out w1 (HT.out.keep hb1.block)).mono ?_
  rintro e w2 ⟨v2, rfl, hown2, hb2⟩
  have hr1 := (repsAt_own hown1).below hb2
  rcases hown2.2 with ⟨rfl, h0⟩ | ⟨gz, capz, cur, rfl, hgz, hhz, hcz, hcm, hsz, _⟩
  · clear hown2
    go_wp2_with fail
    go_loopg [7] 0 (fun _ i wr => i = .int .i64 0 ∧ wr = w2)
    case atStart => exact ⟨rfl, rfl⟩
    case round =>
      obtain ⟨rfl, rfl⟩ := hrel
      go_wp2_with fail
      refine (HP.out wr).mono ?_
      rintro e w3 ⟨rfl, dB, qB, shV, outV, hP3, hb3⟩
      have cp := cell_of hP3.pin.bp
      simp only [pcells] at cp
      have hr3 := hr1.below hb3
      have hq3 := repsAt_own hP3.out
      have hBall : Below w.heap.size w w3 := (hb1.trans (hb2.mono hb1.size)).trans (hb3.mono (by have := hb1.size; have := hb2.size; omega))
      go_wp2_with fail
      refine (same_true v1 outV R.out w3 hr3 hq3 (by omega)).mono ?_
      rintro e w4 ⟨rfl, hb4⟩
      go_wp2_with fail
      go_ret
      exact ⟨rfl, hBall.trans (hb4.mono hBall.size)⟩
  · have hZ : ZInv gz R.out.length w1 w2 := ⟨⟨cur, hhz, by rw [hsz]; exact Nat.mul_le_mul_right 4 hcz⟩, hb2, hgz⟩
    clear hhz hsz hcm hown2 hb2 hr1
    go_wp2_with fail
    go_loopg [7] R.out.length (fun n i wr => ∃ k : Nat, k + n = R.out.length ∧ i = .int .i64 k ∧ ZInv gz R.out.length w1 wr)
    case atStart => exact ⟨0, by omega, rfl, hZ⟩
    case round =>
      obtain ⟨k, hk, rfl, hI⟩ := hrel
      by_cases hlt : k < R.out.length
      · obtain ⟨n', rfl⟩ : ∃ n', gk = n' + 1 := ⟨gk - 1, by omega⟩
        obtain ⟨cur', hblk, hszk⟩ := hI.blk
        have hcell : ∀ o, o < cur'.size → ∃ u, wr.cell? ⟨gz, o, none⟩ = some u := fun o ho => ⟨cur'[o], by rw [cell_of hblk]; simp [ho]⟩
        obtain ⟨u0, hu0⟩ := hcell (k * 4) (by omega)
        obtain ⟨u1, hu1⟩ := hcell (k * 4 + 1) (by omega)
        obtain ⟨u2, hu2⟩ := hcell (k * 4 + 2) (by omega)
        obtain ⟨u3, hu3⟩ := hcell (k * 4 + 3) (by omega)
        have fz := frozen_of hblk
        clear hcell
        have hge := hI.ge
        have hbel := hI.bel
        go_wp2_with fail
        go_roundg n'
        case rel =>
          go_light
          refine ⟨k + 1, by omega, by go_num, ⟨⟨_, heap_set_same (heap_set_same (heap_set_same (heap_set_same hblk _ _) _ _) _ _) _ _, by simpa using hszk⟩, ?_, hge⟩⟩
          exact (((hbel.setCell (by exact hge) _).setCell (by exact hge) _).setCell (by exact hge) _).setCell (by exact hge) _
        case measure => omega
      · have hg0 : gk = 0 := by omega
        subst hg0
        have hbel := hI.bel
        have hr := (repsAt_own hown1).below hbel
        clear hI hZ
        go_wp2_with fail
        refine (HP.out wr).mono ?_
        rintro e w3 ⟨rfl, dB, qB, shV, outV, hP3, hb3⟩
        have cp := cell_of hP3.pin.bp
        simp only [pcells] at cp
        have hr3 := hr.below hb3
        have hq3 := repsAt_own hP3.out
        have hBall : Below w.heap.size w w3 := (hb1.trans (hbel.mono hb1.size)).trans (hb3.mono (by have := hb1.size; have := hbel.size; omega))
        go_wp2_with fail
        refine (same_true v1 outV R.out w3 hr3 hq3 (by omega)).mono ?_
        rintro e w4 ⟨rfl, hb4⟩
        go_wp2_with fail
        go_ret
        exact ⟨rfl, hBall.trans (hb4.mono hBall.size)⟩

end Go.Proofs.YtifloehpdkfchaaGreatDoor

namespace Go.Proofs.YtifloehpdkfchaaGreatDoor
open Go.RowKit

theorem drawAll : DrawAll := fun s ways w hs ht => draw_in s ways w hs (fun i hi => ht i hi)
end Go.Proofs.YtifloehpdkfchaaGreatDoor
