import Derived.Test.YtifloehpdkfchaaGreatDoorB09
import Derived.Test.YtifloehpdkfchaaGreatDoorB11
import Derived.Test.YtifloehpdkfchaaGreatDoorB06
import Derived.Deep.RegionHeld
import Derived.Test.YtifloehpdkfchaaGreatDoorB05

namespace Go.Proofs.YtifloehpdkfchaaGreatDoor
open Go.RowKit

section
variable {base : Nat} {w w' : World} {p dB qB : Nat} {shV outV : Value} {st st' : St}

/-- The pane's own cells turn, and nothing else. -/
theorem PaneO.pput (h : PaneO base w p dB qB shV outV st) (hp : w'.heap[p]? = some (.cells (pcells st' dB qB shV outV) 38 (0, 0))) (hk : Kept (· = p) w w')
    (e1 : st'.dots = st.dots) (e2 : st'.qs = st.qs) (e3 : st'.sh = st.sh) (e4 : st'.out = st.out) : PaneO base w' p dB qB shV outV st' := by
  obtain ⟨l1, l2, l3⟩ := h.pin.lt
  have hk' : Kept (fun k => k = p ∨ k = dB ∨ k = qB) w w' := hk.mono (fun k hk => Or.inl hk)
  refine h.step ⟨hp, ?_, ?_, ?_, h.pin.pd, h.pin.pq, h.pin.dq⟩ e4 hk'
  · rw [hk.block dB l2 (fun x => h.pin.pd x.symm), e1]; exact h.pin.bd
  · rw [hk.block qB l3 (fun x => h.pin.pq x.symm), e2]; exact h.pin.bq
  · rw [e3]; exact h.pin.sh.kept hk (fun k hk => .inl hk)
theorem PaneO.drew (h : PaneO base w p dB qB shV outV st) : PaneO base w.drew p dB qB shV outV st := ⟨h.pin.drew, h.out, h.sb, h.bp0, h.bd0, h.bq0⟩
theorem PaneO.drewN (h : PaneO base w p dB qB shV outV st) (n : Nat) : PaneO base (w.drewN n) p dB qB shV outV st := ⟨h.pin.drewN n, h.out, h.sb, h.bp0, h.bd0, h.bq0⟩

theorem PaneO.low1 (h : PaneO base w p dB qB shV outV st) (hk : Kept (· = p) w w') (o : Obj) : Below base w (w'.alloc o) :=
  (h.low (hk.mono (fun k hk => Or.inl hk))).alloc (by have := h.bp0; have := h.pin.lt; have := hk.size; omega) o
end

/-- What a command's walk leaves. -/
def DoesPost (base p qB : Nat) (w : World) (r : St × Int) (e : Ending) (w' : World) : Prop :=
  e = .returned (.int .i64 r.2) ∧ ∃ dB' shV' outV', PaneO base w' p dB' qB shV' outV' r.1 ∧ Below base w w'

section
variable (base p dB qB : Nat) (shV outV : Value) (st : St) (s : ByteArray) (fr : Int) (g cap : Nat) (a : List Int) (w : World)

/-- What does needs of the world: the pane, and the command's numbers. -/
structure DoesW : Prop where
  pane : PaneO base w p dB qB shV outV st
  g0 : g < w.heap.size
  cell : ∀ j, j < a.length → w.cell? ⟨g, j, none⟩ = some (.int .i64 (a.getD j 0))
  byte : bytesOk a
  len : a.length ≤ 1100
  cap : a.length ≤ cap

set_option maxRecDepth 100000 in
set_option maxHeartbeats 1000000 in
theorem does3 (h : DoesW base p dB qB shV outV st g cap a w) (hl : a.length = 2) :
    Calls Tryz.prog 17 #[.pointer (some ⟨p, 0, none⟩), .int .i64 3, curV s fr (.slice (some ⟨g, 0, none⟩) 2 cap)] w (DoesPost base p qB w (st.does 3 a)) := by
  have c0 := h.cell 0 (by omega)
  have c1 := h.cell 1 (by omega)
  have hg := h.g0
  have cp := cell_of h.pane.pin.bp
  simp only [pcells] at cp
  have fp := frozen_of h.pane.pin.bp
  obtain ⟨lp, ld, lq⟩ := h.pane.pin.lt
  have hfin : st.does 3 a = ({ st with T := { st.T with depth := a.getD 0 0, write := a.getD 1 0 } }, 0) := by unfold St.does; simp
  rw [hfin]
  generalize a.getD 0 0 = a0 at *
  generalize a.getD 1 0 = a1 at *
  clear hfin
  have hpane := h.pane
  clear h
  unfold curV
  go_enter Tryz.func17, Tryz.ntmps17
  go_wp2_with fail
  go_ret
  go_light
  have hk : Kept (· = p) w _ := (((Kept.refl (· = p) w).set (.inl rfl) 3 (.int .i64 a0)).set (.inl rfl) 4 (.int .i64 a1))
  have P := hpane.pput (st' := { st with T := { st.T with depth := a0, write := a1 } }) (by refine Eq.trans (heap_set_same (heap_set_same hpane.pin.bp _ _) _ _) ?_; simp [pcells]) hk rfl rfl rfl rfl
  exact ⟨rfl, dB, shV, outV, (P.frame below1), (hpane.low1 hk _)⟩

set_option maxRecDepth 100000 in
set_option maxHeartbeats 1000000 in
theorem does5 (h : DoesW base p dB qB shV outV st g cap a w) (hl : a.length = 4) :
    Calls Tryz.prog 17 #[.pointer (some ⟨p, 0, none⟩), .int .i64 5, curV s fr (.slice (some ⟨g, 0, none⟩) 4 cap)] w (DoesPost base p qB w (st.does 5 a)) := by
  have c0 := h.cell 0 (by omega)
  have c1 := h.cell 1 (by omega)
  have c2 := h.cell 2 (by omega)
  have c3 := h.cell 3 (by omega)
  have hg := h.g0
  have cp := cell_of h.pane.pin.bp
  simp only [pcells] at cp
  have fp := frozen_of h.pane.pin.bp
  obtain ⟨lp, ld, lq⟩ := h.pane.pin.lt
  have hfin : st.does 5 a = ({ st with wx := a.getD 0 0, wy := a.getD 1 0, ww := a.getD 2 0, wh := a.getD 3 0 }, 0) := by unfold St.does; simp
  rw [hfin]
  generalize a.getD 0 0 = a0 at *
  generalize a.getD 1 0 = a1 at *
  generalize a.getD 2 0 = a2 at *
  generalize a.getD 3 0 = a3 at *
  clear hfin
  have hpane := h.pane
  clear h
  unfold curV
  go_enter Tryz.func17, Tryz.ntmps17
  go_wp2_with fail
  go_region
  go_wp2_with fail
  go_ret
  go_light
  have hk : Kept (· = p) w _ := (((((Kept.refl (· = p) w).set (.inl rfl) 14 (.int .i64 a0)).set (.inl rfl) 15 (.int .i64 a1)).set (.inl rfl) 16 (.int .i64 a2)).set (.inl rfl) 17 (.int .i64 a3))
  have P := hpane.pput (st' := { st with wx := a0, wy := a1, ww := a2, wh := a3 }) (by refine Eq.trans (heap_set_same (heap_set_same (heap_set_same (heap_set_same hpane.pin.bp _ _) _ _) _ _) _ _) ?_; simp [pcells]) hk rfl rfl rfl rfl
  exact ⟨rfl, dB, shV, outV, (P.frame below1).drew, (hpane.low1 hk _).drew⟩

set_option maxRecDepth 100000 in
set_option maxHeartbeats 1000000 in
theorem does6 (h : DoesW base p dB qB shV outV st g cap a w) (hl : a.length = 1) :
    Calls Tryz.prog 17 #[.pointer (some ⟨p, 0, none⟩), .int .i64 6, curV s fr (.slice (some ⟨g, 0, none⟩) 1 cap)] w (DoesPost base p qB w (st.does 6 a)) := by
  have c0 := h.cell 0 (by omega)
  have hg := h.g0
  have cp := cell_of h.pane.pin.bp
  simp only [pcells] at cp
  have fp := frozen_of h.pane.pin.bp
  obtain ⟨lp, ld, lq⟩ := h.pane.pin.lt
  have hfin : st.does 6 a = ({ st with T := { st.T with faces := a.getD 0 0 } }, 0) := by unfold St.does; simp
  rw [hfin]
  generalize a.getD 0 0 = a0 at *
  clear hfin
  have hpane := h.pane
  clear h
  unfold curV
  go_enter Tryz.func17, Tryz.ntmps17
  go_wp2_with fail
  go_ret
  go_light
  have hk : Kept (· = p) w _ := ((Kept.refl (· = p) w).set (.inl rfl) 12 (.int .i64 a0))
  have P := hpane.pput (st' := { st with T := { st.T with faces := a0 } }) (by refine Eq.trans (heap_set_same hpane.pin.bp _ _) ?_; simp [pcells]) hk rfl rfl rfl rfl
  exact ⟨rfl, dB, shV, outV, (P.frame below1), (hpane.low1 hk _)⟩

set_option maxRecDepth 100000 in
set_option maxHeartbeats 1000000 in
theorem does7 (h : DoesW base p dB qB shV outV st g cap a w) (hl : a.length = 1) :
    Calls Tryz.prog 17 #[.pointer (some ⟨p, 0, none⟩), .int .i64 7, curV s fr (.slice (some ⟨g, 0, none⟩) 1 cap)] w (DoesPost base p qB w (st.does 7 a)) := by
  have c0 := h.cell 0 (by omega)
  have hg := h.g0
  have cp := cell_of h.pane.pin.bp
  simp only [pcells] at cp
  have fp := frozen_of h.pane.pin.bp
  obtain ⟨lp, ld, lq⟩ := h.pane.pin.lt
  have hfin : st.does 7 a = ({ st with T := { st.T with colours := a.getD 0 0 } }, 0) := by unfold St.does; simp
  rw [hfin]
  generalize a.getD 0 0 = a0 at *
  clear hfin
  have hpane := h.pane
  clear h
  unfold curV
  go_enter Tryz.func17, Tryz.ntmps17
  go_wp2_with fail
  go_ret
  go_light
  have hk : Kept (· = p) w _ := ((Kept.refl (· = p) w).set (.inl rfl) 13 (.int .i64 a0))
  have P := hpane.pput (st' := { st with T := { st.T with colours := a0 } }) (by refine Eq.trans (heap_set_same hpane.pin.bp _ _) ?_; simp [pcells]) hk rfl rfl rfl rfl
  exact ⟨rfl, dB, shV, outV, (P.frame below1), (hpane.low1 hk _)⟩

set_option maxRecDepth 100000 in
set_option maxHeartbeats 1000000 in
theorem does12 (h : DoesW base p dB qB shV outV st g cap a w) (n : Nat) :
    Calls Tryz.prog 17 #[.pointer (some ⟨p, 0, none⟩), .int .i64 12, curV s fr (.slice (some ⟨g, 0, none⟩) n cap)] w (DoesPost base p qB w (st.does 12 a)) := by
  have hfin : st.does 12 a = (st, 0) := by unfold St.does; simp
  rw [hfin]
  have hpane := h.pane
  clear h hfin
  unfold curV
  go_enter Tryz.func17, Tryz.ntmps17
  go_wp2_with fail
  go_ret
  go_light
  exact ⟨rfl, dB, shV, outV, hpane.frame below1, hpane.low1 (Kept.refl _ _) _⟩

set_option maxRecDepth 100000 in
set_option maxHeartbeats 1000000 in
theorem does2 (h : DoesW base p dB qB shV outV st g cap a w) (hl : a.length = 7) (hn : st.dots.length ≤ 576) (hgd : g ≠ dB) :
    Calls Tryz.prog 17 #[.pointer (some ⟨p, 0, none⟩), .int .i64 2, curV s fr (.slice (some ⟨g, 0, none⟩) 7 cap)] w (DoesPost base p qB w (st.does 2 a)) := by
  have hfin : st.does 2 a = (st.clear a, 0) := by unfold St.does; simp
  rw [hfin]
  have hpane := h.pane
  have hg := h.g0
  have hcell := h.cell
  have hb := h.byte
  clear h hfin
  have HC : Hid (∀ j, j < a.length → w.cell? ⟨g, j, none⟩ = some (.int .i64 (a.getD j 0))) := hcell
  clear hcell
  unfold curV
  go_enter Tryz.func17, Tryz.ntmps17
  go_wp2_with fail
  refine (clear_in p dB qB shV outV st g cap a _ (hpane.frame below1).pin hn (by simp; omega) hgd (fun j hj => ?_) hl hb).mono ?_
  · rw [World.cell?_alloc_past _ _ _ hg]; exact HC.out j hj
  rintro e w1 ⟨rfl, hp1, hk1⟩
  have P := (hpane.frame below1).step hp1 rfl (hk1.mono (fun k hk => Or.inr (Or.inl hk)))
  have hB := (hpane.low1 (Kept.refl _ _) _).trans ((hpane.frame below1).low (hk1.mono (fun k hk => Or.inr (Or.inl hk))))
  clear hk1 hp1
  go_wp2_with fail
  go_ret
  go_light
  exact ⟨rfl, dB, shV, outV, P, hB⟩

set_option maxRecDepth 100000 in
set_option maxHeartbeats 1000000 in
theorem does13 (h : DoesW base p dB qB shV outV st g cap a w) (hl : a.length = 3) (hW1 : st.W ≤ 24) (hH1 : st.H ≤ 24) (hdl : (st.dots.length : Int) = st.W * st.H)
    (hk0 : 1 ≤ a.getD 0 0) (hk1 : a.getD 0 0 ≤ 3) (hx1 : a.getD 1 0 < st.W) (hy1 : a.getD 2 0 < st.H) (hlen : st.out.length ≤ 1000000000000) :
    Calls Tryz.prog 17 #[.pointer (some ⟨p, 0, none⟩), .int .i64 13, curV s fr (.slice (some ⟨g, 0, none⟩) 3 cap)] w (DoesPost base p qB w (st.does 13 a)) := by
  have hfin : st.does 13 a = (st.pixel (a.getD 0 0) (a.getD 1 0) (a.getD 2 0), 0) := by unfold St.does; simp
  rw [hfin]
  have hpane := h.pane
  have hg := h.g0
  have b1 := (h.byte.at 1).1
  have b2 := (h.byte.at 2).1
  have c0 := h.cell 0 (by omega)
  have c1 := h.cell 1 (by omega)
  have c2 := h.cell 2 (by omega)
  clear h hfin
  generalize a.getD 0 0 = a0 at *
  generalize a.getD 1 0 = a1 at *
  generalize a.getD 2 0 = a2 at *
  unfold curV
  go_enter Tryz.func17, Tryz.ntmps17
  go_wp2_with fail
  refine (pixel_in base p dB qB shV outV st g cap a0 a1 a2 _ (hpane.frame below1) hW1 hH1 hdl (by rw [World.cell?_alloc_past _ _ _ hg]; exact c0) (by rw [World.cell?_alloc_past _ _ _ hg]; exact c1) (by rw [World.cell?_alloc_past _ _ _ hg]; exact c2) (by simp; omega) hk0 hk1 b1 hx1 b2 hy1 hlen).mono ?_
  rintro e w1 ⟨rfl, v', hp1, hk1⟩
  have hB := (hpane.low1 (Kept.refl _ _) _).trans ((hpane.frame below1).low hk1)
  clear hk1
  go_wp2_with fail
  go_ret
  go_light
  exact ⟨rfl, dB, shV, v', hp1, hB⟩

set_option maxRecDepth 100000 in
set_option maxHeartbeats 1000000 in
theorem does10 (h : DoesW base p dB qB shV outV st g cap a w) (hl : a.length = 1) (kind : Int) (hkind : kind = 10 ∨ kind = 11 ∨ kind = 14) (hq : st.qs.length = 4) (hn : a.getD 0 0 < 4) (hlen : st.out.length ≤ 1000000000000) :
    Calls Tryz.prog 17 #[.pointer (some ⟨p, 0, none⟩), .int .i64 kind, curV s fr (.slice (some ⟨g, 0, none⟩) 1 cap)] w (DoesPost base p qB w (st.does kind a)) := by
  have hfin : st.does kind a = st.query kind (a.getD 0 0) := by
    unfold St.does
    rcases hkind with rfl | rfl | rfl <;> simp
  rw [hfin]
  have hpane := h.pane
  have hg := h.g0
  have b0 := (h.byte.at 0).1
  have c0 := h.cell 0 (by omega)
  clear h hfin
  generalize a.getD 0 0 = a0 at *
  obtain ⟨n, rfl⟩ := Int.eq_ofNat_of_zero_le b0
  unfold curV
  rcases hkind with rfl | rfl | rfl
  all_goals
    go_enter Tryz.func17, Tryz.ntmps17
    go_wp2_with fail
    refine (query_in base p dB qB shV outV st _ n _ (hpane.frame below1) hq (by omega) hlen).mono ?_
    rintro e w1 ⟨rfl, v', hp1, hk1⟩
    have hB := (hpane.low1 (Kept.refl _ _) _).trans ((hpane.frame below1).low hk1)
    clear hk1
    go_wp2_with fail
    go_ret
    go_light
    exact ⟨rfl, dB, shV, v', hp1, hB⟩
end

end Go.Proofs.YtifloehpdkfchaaGreatDoor

namespace Go.Proofs.YtifloehpdkfchaaGreatDoor
open Go.RowKit
section
variable (base p dB qB : Nat) (shV outV : Value) (st : St) (s : ByteArray) (fr : Int) (g cap : Nat) (a : List Int) (w : World)

theorem size_in (W H : Int) (h : PaneO base w p dB qB shV outV st) (hW0 : 1 ≤ W) (hW1 : W ≤ 24) (hH0 : 1 ≤ H) (hH1 : H ≤ 24) :
    Calls Tryz.prog 24 #[.pointer (some ⟨p, 0, none⟩), .int .i64 W, .int .i64 H] w fun e w' =>
      e = .returned (.tuple #[]) ∧ PaneO base w' p w.heap.size qB shV outV (st.resize W H) ∧ Below base w w' := by
  have hbp := h.pin.bp
  unfold pcells at hbp
  obtain ⟨l1, l2, l3⟩ := h.pin.lt
  refine (size_any p _ _ _ _ _ _ _ _ _ _ _ _ _ _ _ _ _ _ _ _ _ _ W H w hbp hW0 hW1 hH0 hH1).mono ?_
  rintro e w' ⟨rfl, hp, hd, hk⟩
  have hb0 := h.bp0
  refine ⟨rfl, ⟨⟨?_, hd, ?_, ?_, ?_, ?_, ?_⟩, ?_, ?_, h.bp0, ?_, h.bq0⟩, h.low (hk.mono (fun k hk => Or.inl hk))⟩
  · rw [hp]
    simp [pcells, St.resize]
  · rw [hk.block qB l3 (fun x => h.pin.pq x.symm)]; exact h.pin.bq
  · rcases h.pin.sh with h1 | ⟨s, so, cap, hv, hc, hs, hn, hcell⟩
    · exact .inl h1
    · refine .inr ⟨s, so, cap, hv, hc, Nat.lt_of_lt_of_le hs hk.size, ?_, fun j hj => ?_⟩
      · rintro (e | e | e)
        · exact hn (.inl e)
        · omega
        · exact hn (.inr (.inr e))
      · rw [World.cell?_of_block (w := w) (a := ⟨s, so + j, none⟩) (hk.block s hs (fun e => hn (.inl e)))]
        exact hcell j hj
  · omega
  · exact h.pin.pq
  · omega
  · obtain ⟨o1, o2⟩ := h.out
    refine ⟨o1, ?_⟩
    rcases o2 with o2 | ⟨g, cap, cur, hv, hge, hh, r⟩
    · exact .inl o2
    · refine .inr ⟨g, cap, cur, hv, hge, ?_, r⟩
      rw [hk.block g (lt_of_heap hh) (h.ob g (by rw [hv]; rfl)).1]
      exact hh
  · intro k hk'
    obtain ⟨c, f, h1⟩ := h.sb k hk'
    refine ⟨c, f, ?_⟩
    rw [hk.block k (lt_of_heap h1)]
    · exact h1
    · rintro rfl; rw [h.pin.bp] at h1; simp at h1
  · omega

set_option maxRecDepth 100000 in
set_option maxHeartbeats 1000000 in
theorem does1 (h : DoesW base p dB qB shV outV st g cap a w) (hl : a.length = 2) (hW0 : 1 ≤ a.getD 0 0) (hW1 : a.getD 0 0 ≤ 24) (hH0 : 1 ≤ a.getD 1 0) (hH1 : a.getD 1 0 ≤ 24) :
    Calls Tryz.prog 17 #[.pointer (some ⟨p, 0, none⟩), .int .i64 1, curV s fr (.slice (some ⟨g, 0, none⟩) 2 cap)] w (DoesPost base p qB w (st.does 1 a)) := by
  have hfin : st.does 1 a = (st.resize (a.getD 0 0) (a.getD 1 0), 0) := by unfold St.does; simp
  rw [hfin]
  have hpane := h.pane
  have hg := h.g0
  have c0 := h.cell 0 (by omega)
  have c1 := h.cell 1 (by omega)
  clear h hfin
  generalize a.getD 0 0 = a0 at *
  generalize a.getD 1 0 = a1 at *
  unfold curV
  go_enter Tryz.func17, Tryz.ntmps17
  go_wp2_with fail
  go_region_with (go_at_call 24; refine (size_in base p dB qB shV outV st _ a0 a1 ((hpane.frame below1).drew) hW0 hW1 hH0 hH1).mono ?_; rintro e w1 ⟨rfl, hp1, hb1⟩)
  all_goals
    have hB := (hpane.low1 (Kept.refl _ _) _).drew.trans hb1
    clear hb1
    go_wp2_with fail
    go_ret
    go_light
    exact ⟨rfl, _, shV, outV, hp1, hB⟩
end
end Go.Proofs.YtifloehpdkfchaaGreatDoor

namespace Go.Proofs.YtifloehpdkfchaaGreatDoor

end Go.Proofs.YtifloehpdkfchaaGreatDoor
