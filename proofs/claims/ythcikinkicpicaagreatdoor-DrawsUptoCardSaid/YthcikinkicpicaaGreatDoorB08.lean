import Derived.Test.YthcikinkicpicaaGreatDoorB05
import Derived.Test.YthcikinkicpicaaGreatDoorB06
import Derived.Test.YthcikinkicpicaaGreatDoorB04
import Derived.Deep.RegionHeld

namespace Go.Proofs.YthcikinkicpicaaGreatDoor
open Go.RowKit

section
variable {base : Nat} {w w' : World} {p dB qB : Nat} {shV outV : Value} {st st' : St}

/-- The pane's own cells turn, and nothing else. -/
theorem PaneO.pput (h : PaneO base w p dB qB shV outV st) (hp : w'.heap[p]? = some (.cells (pcells st' dB qB shV outV) 38 (0, 0))) (hk : Kept (· = p) w w')
    (e1 : st'.dots = st.dots) (e2 : st'.qs = st.qs) (e3 : st'.sh = st.sh) (e4 : st'.out = st.out) : PaneO base w' p dB qB shV outV st' := by
  obtain ⟨l1, l2, l3⟩ := h.pin.lt
  have hk' : Kept (fun k => k = p ∨ k = dB ∨ k = qB) w w' := hk.mono (fun k hk => Or.inl hk)
  refine h.step ⟨hp, ?_, ?_, ?_, h.pin.pd, h.pin.pq, h.pin.dq⟩ e4 hk'
  · rw [hk.block dB l2 (fun x => h.pin.pd x.symm), e1]; exact h.pin.bd
  · rw [hk.block qB l3 (fun x => h.pin.pq x.symm), e2]; exact h.pin.bq
  · rw [e3]; exact h.pin.sh.kept hk (fun k hk => .inl hk)
theorem PaneO.drew (h : PaneO base w p dB qB shV outV st) : PaneO base w.drew p dB qB shV outV st := ⟨h.pin.drew, h.out, h.sb, h.bp0, h.bd0, h.bq0⟩
theorem PaneO.drewN (h : PaneO base w p dB qB shV outV st) (n : Nat) : PaneO base (w.drewN n) p dB qB shV outV st := ⟨h.pin.drewN n, h.out, h.sb, h.bp0, h.bd0, h.bq0⟩

theorem PaneO.low1 (h : PaneO base w p dB qB shV outV st) (hk : Kept (· = p) w w') (o : Obj) : Below base w (w'.alloc o) :=
  (h.low (hk.mono (fun k hk => Or.inl hk))).alloc (by have := h.bp0; have := h.pin.lt; have := hk.size; omega) o
end

/-- What a command's walk leaves. -/
def DoesPost (base p qB : Nat) (w : World) (r : St × Int) (e : Ending) (w' : World) : Prop :=
  e = .returned (.int .i64 r.2) ∧ ∃ dB' shV' outV', PaneO base w' p dB' qB shV' outV' r.1 ∧ Below base w w'

section
variable (base p dB qB : Nat) (shV outV : Value) (st : St) (s : ByteArray) (fr : Int) (g cap : Nat) (a : List Int) (w : World)

/-- What does needs of the world: the pane, and the command's numbers. -/
structure DoesW : Prop where
  pane : PaneO base w p dB qB shV outV st
  g0 : g < w.heap.size
  cell : ∀ j, j < a.length → w.cell? ⟨g, j, none⟩ = some (.int .i64 (a.getD j 0))
  byte : bytesOk a
  len : a.length ≤ 1100
  cap : a.length ≤ cap

set_option maxRecDepth 100000 in
set_option maxHeartbeats 1000000 in
theorem does3 (h : DoesW base p dB qB shV outV st g cap a w) (hl : a.length = 2) :
    Calls Tryz.prog 30 #[.pointer (some ⟨p, 0, none⟩), .int .i64 3, curV s fr (.slice (some ⟨g, 0, none⟩) 2 cap)] w (DoesPost base p qB w (st.does 3 a)) := by
  have c0 := h.cell 0 (by omega)
  have c1 := h.cell 1 (by omega)
  have hg := h.g0
  have cp := cell_of h.pane.pin.bp
  simp only [pcells] at cp
  have fp := frozen_of h.pane.pin.bp
  obtain ⟨lp, ld, lq⟩ := h.pane.pin.lt
  have hfin : st.does 3 a = ({ st with T := { st.T with depth := a.getD 0 0, write := a.getD 1 0 } }, 0) := by unfold St.does; simp
  rw [hfin]
  generalize a.getD 0 0 = a0 at *
  generalize a.getD 1 0 = a1 at *
  clear hfin
  have hpane := h.pane
  clear h
  unfold curV
  go_enter Tryz.func30, Tryz.ntmps30
  go_wp2_with fail
  go_ret
  go_light
  have hk : Kept (· = p) w _ := (((Kept.refl (· = p) w).set (.inl rfl) 3 (.int .i64 a0)).set (.inl rfl) 4 (.int .i64 a1))
  have P := hpane.pput (st' := { st with T := { st.T with depth := a0, write := a1 } }) (by refine Eq.trans (heap_set_same (heap_set_same hpane.pin.bp _ _) _ _) ?_; simp [pcells]) hk rfl rfl rfl rfl
  exact ⟨rfl, dB, shV, outV, (P.frame below1), (hpane.low1 hk _)⟩

set_option maxRecDepth 100000 in
set_option maxHeartbeats 1000000 in
theorem does5 (h : DoesW base p dB qB shV outV st g cap a w) (hl : a.length = 4) :
    Calls Tryz.prog 30 #[.pointer (some ⟨p, 0, none⟩), .int .i64 5, curV s fr (.slice (some ⟨g, 0, none⟩) 4 cap)] w (DoesPost base p qB w (st.does 5 a)) := by
  have c0 := h.cell 0 (by omega)
  have c1 := h.cell 1 (by omega)
  have c2 := h.cell 2 (by omega)
  have c3 := h.cell 3 (by omega)
  have hg := h.g0
  have cp := cell_of h.pane.pin.bp
  simp only [pcells] at cp
  have fp := frozen_of h.pane.pin.bp
  obtain ⟨lp, ld, lq⟩ := h.pane.pin.lt
  have hfin : st.does 5 a = ({ st with wx := a.getD 0 0, wy := a.getD 1 0, ww := a.getD 2 0, wh := a.getD 3 0 }, 0) := by unfold St.does; simp
  rw [hfin]
  generalize a.getD 0 0 = a0 at *
  generalize a.getD 1 0 = a1 at *
  generalize a.getD 2 0 = a2 at *
  generalize a.getD 3 0 = a3 at *
  clear hfin
  have hpane := h.pane
  clear h
  unfold curV
  go_enter Tryz.func30, Tryz.ntmps30
  go_wp2_with fail
  go_region
  go_wp2_with fail
  go_ret
  go_light
  have hk : Kept (· = p) w _ := (((((Kept.refl (· = p) w).set (.inl rfl) 14 (.int .i64 a0)).set (.inl rfl) 15 (.int .i64 a1)).set (.inl rfl) 16 (.int .i64 a2)).set (.inl rfl) 17 (.int .i64 a3))
  have P := hpane.pput (st' := { st with wx := a0, wy := a1, ww := a2, wh := a3 }) (by refine Eq.trans (heap_set_same (heap_set_same (heap_set_same (heap_set_same hpane.pin.bp _ _) _ _) _ _) _ _) ?_; simp [pcells]) hk rfl rfl rfl rfl
  exact ⟨rfl, dB, shV, outV, (P.frame below1).drew, (hpane.low1 hk _).drew⟩

set_option maxRecDepth 100000 in
set_option maxHeartbeats 1000000 in
theorem does6 (h : DoesW base p dB qB shV outV st g cap a w) (hl : a.length = 1) :
    Calls Tryz.prog 30 #[.pointer (some ⟨p, 0, none⟩), .int .i64 6, curV s fr (.slice (some ⟨g, 0, none⟩) 1 cap)] w (DoesPost base p qB w (st.does 6 a)) := by
  have c0 := h.cell 0 (by omega)
  have hg := h.g0
  have cp := cell_of h.pane.pin.bp
  simp only [pcells] at cp
  have fp := frozen_of h.pane.pin.bp
  obtain ⟨lp, ld, lq⟩ := h.pane.pin.lt
  have hfin : st.does 6 a = ({ st with T := { st.T with faces := a.getD 0 0 } }, 0) := by unfold St.does; simp
  rw [hfin]
  generalize a.getD 0 0 = a0 at *
  clear hfin
  have hpane := h.pane
  clear h
  unfold curV
  go_enter Tryz.func30, Tryz.ntmps30
  go_wp2_with fail
  go_ret
  go_light
  have hk : Kept (· = p) w _ := ((Kept.refl (· = p) w).set (.inl rfl) 12 (.int .i64 a0))
  have P := hpane.pput (st' := { st with T := { st.T with faces := a0 } }) (by refine Eq.trans (heap_set_same hpane.pin.bp _ _) ?_; simp [pcells]) hk rfl rfl rfl rfl
  exact ⟨rfl, dB, shV, outV, (P.frame below1), (hpane.low1 hk _)⟩

set_option maxRecDepth 100000 in
set_option maxHeartbeats 1000000 in
theorem does7 (h : DoesW base p dB qB shV outV st g cap a w) (hl : a.length = 1) :
    Calls Tryz.prog 30 #[.pointer (some ⟨p, 0, none⟩), .int .i64 7, curV s fr (.slice (some ⟨g, 0, none⟩) 1 cap)] w (DoesPost base p qB w (st.does 7 a)) := by
  have c0 := h.cell 0 (by omega)
  have hg := h.g0
  have cp := cell_of h.pane.pin.bp
  simp only [pcells] at cp
  have fp := frozen_of h.pane.pin.bp
  obtain ⟨lp, ld, lq⟩ := h.pane.pin.lt
  have hfin : st.does 7 a = ({ st with T := { st.T with colours := a.getD 0 0 } }, 0) := by unfold St.does; simp
  rw [hfin]
  generalize a.getD 0 0 = a0 at *
  clear hfin
  have hpane := h.pane
  clear h
  unfold curV
  go_enter Tryz.func30, Tryz.ntmps30
  go_wp2_with fail
  go_ret
  go_light
  have hk : Kept (· = p) w _ := ((Kept.refl (· = p) w).set (.inl rfl) 13 (.int .i64 a0))
  have P := hpane.pput (st' := { st with T := { st.T with colours := a0 } }) (by refine Eq.trans (heap_set_same hpane.pin.bp _ _) ?_; simp [pcells]) hk rfl rfl rfl rfl
  exact ⟨rfl, dB, shV, outV, (P.frame below1), (hpane.low1 hk _)⟩

set_option maxRecDepth 100000 in
set_option maxHeartbeats 1000000 in
theorem does12 (h : DoesW base p dB qB shV outV st g cap a w) (n : Nat) :
    Calls Tryz.prog 30 #[.pointer (some ⟨p, 0, none⟩), .int .i64 12, curV s fr (.slice (some ⟨g, 0, none⟩) n cap)] w (DoesPost base p qB w (st.does 12 a)) := by
  have hfin : st.does 12 a = (st, 0) := by unfold St.does; simp
  rw [hfin]
  have hpane := h.pane
  clear h hfin
  unfold curV
  go_enter Tryz.func30, Tryz.ntmps30
  go_wp2_with fail
  go_ret
  go_light
  exact ⟨rfl, dB, shV, outV, hpane.frame below1, hpane.low1 (Kept.refl _ _) _⟩

set_option maxRecDepth 100000 in
set_option maxHeartbeats 1000000 in
theorem does2 (h : DoesW base p dB qB shV outV st g cap a w) (hl : a.length = 7) (hn : st.dots.length ≤ 576) (hgd : g ≠ dB) :
    Calls Tryz.prog 30 #[.pointer (some ⟨p, 0, none⟩), .int .i64 2, curV s fr (.slice (some ⟨g, 0, none⟩) 7 cap)] w (DoesPost base p qB w (st.does 2 a)) := by
  have hfin : st.does 2 a = (st.clear a, 0) := by unfold St.does; simp
  rw [hfin]
  have hpane := h.pane
  have hg := h.g0
  have hcell := h.cell
  have hb := h.byte
  clear h hfin
  have HC : Hid (∀ j, j < a.length → w.cell? ⟨g, j, none⟩ = some (.int .i64 (a.getD j 0))) := hcell
  clear hcell
  unfold curV
  go_enter Tryz.func30, Tryz.ntmps30
  go_wp2_with fail
  refine (clear_in p dB qB shV outV st g cap a _ (hpane.frame below1).pin hn (by simp; omega) hgd (fun j hj => ?_) hl hb).mono ?_
  · rw [World.cell?_alloc_past _ _ _ hg]; exact HC.out j hj
  rintro e w1 ⟨rfl, hp1, hk1⟩
  have P := (hpane.frame below1).step hp1 rfl (hk1.mono (fun k hk => Or.inr (Or.inl hk)))
  have hB := (hpane.low1 (Kept.refl _ _) _).trans ((hpane.frame below1).low (hk1.mono (fun k hk => Or.inr (Or.inl hk))))
  clear hk1 hp1
  go_wp2_with fail
  go_ret
  go_light
  exact ⟨rfl, dB, shV, outV, P, hB⟩

set_option maxRecDepth 100000 in
set_option maxHeartbeats 1000000 in
theorem does13 (h : DoesW base p dB qB shV outV st g cap a w) (hl : a.length = 3) (hW1 : st.W ≤ 24) (hH1 : st.H ≤ 24) (hdl : (st.dots.length : Int) = st.W * st.H)
    (hk0 : 1 ≤ a.getD 0 0) (hk1 : a.getD 0 0 ≤ 3) (hx1 : a.getD 1 0 < st.W) (hy1 : a.getD 2 0 < st.H) (hlen : st.out.length ≤ 1000000000000) :
    Calls Tryz.prog 30 #[.pointer (some ⟨p, 0, none⟩), .int .i64 13, curV s fr (.slice (some ⟨g, 0, none⟩) 3 cap)] w (DoesPost base p qB w (st.does 13 a)) := by
  have hfin : st.does 13 a = (st.pixel (a.getD 0 0) (a.getD 1 0) (a.getD 2 0), 0) := by unfold St.does; simp
  rw [hfin]
  have hpane := h.pane
  have hg := h.g0
  have b1 := (h.byte.at 1).1
  have b2 := (h.byte.at 2).1
  have c0 := h.cell 0 (by omega)
  have c1 := h.cell 1 (by omega)
  have c2 := h.cell 2 (by omega)
  clear h hfin
  generalize a.getD 0 0 = a0 at *
  generalize a.getD 1 0 = a1 at *
  generalize a.getD 2 0 = a2 at *
  unfold curV
  go_enter Tryz.func30, Tryz.ntmps30
  go_wp2_with fail
  refine (pixel_in base p dB qB shV outV st g cap a0 a1 a2 _ (hpane.frame below1) hW1 hH1 hdl (by rw [World.cell?_alloc_past _ _ _ hg]; exact c0) (by rw [World.cell?_alloc_past _ _ _ hg]; exact c1) (by rw [World.cell?_alloc_past _ _ _ hg]; exact c2) (by simp; omega) hk0 hk1 b1 hx1 b2 hy1 hlen).mono ?_
  rintro e w1 ⟨rfl, v', hp1, hk1⟩
  have hB := (hpane.low1 (Kept.refl _ _) _).trans ((hpane.frame below1).low hk1)
  clear hk1
  go_wp2_with fail
  go_ret
  go_light
  exact ⟨rfl, dB, shV, v', hp1, hB⟩

set_option maxRecDepth 100000 in
set_option maxHeartbeats 1000000 in
theorem does10 (h : DoesW base p dB qB shV outV st g cap a w) (hl : a.length = 1) (kind : Int) (hkind : kind = 10 ∨ kind = 11 ∨ kind = 14) (hq : st.qs.length = 4) (hn : a.getD 0 0 < 4) (hlen : st.out.length ≤ 1000000000000) :
    Calls Tryz.prog 30 #[.pointer (some ⟨p, 0, none⟩), .int .i64 kind, curV s fr (.slice (some ⟨g, 0, none⟩) 1 cap)] w (DoesPost base p qB w (st.does kind a)) := by
  have hfin : st.does kind a = st.query kind (a.getD 0 0) := by
    unfold St.does
    rcases hkind with rfl | rfl | rfl <;> simp
  rw [hfin]
  have hpane := h.pane
  have hg := h.g0
  have b0 := (h.byte.at 0).1
  have c0 := h.cell 0 (by omega)
  clear h hfin
  generalize a.getD 0 0 = a0 at *
  obtain ⟨n, rfl⟩ := Int.eq_ofNat_of_zero_le b0
  unfold curV
  rcases hkind with rfl | rfl | rfl
  all_goals
    go_enter Tryz.func30, Tryz.ntmps30
    go_wp2_with fail
    refine (query_in base p dB qB shV outV st _ n _ (hpane.frame below1) hq (by omega) hlen).mono ?_
    rintro e w1 ⟨rfl, v', hp1, hk1⟩
    have hB := (hpane.low1 (Kept.refl _ _) _).trans ((hpane.frame below1).low hk1)
    clear hk1
    go_wp2_with fail
    go_ret
    go_light
    exact ⟨rfl, dB, shV, v', hp1, hB⟩
end

end Go.Proofs.YthcikinkicpicaaGreatDoor

namespace Go.Proofs.YthcikinkicpicaaGreatDoor
open Go.RowKit
section
variable (base p dB qB : Nat) (shV outV : Value) (st : St) (s : ByteArray) (fr : Int) (g cap : Nat) (a : List Int) (w : World)

theorem size_in (W H : Int) (h : PaneO base w p dB qB shV outV st) (hW0 : 1 ≤ W) (hW1 : W ≤ 24) (hH0 : 1 ≤ H) (hH1 : H ≤ 24) :
    Calls Tryz.prog 39 #[.pointer (some ⟨p, 0, none⟩), .int .i64 W, .int .i64 H] w fun e w' =>
      e = .returned (.tuple #[]) ∧ PaneO base w' p w.heap.size qB shV outV (st.resize W H) ∧ Below base w w' := by
  have hbp := h.pin.bp
  unfold pcells at hbp
  obtain ⟨l1, l2, l3⟩ := h.pin.lt
  refine (size_any p _ _ _ _ _ _ _ _ _ _ _ _ _ _ _ _ _ _ _ _ _ _ W H w hbp hW0 hW1 hH0 hH1).mono ?_
  rintro e w' ⟨rfl, hp, hd, hk⟩
  have hb0 := h.bp0
  refine ⟨rfl, ⟨⟨?_, hd, ?_, ?_, ?_, ?_, ?_⟩, ?_, ?_, h.bp0, ?_, h.bq0⟩, h.low (hk.mono (fun k hk => Or.inl hk))⟩
  · rw [hp]
    simp [pcells, St.resize]
  · rw [hk.block qB l3 (fun x => h.pin.pq x.symm)]; exact h.pin.bq
  · rcases h.pin.sh with h1 | ⟨s, so, cap, hv, hc, hs, hn, hcell⟩
    · exact .inl h1
    · refine .inr ⟨s, so, cap, hv, hc, Nat.lt_of_lt_of_le hs hk.size, ?_, fun j hj => ?_⟩
      · rintro (e | e | e)
        · exact hn (.inl e)
        · omega
        · exact hn (.inr (.inr e))
      · rw [World.cell?_of_block (w := w) (a := ⟨s, so + j, none⟩) (hk.block s hs (fun e => hn (.inl e)))]
        exact hcell j hj
  · omega
  · exact h.pin.pq
  · omega
  · obtain ⟨o1, o2⟩ := h.out
    refine ⟨o1, ?_⟩
    rcases o2 with o2 | ⟨g, cap, cur, hv, hge, hh, r⟩
    · exact .inl o2
    · refine .inr ⟨g, cap, cur, hv, hge, ?_, r⟩
      rw [hk.block g (lt_of_heap hh) (h.ob g (by rw [hv]; rfl)).1]
      exact hh
  · intro k hk'
    obtain ⟨c, f, h1⟩ := h.sb k hk'
    refine ⟨c, f, ?_⟩
    rw [hk.block k (lt_of_heap h1)]
    · exact h1
    · rintro rfl; rw [h.pin.bp] at h1; simp at h1
  · omega

set_option maxRecDepth 100000 in
set_option maxHeartbeats 1000000 in
theorem does1 (h : DoesW base p dB qB shV outV st g cap a w) (hl : a.length = 2) (hW0 : 1 ≤ a.getD 0 0) (hW1 : a.getD 0 0 ≤ 24) (hH0 : 1 ≤ a.getD 1 0) (hH1 : a.getD 1 0 ≤ 24) :
    Calls Tryz.prog 30 #[.pointer (some ⟨p, 0, none⟩), .int .i64 1, curV s fr (.slice (some ⟨g, 0, none⟩) 2 cap)] w (DoesPost base p qB w (st.does 1 a)) := by
  have hfin : st.does 1 a = (st.resize (a.getD 0 0) (a.getD 1 0), 0) := by unfold St.does; simp
  rw [hfin]
  have hpane := h.pane
  have hg := h.g0
  have c0 := h.cell 0 (by omega)
  have c1 := h.cell 1 (by omega)
  clear h hfin
  generalize a.getD 0 0 = a0 at *
  generalize a.getD 1 0 = a1 at *
  unfold curV
  go_enter Tryz.func30, Tryz.ntmps30
  go_wp2_with fail
  go_region_with (go_at_call 39; refine (size_in base p dB qB shV outV st _ a0 a1 ((hpane.frame below1).drew) hW0 hW1 hH0 hH1).mono ?_; rintro e w1 ⟨rfl, hp1, hb1⟩)
  all_goals
    have hB := (hpane.low1 (Kept.refl _ _) _).drew.trans hb1
    clear hb1
    go_wp2_with fail
    go_ret
    go_light
    exact ⟨rfl, _, shV, outV, hp1, hB⟩
end
end Go.Proofs.YthcikinkicpicaaGreatDoor

namespace Go.Proofs.YthcikinkicpicaaGreatDoor

end Go.Proofs.YthcikinkicpicaaGreatDoor

namespace Go.Proofs.YthcikinkicpicaaGreatDoor
open Go.RowKit
theorem PaneO.shade {base : Nat} {w : World} {p dB qB : Nat} {shV outV : Value} {st : St} (h : PaneO base w p dB qB shV outV st) (g so cap : Nat) (l : List Int)
    (hg : g < w.heap.size) (hgp : g ≠ p) (hgd : g ≠ dB) (hgq : g ≠ qB) (ht : ∃ c f, w.heap[g]? = some (.cells c 3 f)) (hcap : l.length ≤ cap) (hcell : ∀ j, j < l.length → w.cell? ⟨g, so + j, none⟩ = some (.int .i64 (l.getD j 0))) :
    PaneO base (w.setCell ⟨p, 18, none⟩ (.slice (some ⟨g, so, none⟩) l.length cap)) p dB qB (.slice (some ⟨g, so, none⟩) l.length cap) outV { st with sh := l } := by
  have hk : Kept (· = p) w (w.setCell ⟨p, 18, none⟩ (.slice (some ⟨g, so, none⟩) l.length cap)) := (Kept.refl (· = p) w).set (.inl rfl) _ _
  obtain ⟨l1, l2, l3⟩ := h.pin.lt
  refine ⟨⟨?_, ?_, ?_, .inr ⟨g, so, cap, rfl, hcap, by rw [size_setCell']; exact hg, ?_, fun j hj => ?_⟩, h.pin.pd, h.pin.pq, h.pin.dq⟩, ?_, ?_, h.bp0, h.bd0, h.bq0⟩
  · rw [heap_set_same h.pin.bp]; simp [pcells]
  · rw [hk.block dB l2 (fun x => h.pin.pd x.symm)]; exact h.pin.bd
  · rw [hk.block qB l3 (fun x => h.pin.pq x.symm)]; exact h.pin.bq
  · rintro (e | e | e)
    · exact hgp e
    · exact hgd e
    · exact hgq e
  · rw [World.cell?_of_block (w := w) (a := ⟨g, so + j, none⟩) (hk.block g hg hgp)]; exact hcell j hj
  · obtain ⟨o1, o2⟩ := h.out
    refine ⟨o1, ?_⟩
    rcases o2 with o2 | ⟨g', cap', cur, hv, hge, hh, r⟩
    · exact .inl o2
    · refine .inr ⟨g', cap', cur, hv, hge, ?_, r⟩
      rw [hk.block g' (lt_of_heap hh) (h.ob g' (by rw [hv]; rfl)).1]
      exact hh
  · intro k hk'
    simp [Value.ownBlock] at hk'
    subst hk'
    rw [hk.block g hg hgp]; exact ht

theorem tail_getD (a : List Int) (j : Nat) : a.tail.getD j 0 = a.getD (j + 1) 0 := by
  cases a with
  | nil => simp
  | cons x l => simp

section
variable (base p dB qB : Nat) (shV outV : Value) (st : St) (s : ByteArray) (fr : Int) (g cap : Nat) (a : List Int) (w : World)

set_option maxRecDepth 100000 in
set_option maxHeartbeats 1000000 in
theorem does8 (h : DoesW base p dB qB shV outV st g cap a w) (n : Nat) (hl : a.length = n + 1) (hgp : g ≠ p) (hgd : g ≠ dB) (hgq : g ≠ qB) (ht : ∃ c f, w.heap[g]? = some (.cells c 3 f)) :
    Calls Tryz.prog 30 #[.pointer (some ⟨p, 0, none⟩), .int .i64 8, curV s fr (.slice (some ⟨g, 0, none⟩) (n + 1) cap)] w (DoesPost base p qB w (st.does 8 a)) := by
  have hfin : st.does 8 a = ({ st with sh := a.tail }, 0) := by unfold St.does; simp
  rw [hfin]
  have hpane := h.pane
  have hg := h.g0
  have hcell := h.cell
  have hlen := h.len
  have hcap := h.cap
  rw [hl] at hcap hlen
  clear h hfin
  have HC : Hid (∀ j, j < a.length → w.cell? ⟨g, j, none⟩ = some (.int .i64 (a.getD j 0))) := hcell
  have HL : Hid (a.length = n + 1) := hl
  clear hcell hl
  have cp := cell_of hpane.pin.bp
  simp only [pcells] at cp
  have fp := frozen_of hpane.pin.bp
  obtain ⟨lp, ld, lq⟩ := hpane.pin.lt
  have hn1 : (1 : Int) ≤ ((n + 1 : Nat) : Int) := by omega
  have hc1 : ((n + 1 : Nat) : Int) ≤ (cap : Int) := by omega
  unfold curV
  go_enter Tryz.func30, Tryz.ntmps30
  go_wp2_with fail
  · go_ret
    go_light
    have htl : a.tail.length = n := by rw [List.length_tail, HL.out]; rfl
    have hn0 : n = 0 := by omega
    have P := hpane.shade g 0 0 a.tail hg hgp hgd hgq ht (by omega) (fun j hj => by omega)
    rw [htl] at P
    exact ⟨rfl, dB, _, outV, P.frame below1, hpane.low1 ((Kept.refl (· = p) w).set (.inl rfl) _ _) _⟩
  · go_ret
    go_light
    have htl : a.tail.length = n := by rw [List.length_tail, HL.out]; rfl
    have P := hpane.shade g 1 (cap - 1) a.tail hg hgp hgd hgq ht (by omega) (fun j hj => by rw [tail_getD, Nat.add_comm 1 j]; exact HC.out (j + 1) (by have := HL.out; omega))
    rw [htl] at P
    exact ⟨rfl, dB, _, outV, P.frame below1, hpane.low1 ((Kept.refl (· = p) w).set (.inl rfl) _ _) _⟩

theorem tri_out (x y z : Cor) : (st.tri x y z).out = st.out ∧ (st.tri x y z).sh = st.sh := by
  have key : ∀ (a b c : Cor) (A : Int) (n : Nat) (y : Int) (st : St), (triY a b c A n y st).out = st.out ∧ (triY a b c A n y st).sh = st.sh := by
    intro a b c A n
    induction n with
    | zero => intro y st; exact ⟨rfl, rfl⟩
    | succ n ih =>
      intro y st
      rw [triY]
      have h1 := ih (y + 1) (triX a b c A y st.ww.toNat st.wx st)
      have h2 := triX_same a b c A y st.ww.toNat st.wx st
      exact ⟨h1.1.trans h2.2.2.2.2.2.2.2.2, h1.2.trans h2.2.2.2.2.2.2.2.1⟩
  unfold St.tri
  split
  · exact ⟨rfl, rfl⟩
  · split <;> exact key ..

theorem corner9 (hg : g < w.heap.size) (hcell : ∀ j, j < a.length → w.cell? ⟨g, j, none⟩ = some (.int .i64 (a.getD j 0))) (hby : bytesOk a) (hl : a.length = 27) (o : Obj) (i : Int) (n : Nat) (hn : i = n) (h18 : n ≤ 18) (x : Cor) (hx : cornerOf a n = x) {W : World}
    (hb : Below (w.alloc o).heap.size (w.alloc o) W) :
    Calls Tryz.prog 44 #[.agg #[.string s, .int .i64 fr, .slice (some ⟨g, 0, none⟩) 27 cap], .int .i64 i] W fun e w' => e = .returned x.v ∧ Below (w.alloc o).heap.size (w.alloc o) w' := by
  have hs := hb.size
  simp at hs
  have h1 := corner_any s fr g cap a i W (by omega) (by omega) (fun j hj => by
    rw [hb.cell (p := ⟨g, j, none⟩) (by simp; omega), World.cell?_alloc_past _ _ _ hg]; exact hcell j hj) (by omega) (by omega) hby
  rw [hl] at h1
  refine h1.mono ?_
  rintro e w' ⟨he, hb'⟩
  refine ⟨?_, hb.trans (hb'.mono hb.size)⟩
  rw [he, ← hx, hn]; rfl

theorem tri9 (hp : PaneO base w p dB qB shV outV st) (x y z : Cor) (hx : x.Ok) (hy : y.Ok) (hz : z.Ok) (K : Int) (hok : st.Ok K) (hK : K ≤ 3900000000000000000) (o : Obj) {W : World} (hb : Below (w.alloc o).heap.size (w.alloc o) W) :
    Calls Tryz.prog 43 #[.pointer (some ⟨p, 0, none⟩), x.v, y.v, z.v] W fun e w' =>
      e = .returned (.tuple #[]) ∧ PaneO base w' p dB qB shV outV (st.tri x y z) ∧ Below base w w' := by
  have h0 : Below w.heap.size w W := below1.trans (hb.mono (by simp))
  have hW := hp.frame h0
  refine (tri_in p dB qB shV outV st x y z W K hW.pin hok hK hx hy hz).mono ?_
  rintro e w' ⟨rfl, h1, hk⟩
  have hout := tri_out st x y z
  refine ⟨rfl, hW.step h1 hout.1 hk, ?_⟩
  have hlt := hp.pin.lt
  have hb0 := hp.bp0
  exact (h0.mono (by omega)).trans (hW.low (hk.mono (fun k hk => by rcases hk with h | h | h; exact Or.inl h; exact Or.inr (Or.inl h); exact Or.inr (Or.inr (Or.inl h)))))

set_option maxRecDepth 100000 in
set_option maxHeartbeats 4000000 in
theorem does9 (h : DoesW base p dB qB shV outV st g cap a w) (hl : a.length = 27) (K : Int) (hok : st.Ok K) (hK : K ≤ 3900000000000000000) :
    Calls Tryz.prog 30 #[.pointer (some ⟨p, 0, none⟩), .int .i64 9, curV s fr (.slice (some ⟨g, 0, none⟩) 27 cap)] w (DoesPost base p qB w (st.does 9 a)) := by
  have hfin : st.does 9 a = (st.tri (cornerOf a 0) (cornerOf a 9) (cornerOf a 18), 0) := by unfold St.does; simp
  rw [hfin]
  have hpane := h.pane
  have hg := h.g0
  have hcell := h.cell
  have hby := h.byte
  clear h hfin
  have HC : Hid (∀ j, j < a.length → w.cell? ⟨g, j, none⟩ = some (.int .i64 (a.getD j 0))) := hcell
  clear hcell
  have hout := tri_out st (cornerOf a 0) (cornerOf a 9) (cornerOf a 18)
  have k0 := cornerOf_ok a hby 0
  have k9 := cornerOf_ok a hby 9
  have k18 := cornerOf_ok a hby 18
  generalize hc0 : cornerOf a 0 = x0 at *
  generalize hc9 : cornerOf a 9 = x9 at *
  generalize hc18 : cornerOf a 18 = x18 at *
  clear hout
  have H0 : Hid (cornerOf a 0 = x0) := hc0
  have H9 : Hid (cornerOf a 9 = x9) := hc9
  have H18 : Hid (cornerOf a 18 = x18) := hc18
  clear hc0 hc9 hc18
  have hB0 : Below (w.alloc (.cells #[.string s, .int .i64 fr, .slice (some ⟨g, 0, none⟩) 27 cap] 48)).heap.size (w.alloc (.cells #[.string s, .int .i64 fr, .slice (some ⟨g, 0, none⟩) 27 cap] 48)) (w.alloc (.cells #[.string s, .int .i64 fr, .slice (some ⟨g, 0, none⟩) 27 cap] 48)).drew := (Below.refl _ _).drew
  unfold curV
  go_enter Tryz.func30, Tryz.ntmps30
  go_wp2_with fail
  go_region_with (first
    | (go_at_call_of 44 (Value.int IntKind.i64 0); refine (corner9 s fr g cap a w hg HC.out hby hl _ 0 0 rfl (by omega) x0 H0.out hB0).mono ?_; rintro e w1 ⟨rfl, hb1⟩; obtain ⟨hc1, hf1⟩ := bcell hb1)
    | (go_at_call_of 44 (Value.int IntKind.i64 9); refine (corner9 s fr g cap a w hg HC.out hby hl _ 9 9 rfl (by omega) x9 H9.out hb1).mono ?_; rintro e w2 ⟨rfl, hb2⟩; obtain ⟨hc2, hf2⟩ := bcell hb2)
    | (go_at_call_of 44 (Value.int IntKind.i64 18); refine (corner9 s fr g cap a w hg HC.out hby hl _ 18 18 rfl (by omega) x18 H18.out hb2).mono ?_; rintro e w3 ⟨rfl, hb3⟩; obtain ⟨hc3, hf3⟩ := bcell hb3)
    | (go_at_call 43; refine (tri9 base p dB qB shV outV st w hpane x0 x9 x18 k0 k9 k18 K hok hK _ hb3).mono ?_; rintro e w4 ⟨rfl, hp4, hb4⟩))
  all_goals
    go_wp2_with fail
    go_ret
    go_light
    exact ⟨rfl, dB, shV, outV, hp4, hb4⟩
end
end Go.Proofs.YthcikinkicpicaaGreatDoor
