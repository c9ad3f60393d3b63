import Derived.Test.YtifloehpdkfchaaGreatDoorB08

namespace Go.Proofs.YtifloehpdkfchaaGreatDoor
open Go.RowKit

set_option maxRecDepth 100000 in
set_option maxHeartbeats 1000000 in
theorem pixel_in (base p dB qB : Nat) (shV outV : Value) (st : St) (g cap : Nat) (k x y : Int) (w : World) (h : PaneO base w p dB qB shV outV st) (hW1 : st.W ≤ 24) (hH1 : st.H ≤ 24) (hl : (st.dots.length : Int) = st.W * st.H)
    (c0 : w.cell? ⟨g, 0, none⟩ = some (.int .i64 k)) (c1 : w.cell? ⟨g, 1, none⟩ = some (.int .i64 x)) (c2 : w.cell? ⟨g, 2, none⟩ = some (.int .i64 y)) (hg : g < w.heap.size)
    (hk0 : 1 ≤ k) (hk1 : k ≤ 3) (hx0 : 0 ≤ x) (hx1 : x < st.W) (hy0 : 0 ≤ y) (hy1 : y < st.H) (hlen : st.out.length ≤ 1000000000000) :
    Calls Tryz.prog 31 #[.pointer (some ⟨p, 0, none⟩), .slice (some ⟨g, 0, none⟩) 3 cap] w fun e w' =>
      e = .returned (.tuple #[]) ∧ ∃ v', PaneO base w' p dB qB shV v' (st.pixel k x y) ∧ Kept (fun k => k = p ∨ k = dB ∨ k = qB ∨ outV.ownBlock = some k) w w' := by
  have cp := cell_of h.pin.bp
  simp only [pcells] at cp
  have fp := frozen_of h.pin.bp
  obtain ⟨lp, ld, lq⟩ := h.pin.lt
  obtain ⟨j0, j1, j2⟩ := idx_lt x y st.W st.H hx0 hx1 hy0 hy1
  have hWH := (mul_abs_le st.W st.H 24 24 (by omega) (by omega) (by omega) (by omega)).2
  obtain ⟨M, hM⟩ : ∃ M, y * st.W = M := ⟨_, rfl⟩
  rw [hM] at j0 j1 j2
  obtain ⟨idx, hidx⟩ := Int.eq_ofNat_of_zero_le j1
  have hi9 : (idx : Int) < 576 := by omega
  rw [← hl] at j2
  have j4 : idx < st.dots.length := by omega
  have hfin : st.pixel k x y = { st with out := st.out ++ [pixRep st.dots[idx] k] } := by
    unfold St.pixel
    rw [hM, hidx, Int.toNat_natCast, List.getD_eq_getElem?_getD, List.getElem?_eq_getElem j4]; rfl
  rw [hfin]
  have m1 : IntKind.i64.wrap (y * st.W) = M := by rw [hM]; exact k64 (by omega)
  have m2 : IntKind.i64.wrap (M + x) = (idx : Int) := by rw [hidx]; exact k64 (by omega)
  have j3 : (idx : Int) < (st.dots.length : Int) := by omega
  have j5 : (0 : Int) ≤ (idx : Int) := by omega
  obtain ⟨g0, g1, g2, g3, g4⟩ := dcells_get st.dots idx j4
  have cd := cell_of h.pin.bd
  have cd0 := (cd (idx * 5)).trans g0
  have cd1 := (cd (idx * 5 + 1)).trans g1
  have cd2 := (cd (idx * 5 + 2)).trans g2
  have cd3 := (cd (idx * 5 + 3)).trans g3
  have cd4 := (cd (idx * 5 + 4)).trans g4
  generalize st.dots[idx] = o at *
  obtain ⟨i0, hi, hz0, hz1, hz2⟩ := info_parts Tryz.infoRep
  have hbs : base ≤ w.heap.size := by have := h.bp0; omega
  clear g0 g1 g2 g3 g4 cd hM hidx hl j1 j2 hWH hi9 hfin
  have lg1 : g < w.heap.size + 1 := by omega
  have lp1 : p < w.heap.size + 1 := by omega
  have hk : k = 1 ∨ k = 2 ∨ k = 3 := by omega
  rcases hk with rfl | rfl | rfl
  · go_enter Tryz.func31, Tryz.ntmps31
    go_wp2_with fail
    go_region
    go_wp2_with fail
    go_region_law (refine step_append_own rfl (.tmp 49) (.tmp 51) 36 rfl base 77 i0 _ 4 32 Tryz.underlying36 hi hz0 hz1 hz2 rfl (by decide) outV st.out.length (rcells st.out) (by simp [Act.eval]) (by exact (h.frame below3.drew.drew).out) ⟨w.heap.size + 1 + 1, 0, none⟩ 1 1 [.int .i64 1, .int .i64 o.r, .int .i64 o.g, .int .i64 o.b] (by simp [Act.eval]) rfl (by exact lit4d ((w.alloc _).alloc _) _ _ _ _ _ _ (by simp)) (one4 _ _ _ _) (by unfold maxLen; omega) (by omega) (Nat.le_trans hbs (by exact below3.drew.drew.size)) ?_; intro v' w' hown' hgrow'; obtain ⟨gg, cap', rfl⟩ := owned_form hown'; have hpp := (h.frame below3.drew.drew).pcell hgrow'; have cp' := cell_of hpp; simp only [pcells] at cp'; have fp' := frozen_of hpp)
    all_goals
      have P := (h.frame below3.drew.drew).push (r := { k := 1, a := o.r, b := o.g, c := o.b }) hgrow' hown'
      clear hown' hgrow' hpp cp' fp'
      go_wp2_with fail
      go_end0
      go_light
      refine ⟨rfl, _, P.1, ?_⟩
      exact ((Kept.refl _ _).below below3.drew.drew).trans (P.2.mono (fun k hk => by rcases hk with hk | hk; exact Or.inl hk; exact Or.inr (Or.inr (Or.inr hk))))
  · go_enter Tryz.func31, Tryz.ntmps31
    go_wp2_with fail
    go_region
    go_wp2_with fail
    go_region_law (refine step_append_own rfl (.tmp 49) (.tmp 51) 36 rfl base 77 i0 _ 4 32 Tryz.underlying36 hi hz0 hz1 hz2 rfl (by decide) outV st.out.length (rcells st.out) (by simp [Act.eval]) (by exact (h.frame below3.drew.drew).out) ⟨w.heap.size + 1 + 1, 0, none⟩ 1 1 [.int .i64 2, .int .i64 o.d, .int .i64 0, .int .i64 0] (by simp [Act.eval]) rfl (by exact lit4d ((w.alloc _).alloc _) _ _ _ _ _ _ (by simp)) (one4 _ _ _ _) (by unfold maxLen; omega) (by omega) (Nat.le_trans hbs (by exact below3.drew.drew.size)) ?_; intro v' w' hown' hgrow'; obtain ⟨gg, cap', rfl⟩ := owned_form hown'; have hpp := (h.frame below3.drew.drew).pcell hgrow'; have cp' := cell_of hpp; simp only [pcells] at cp'; have fp' := frozen_of hpp)
    all_goals
      have P := (h.frame below3.drew.drew).push (r := { k := 2, a := o.d, b := 0, c := 0 }) hgrow' hown'
      clear hown' hgrow' hpp cp' fp'
      go_wp2_with fail
      go_end0
      go_light
      refine ⟨rfl, _, P.1, ?_⟩
      exact ((Kept.refl _ _).below below3.drew.drew).trans (P.2.mono (fun k hk => by rcases hk with hk | hk; exact Or.inl hk; exact Or.inr (Or.inr (Or.inr hk))))
  · go_enter Tryz.func31, Tryz.ntmps31
    go_wp2_with fail
    go_region
    go_wp2_with fail
    go_region_law (refine step_append_own rfl (.tmp 49) (.tmp 51) 36 rfl base 77 i0 _ 4 32 Tryz.underlying36 hi hz0 hz1 hz2 rfl (by decide) outV st.out.length (rcells st.out) (by simp [Act.eval]) (by exact (h.frame below3.drew.drew).out) ⟨w.heap.size + 1 + 1, 0, none⟩ 1 1 [.int .i64 3, .int .i64 o.s, .int .i64 0, .int .i64 0] (by simp [Act.eval]) rfl (by exact lit4d ((w.alloc _).alloc _) _ _ _ _ _ _ (by simp)) (one4 _ _ _ _) (by unfold maxLen; omega) (by omega) (Nat.le_trans hbs (by exact below3.drew.drew.size)) ?_; intro v' w' hown' hgrow'; obtain ⟨gg, cap', rfl⟩ := owned_form hown'; have hpp := (h.frame below3.drew.drew).pcell hgrow'; have cp' := cell_of hpp; simp only [pcells] at cp'; have fp' := frozen_of hpp)
    all_goals
      have P := (h.frame below3.drew.drew).push (r := { k := 3, a := o.s, b := 0, c := 0 }) hgrow' hown'
      clear hown' hgrow' hpp cp' fp'
      go_wp2_with fail
      go_end0
      go_light
      refine ⟨rfl, _, P.1, ?_⟩
      exact ((Kept.refl _ _).below below3.drew.drew).trans (P.2.mono (fun k hk => by rcases hk with hk | hk; exact Or.inl hk; exact Or.inr (Or.inr (Or.inr hk))))

end Go.Proofs.YtifloehpdkfchaaGreatDoor
