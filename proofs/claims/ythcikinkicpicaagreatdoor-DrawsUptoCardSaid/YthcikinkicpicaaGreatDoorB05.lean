import Derived.Test.YthcikinkicpicaaGreatDoorB04
import Derived.BigRegion

namespace Go.Proofs.YthcikinkicpicaaGreatDoor
open Go.RowKit

set_option maxRecDepth 100000 in
set_option maxHeartbeats 1000000 in
theorem query_count (base p dB qB : Nat) (shV outV : Value) (st : St) (kind : Int) (n : Nat) (w : World) (h : PaneO base w p dB qB shV outV st) (hq : st.qs.length = 4) (hn : n < 4) (hk10 : kind ≠ 10) (hk11 : kind ≠ 11)
    (hon : (st.qs[n]'(by omega)).on = false) (hev : (st.qs[n]'(by omega)).ever = true) (hlen : st.out.length ≤ 1000000000000) :
    Calls Tryz.prog 45 #[.pointer (some ⟨p, 0, none⟩), .int .i64 kind, .int .i64 n] w fun e w' =>
      e = .returned (.int .i64 0) ∧ ∃ v', PaneO base w' p dB qB shV v' { st with out := st.out ++ [{ k := 4, a := n, b := (st.qs[n]'(by omega)).n, c := 0 }] } ∧ Kept (fun k => k = p ∨ outV.ownBlock = some k) w w' := by
  have k10 : (kind == 10) = false := by simpa using hk10
  have k11 : (kind == 11) = false := by simpa using hk11
  have cp := cell_of h.pin.bp
  simp only [pcells] at cp
  have fp := frozen_of h.pin.bp
  obtain ⟨g0, g1, g2⟩ := qcells_get st.qs n (by omega)
  have cq := cell_of h.pin.bq
  have cq0 := (cq (n * 3)).trans g0
  have cq1 := (cq (n * 3 + 1)).trans g1
  have cq2 := (cq (n * 3 + 2)).trans g2
  rw [hon] at cq1
  rw [hev] at cq0
  generalize (st.qs[n]'(by omega)).n = N at *
  obtain ⟨lp, ld, lq⟩ := h.pin.lt
  obtain ⟨i0, hi, hz0, hz1, hz2⟩ := info_parts Tryz.infoRep
  have hbs : base ≤ w.heap.size := by have := h.bp0; omega
  clear g0 g1 g2 cq hk10 hk11 hon hev
  have HO : Hid _ := h.out
  go_enter Tryz.func45, Tryz.ntmps45
  go_wp2_with fail
  go_region_law (refine step_append_own rfl (.tmp 47) (.tmp 52) 36 rfl base 96 i0 _ 4 32 Tryz.underlying36 hi hz0 hz1 hz2 rfl (by decide) outV st.out.length (rcells st.out) (by simp [Act.eval]) (by exact (h.frame below2.drew).out) ⟨w.heap.size + 1, 0, none⟩ 1 1 [.int .i64 4, .int .i64 n, .int .i64 N, .int .i64 0] (by simp [Act.eval]) rfl (by exact lit4d (w.alloc _) _ _ _ _ _ _ (by simp)) (one4 _ _ _ _) (by unfold maxLen; omega) (by omega) (Nat.le_trans hbs (by exact below2.drew.size)) ?_; intro v' w' hown' hgrow'; obtain ⟨g, cap', rfl⟩ := owned_form hown'; have hpp := (h.frame below2.drew).pcell hgrow'; have cp' := cell_of hpp; simp only [pcells] at cp'; have fp' := frozen_of hpp)
  all_goals
    have P := (h.frame below2.drew).push (r := { k := 4, a := n, b := N, c := 0 }) hgrow' hown'
    clear hown' hgrow' hpp cp' fp'
    go_wp2_with fail
    go_ret
    go_light
    refine ⟨rfl, _, P.1, ?_⟩
    exact ((Kept.refl _ _).below below2.drew).trans P.2

theorem setq3 (l : List Qry) (i : Nat) (h : i < l.length) (q : Qry) :
    (((qcells l).setIfInBounds (i * 3) (.bool q.ever)).setIfInBounds (i * 3 + 1) (.bool q.on)).setIfInBounds (i * 3 + 2) (.int .i64 q.n) = qcells (l.set i q) := by
  have hl := flat_len (fun o : Qry => [Value.bool o.ever, .bool o.on, .int .i64 o.n]) 3 (fun _ => rfl) l
  have hs := flat_set (fun o : Qry => [Value.bool o.ever, .bool o.on, .int .i64 o.n]) 3 (fun _ => rfl) l i q h
  apply Array.ext_getElem?
  intro j
  unfold qcells
  simp only [List.setIfInBounds_toArray, List.getElem?_toArray, List.getElem?_set]
  rw [hs j]
  simp only [List.length_set, hl]
  by_cases hj : i * 3 ≤ j ∧ j < i * 3 + 3
  · rw [if_pos hj]
    obtain ⟨h1, h2⟩ := hj
    have : j = i * 3 ∨ j = i * 3 + 1 ∨ j = i * 3 + 2 := by omega
    rcases this with rfl | rfl | rfl
    · rw [if_neg (by omega), if_neg (by omega), if_pos rfl, if_pos (by omega)]; simp
    · rw [if_neg (by omega), if_pos rfl, if_pos (by omega)]; simp
    · rw [if_pos rfl, if_pos (by omega)]; simp
  · rw [if_neg hj, if_neg (by omega), if_neg (by omega), if_neg (by omega)]

theorem setq_on (l : List Qry) (i : Nat) (h : i < l.length) (b : Bool) : (qcells l).setIfInBounds (i * 3 + 1) (.bool b) = qcells (l.set i { l[i] with on := b }) := by
  have hl := flat_len (fun o : Qry => [Value.bool o.ever, .bool o.on, .int .i64 o.n]) 3 (fun _ => rfl) l
  have hs := flat_set (fun o : Qry => [Value.bool o.ever, .bool o.on, .int .i64 o.n]) 3 (fun _ => rfl) l i { l[i] with on := b } h
  have hg := qcells_get l i h
  unfold qcells at hg
  apply Array.ext_getElem?
  intro j
  unfold qcells
  simp only [List.setIfInBounds_toArray, List.getElem?_toArray, List.getElem?_set] at hg ⊢
  rw [hs j]
  simp only [hl]
  by_cases hj : i * 3 ≤ j ∧ j < i * 3 + 3
  · rw [if_pos hj]
    obtain ⟨h1, h2⟩ := hj
    have : j = i * 3 ∨ j = i * 3 + 1 ∨ j = i * 3 + 2 := by omega
    rcases this with rfl | rfl | rfl
    · rw [if_neg (by omega), hg.1]; simp
    · rw [if_pos rfl, if_pos (by omega)]; simp
    · rw [if_neg (by omega), hg.2.2]; simp
  · rw [if_neg hj, if_neg (by omega)]

theorem PaneIn.qput {w : World} {p dB qB : Nat} {shV outV : Value} {st : St} (h : PaneIn w p dB qB shV outV st) {w' : World} {qs' : List Qry} (hq : w'.heap[qB]? = some (.cells (qcells qs') 139 (0, 0))) (hk : Kept (· = qB) w w') :
    PaneIn w' p dB qB shV outV { st with qs := qs' } := by
  obtain ⟨h1, h2, h3⟩ := h.lt
  refine ⟨?_, ?_, hq, h.sh.kept hk (fun k hk => .inr (.inr hk)), h.pd, h.pq, h.dq⟩
  · rw [hk.block p h1 h.pq]; exact h.bp
  · rw [hk.block dB h2 h.dq]; exact h.bd

section
variable {st : St} {n : Nat}
theorem q10_on (h : n < st.qs.length) (hon : st.qs[n].on = true) : st.query 10 n = (st, 3) := by unfold St.query; simp [List.getElem?_eq_getElem h, hon]
theorem q10_off (h : n < st.qs.length) (hon : st.qs[n].on = false) : st.query 10 n = ({ st with qs := st.qs.set n { ever := true, on := true, n := 0 } }, 0) := by unfold St.query; simp [List.getElem?_eq_getElem h, hon]
theorem q11_on (h : n < st.qs.length) (hon : st.qs[n].on = true) : st.query 11 n = ({ st with qs := st.qs.set n { st.qs[n] with on := false } }, 0) := by unfold St.query; simp [List.getElem?_eq_getElem h, hon]
theorem q11_off (h : n < st.qs.length) (hon : st.qs[n].on = false) : st.query 11 n = (st, 4) := by unfold St.query; simp [List.getElem?_eq_getElem h, hon]
theorem q14_on {kind : Int} (h0 : kind ≠ 10) (h1 : kind ≠ 11) (h : n < st.qs.length) (hon : st.qs[n].on = true) : st.query kind n = (st, 3) := by unfold St.query; simp [List.getElem?_eq_getElem h, hon, h0, h1]
theorem q14_never {kind : Int} (h0 : kind ≠ 10) (h1 : kind ≠ 11) (h : n < st.qs.length) (hon : st.qs[n].on = false) (hev : st.qs[n].ever = false) : st.query kind n = (st, 4) := by unfold St.query; simp [List.getElem?_eq_getElem h, hon, h0, h1, hev]
theorem q14_count {kind : Int} (h0 : kind ≠ 10) (h1 : kind ≠ 11) (h : n < st.qs.length) (hon : st.qs[n].on = false) (hev : st.qs[n].ever = true) :
    st.query kind n = ({ st with out := st.out ++ [{ k := 4, a := n, b := st.qs[n].n, c := 0 }] }, 0) := by unfold St.query; simp [List.getElem?_eq_getElem h, hon, h0, h1, hev]
end

set_option maxRecDepth 100000 in
set_option maxHeartbeats 1000000 in
theorem query_in (base p dB qB : Nat) (shV outV : Value) (st : St) (kind : Int) (n : Nat) (w : World) (h : PaneO base w p dB qB shV outV st) (hq : st.qs.length = 4) (hn : n < 4) (hlen : st.out.length ≤ 1000000000000) :
    Calls Tryz.prog 45 #[.pointer (some ⟨p, 0, none⟩), .int .i64 kind, .int .i64 n] w fun e w' =>
      e = .returned (.int .i64 (st.query kind n).2) ∧ ∃ v', PaneO base w' p dB qB shV v' (st.query kind n).1 ∧ Kept (fun k => k = p ∨ k = dB ∨ k = qB ∨ outV.ownBlock = some k) w w' := by
  have hlq : n < st.qs.length := by omega
  have cp := cell_of h.pin.bp
  simp only [pcells] at cp
  obtain ⟨g0, g1, g2⟩ := qcells_get st.qs n hlq
  have cq := cell_of h.pin.bq
  have cq0 := (cq (n * 3)).trans g0
  have cq1 := (cq (n * 3 + 1)).trans g1
  have cq2 := (cq (n * 3 + 2)).trans g2
  have fq := frozen_of h.pin.bq
  obtain ⟨lp, ld, lq⟩ := h.pin.lt
  clear g0 g1 g2 cq
  by_cases h10 : kind = 10
  · subst h10
    cases hon : st.qs[n].on
    · rw [q10_off hlq hon]
      rw [hon] at cq1
      clear hon
      go_enter Tryz.func45, Tryz.ntmps45
      go_wp2
      go_ret
      go_light
      have hk : Kept (· = qB) w _ := (((Kept.refl (· = qB) w).set (.inl rfl) (n * 3) (.bool true)).set (.inl rfl) (n * 3 + 1) (.bool true)).set (.inl rfl) (n * 3 + 2) (.int .i64 0)
      have P := h.pin.qput (qs' := st.qs.set n { ever := true, on := true, n := 0 }) (by rw [← setq3 st.qs n hlq]; exact heap_set_same (heap_set_same (heap_set_same h.pin.bq _ _) _ _) _ _) hk
      have P2 := h.step P rfl (hk.mono (fun k hk => Or.inr (Or.inr hk)))
      exact ⟨rfl, outV, P2.frame below1, (hk.mono (fun k hk => Or.inr (Or.inr (Or.inl hk)))).alloc _⟩
    · rw [q10_on hlq hon]
      rw [hon] at cq1
      clear hon
      go_enter Tryz.func45, Tryz.ntmps45
      go_wp2
      go_ret
      go_light
      exact ⟨rfl, outV, h.frame below1, (Kept.refl _ _).alloc _⟩
  by_cases h11 : kind = 11
  · subst h11
    clear h10
    cases hon : st.qs[n].on
    · rw [q11_off hlq hon]
      rw [hon] at cq1
      clear hon
      go_enter Tryz.func45, Tryz.ntmps45
      go_wp2
      go_ret
      go_light
      exact ⟨rfl, outV, h.frame below1, (Kept.refl _ _).alloc _⟩
    · rw [q11_on hlq hon]
      rw [hon] at cq1
      clear hon
      go_enter Tryz.func45, Tryz.ntmps45
      go_wp2
      go_ret
      go_light
      have hk : Kept (· = qB) w _ := (Kept.refl (· = qB) w).set (.inl rfl) (n * 3 + 1) (.bool false)
      have P := h.pin.qput (qs' := st.qs.set n { st.qs[n] with on := false }) (by rw [← setq_on st.qs n hlq]; exact heap_set_same h.pin.bq _ _) hk
      have P2 := h.step P rfl (hk.mono (fun k hk => Or.inr (Or.inr hk)))
      exact ⟨rfl, outV, P2.frame below1, (hk.mono (fun k hk => Or.inr (Or.inr (Or.inl hk)))).alloc _⟩
  cases hon : st.qs[n].on
  · cases hev : st.qs[n].ever
    · rw [q14_never h10 h11 hlq hon hev]
      rw [hon] at cq1
      rw [hev] at cq0
      have k10 : (kind == 10) = false := by simpa using h10
      have k11 : (kind == 11) = false := by simpa using h11
      clear hon hev h10 h11
      go_enter Tryz.func45, Tryz.ntmps45
      go_wp2
      go_ret
      go_light
      exact ⟨rfl, outV, h.frame below1, (Kept.refl _ _).alloc _⟩
    · rw [q14_count h10 h11 hlq hon hev]
      refine (query_count base p dB qB shV outV st kind n w h hq hn h10 h11 hon hev hlen).mono ?_
      rintro e w' ⟨rfl, v', hP, hK⟩
      exact ⟨rfl, v', hP, hK.mono (fun k hk => by rcases hk with hk | hk; exact Or.inl hk; exact Or.inr (Or.inr (Or.inr hk)))⟩
  · rw [q14_on h10 h11 hlq hon]
    rw [hon] at cq1
    have k10 : (kind == 10) = false := by simpa using h10
    have k11 : (kind == 11) = false := by simpa using h11
    clear hon h10 h11
    go_enter Tryz.func45, Tryz.ntmps45
    go_wp2
    go_ret
    go_light
    exact ⟨rfl, outV, h.frame below1, (Kept.refl _ _).alloc _⟩

end Go.Proofs.YthcikinkicpicaaGreatDoor

namespace Go.Proofs.YthcikinkicpicaaGreatDoor
open Go.RowKit

set_option maxRecDepth 100000 in
set_option maxHeartbeats 1000000 in
theorem pixel_in (base p dB qB : Nat) (shV outV : Value) (st : St) (g cap : Nat) (k x y : Int) (w : World) (h : PaneO base w p dB qB shV outV st) (hW1 : st.W ≤ 24) (hH1 : st.H ≤ 24) (hl : (st.dots.length : Int) = st.W * st.H)
    (c0 : w.cell? ⟨g, 0, none⟩ = some (.int .i64 k)) (c1 : w.cell? ⟨g, 1, none⟩ = some (.int .i64 x)) (c2 : w.cell? ⟨g, 2, none⟩ = some (.int .i64 y)) (hg : g < w.heap.size)
    (hk0 : 1 ≤ k) (hk1 : k ≤ 3) (hx0 : 0 ≤ x) (hx1 : x < st.W) (hy0 : 0 ≤ y) (hy1 : y < st.H) (hlen : st.out.length ≤ 1000000000000) :
    Calls Tryz.prog 46 #[.pointer (some ⟨p, 0, none⟩), .slice (some ⟨g, 0, none⟩) 3 cap] w fun e w' =>
      e = .returned (.tuple #[]) ∧ ∃ v', PaneO base w' p dB qB shV v' (st.pixel k x y) ∧ Kept (fun k => k = p ∨ k = dB ∨ k = qB ∨ outV.ownBlock = some k) w w' := by
  have cp := cell_of h.pin.bp
  simp only [pcells] at cp
  have fp := frozen_of h.pin.bp
  obtain ⟨lp, ld, lq⟩ := h.pin.lt
  obtain ⟨j0, j1, j2⟩ := idx_lt x y st.W st.H hx0 hx1 hy0 hy1
  have hWH := (mul_abs_le st.W st.H 24 24 (by omega) (by omega) (by omega) (by omega)).2
  obtain ⟨M, hM⟩ : ∃ M, y * st.W = M := ⟨_, rfl⟩
  rw [hM] at j0 j1 j2
  obtain ⟨idx, hidx⟩ := Int.eq_ofNat_of_zero_le j1
  have hi9 : (idx : Int) < 576 := by omega
  rw [← hl] at j2
  have j4 : idx < st.dots.length := by omega
  have hfin : st.pixel k x y = { st with out := st.out ++ [pixRep st.dots[idx] k] } := by
    unfold St.pixel
    rw [hM, hidx, Int.toNat_natCast, List.getD_eq_getElem?_getD, List.getElem?_eq_getElem j4]; rfl
  rw [hfin]
  have m1 : IntKind.i64.wrap (y * st.W) = M := by rw [hM]; exact k64 (by omega)
  have m2 : IntKind.i64.wrap (M + x) = (idx : Int) := by rw [hidx]; exact k64 (by omega)
  have j3 : (idx : Int) < (st.dots.length : Int) := by omega
  have j5 : (0 : Int) ≤ (idx : Int) := by omega
  obtain ⟨g0, g1, g2, g3, g4⟩ := dcells_get st.dots idx j4
  have cd := cell_of h.pin.bd
  have cd0 := (cd (idx * 5)).trans g0
  have cd1 := (cd (idx * 5 + 1)).trans g1
  have cd2 := (cd (idx * 5 + 2)).trans g2
  have cd3 := (cd (idx * 5 + 3)).trans g3
  have cd4 := (cd (idx * 5 + 4)).trans g4
  generalize st.dots[idx] = o at *
  obtain ⟨i0, hi, hz0, hz1, hz2⟩ := info_parts Tryz.infoRep
  have hbs : base ≤ w.heap.size := by have := h.bp0; omega
  clear g0 g1 g2 g3 g4 cd hM hidx hl j1 j2 hWH hi9 hfin
  have lg1 : g < w.heap.size + 1 := by omega
  have lp1 : p < w.heap.size + 1 := by omega
  have hk : k = 1 ∨ k = 2 ∨ k = 3 := by omega
  rcases hk with rfl | rfl | rfl
  · go_enter Tryz.func46, Tryz.ntmps46
    go_wp2_with fail
    go_region
    go_wp2_with fail
    go_region_law (refine step_append_own rfl (.tmp 49) (.tmp 51) 36 rfl base 96 i0 _ 4 32 Tryz.underlying36 hi hz0 hz1 hz2 rfl (by decide) outV st.out.length (rcells st.out) (by simp [Act.eval]) (by exact (h.frame below3.drew.drew).out) ⟨w.heap.size + 1 + 1, 0, none⟩ 1 1 [.int .i64 1, .int .i64 o.r, .int .i64 o.g, .int .i64 o.b] (by simp [Act.eval]) rfl (by exact lit4d ((w.alloc _).alloc _) _ _ _ _ _ _ (by simp)) (one4 _ _ _ _) (by unfold maxLen; omega) (by omega) (Nat.le_trans hbs (by exact below3.drew.drew.size)) ?_; intro v' w' hown' hgrow'; obtain ⟨gg, cap', rfl⟩ := owned_form hown'; have hpp := (h.frame below3.drew.drew).pcell hgrow'; have cp' := cell_of hpp; simp only [pcells] at cp'; have fp' := frozen_of hpp)
    all_goals
      have P := (h.frame below3.drew.drew).push (r := { k := 1, a := o.r, b := o.g, c := o.b }) hgrow' hown'
      clear hown' hgrow' hpp cp' fp'
      go_wp2_with fail
      go_end0
      go_light
      refine ⟨rfl, _, P.1, ?_⟩
      exact ((Kept.refl _ _).below below3.drew.drew).trans (P.2.mono (fun k hk => by rcases hk with hk | hk; exact Or.inl hk; exact Or.inr (Or.inr (Or.inr hk))))
  · go_enter Tryz.func46, Tryz.ntmps46
    go_wp2_with fail
    go_region
    go_wp2_with fail
    go_region_law (refine step_append_own rfl (.tmp 49) (.tmp 51) 36 rfl base 96 i0 _ 4 32 Tryz.underlying36 hi hz0 hz1 hz2 rfl (by decide) outV st.out.length (rcells st.out) (by simp [Act.eval]) (by exact (h.frame below3.drew.drew).out) ⟨w.heap.size + 1 + 1, 0, none⟩ 1 1 [.int .i64 2, .int .i64 o.d, .int .i64 0, .int .i64 0] (by simp [Act.eval]) rfl (by exact lit4d ((w.alloc _).alloc _) _ _ _ _ _ _ (by simp)) (one4 _ _ _ _) (by unfold maxLen; omega) (by omega) (Nat.le_trans hbs (by exact below3.drew.drew.size)) ?_; intro v' w' hown' hgrow'; obtain ⟨gg, cap', rfl⟩ := owned_form hown'; have hpp := (h.frame below3.drew.drew).pcell hgrow'; have cp' := cell_of hpp; simp only [pcells] at cp'; have fp' := frozen_of hpp)
    all_goals
      have P := (h.frame below3.drew.drew).push (r := { k := 2, a := o.d, b := 0, c := 0 }) hgrow' hown'
      clear hown' hgrow' hpp cp' fp'
      go_wp2_with fail
      go_end0
      go_light
      refine ⟨rfl, _, P.1, ?_⟩
      exact ((Kept.refl _ _).below below3.drew.drew).trans (P.2.mono (fun k hk => by rcases hk with hk | hk; exact Or.inl hk; exact Or.inr (Or.inr (Or.inr hk))))
  · go_enter Tryz.func46, Tryz.ntmps46
    go_wp2_with fail
    go_region
    go_wp2_with fail
    go_region_law (refine step_append_own rfl (.tmp 49) (.tmp 51) 36 rfl base 96 i0 _ 4 32 Tryz.underlying36 hi hz0 hz1 hz2 rfl (by decide) outV st.out.length (rcells st.out) (by simp [Act.eval]) (by exact (h.frame below3.drew.drew).out) ⟨w.heap.size + 1 + 1, 0, none⟩ 1 1 [.int .i64 3, .int .i64 o.s, .int .i64 0, .int .i64 0] (by simp [Act.eval]) rfl (by exact lit4d ((w.alloc _).alloc _) _ _ _ _ _ _ (by simp)) (one4 _ _ _ _) (by unfold maxLen; omega) (by omega) (Nat.le_trans hbs (by exact below3.drew.drew.size)) ?_; intro v' w' hown' hgrow'; obtain ⟨gg, cap', rfl⟩ := owned_form hown'; have hpp := (h.frame below3.drew.drew).pcell hgrow'; have cp' := cell_of hpp; simp only [pcells] at cp'; have fp' := frozen_of hpp)
    all_goals
      have P := (h.frame below3.drew.drew).push (r := { k := 3, a := o.s, b := 0, c := 0 }) hgrow' hown'
      clear hown' hgrow' hpp cp' fp'
      go_wp2_with fail
      go_end0
      go_light
      refine ⟨rfl, _, P.1, ?_⟩
      exact ((Kept.refl _ _).below below3.drew.drew).trans (P.2.mono (fun k hk => by rcases hk with hk | hk; exact Or.inl hk; exact Or.inr (Or.inr (Or.inr hk))))

end Go.Proofs.YthcikinkicpicaaGreatDoor
