import Derived.Test.YthcikinkicpicaaGreatDoorB05
import Derived.Test.YthcikinkicpicaaGreatDoorB04

namespace Go.Proofs.YthcikinkicpicaaGreatDoor
open Go.RowKit

section
variable (p g cap : Nat) (W H : Int) (a : List Int) (w : World)

/-- What bad needs of the world. -/
structure BadW : Prop where
  cW : w.cell? ⟨p, 0, none⟩ = some (.int .i64 W)
  cH : w.cell? ⟨p, 1, none⟩ = some (.int .i64 H)
  cell : ∀ j, j < a.length → w.cell? ⟨g, j, none⟩ = some (.int .i64 (a.getD j 0))
  byte : bytesOk a
  len : a.length ≤ 1100
  cap : a.length ≤ cap

set_option maxRecDepth 100000 in
set_option maxHeartbeats 1000000 in
theorem bad1 (h : BadW p g cap W H a w) (hl : a.length = 2) :
    Calls Tryz.prog 29 #[.pointer (some ⟨p, 0, none⟩), .int .i64 1, .slice (some ⟨g, 0, none⟩) 2 cap] w fun e w' => e = .returned (.bool (badB W H 1 a)) ∧ Below w.heap.size w w' := by
  have c0 := h.cell 0 (by omega)
  have c1 := h.cell 1 (by omega)
  have hab := above_any g 0 cap a 24 w (by simpa using h.cell) (by omega)
  rw [hl] at hab
  have hfin : badB W H 1 a = (decide (a.getD 0 0 < 1) || (decide (a.getD 1 0 < 1) || aboveB a 24)) := by unfold badB; rw [if_pos rfl]
  rw [hfin]
  generalize a.getD 0 0 = a0 at *
  generalize a.getD 1 0 = a1 at *
  clear h hfin
  by_cases h0 : a0 < 1
  · go_enter Tryz.func29, Tryz.ntmps29
    go_wp2_with fail
    go_ret
    exact ⟨ret_bool (by simp <;> omega), Below.refl _ _⟩
  · by_cases h1 : a1 < 1
    · go_enter Tryz.func29, Tryz.ntmps29
      go_wp2_with fail
      go_ret
      exact ⟨ret_bool (by simp <;> omega), Below.refl _ _⟩
    · go_enter Tryz.func29, Tryz.ntmps29
      go_wp2_with fail
      refine hab.mono ?_
      rintro e w' ⟨rfl, rfl⟩
      go_wp2_with fail
      go_ret
      refine ⟨ret_bool ?_, Below.refl _ _⟩
      have e1 : decide (a0 < 1) = false := by simp; omega
      have e2 : decide (a1 < 1) = false := by simp; omega
      rw [e1, e2]; rfl

set_option maxRecDepth 100000 in
set_option maxHeartbeats 1000000 in
theorem bad2 (n : Nat) (h : BadW p g cap W H a w) (hl : a.length = n) (hn : 0 < n) (kind : Int) (hk : kind = 2 ∨ kind = 6 ∨ kind = 7 ∨ kind = 10 ∨ kind = 11 ∨ kind = 14) :
    Calls Tryz.prog 29 #[.pointer (some ⟨p, 0, none⟩), .int .i64 kind, .slice (some ⟨g, 0, none⟩) n cap] w fun e w' => e = .returned (.bool (badB W H kind a)) ∧ Below w.heap.size w w' := by
  have c0 := h.cell 0 (by omega)
  have hin : (0 : Int) < (n : Int) := by omega
  unfold badB
  generalize a.getD 0 0 = a0 at *
  clear h
  rcases hk with rfl | rfl | rfl | rfl | rfl | rfl
  all_goals
    go_enter Tryz.func29, Tryz.ntmps29
    go_wp2_with fail
    go_ret
    exact ⟨ret_bool (by simp), Below.refl _ _⟩

set_option maxRecDepth 100000 in
set_option maxHeartbeats 1000000 in
theorem bad3 (h : BadW p g cap W H a w) (hl : a.length = 2) :
    Calls Tryz.prog 29 #[.pointer (some ⟨p, 0, none⟩), .int .i64 3, .slice (some ⟨g, 0, none⟩) 2 cap] w fun e w' => e = .returned (.bool (badB W H 3 a)) ∧ Below w.heap.size w w' := by
  have c0 := h.cell 0 (by omega)
  have c1 := h.cell 1 (by omega)
  have hfin : badB W H 3 a = (decide (7 < a.getD 0 0) || decide (1 < a.getD 1 0)) := by unfold badB; simp
  rw [hfin]
  generalize a.getD 0 0 = a0 at *
  generalize a.getD 1 0 = a1 at *
  clear h hfin
  by_cases h0 : 7 < a0
  · go_enter Tryz.func29, Tryz.ntmps29
    go_wp2_with fail
    go_ret
    exact ⟨ret_bool (by simp <;> omega), Below.refl _ _⟩
  · go_enter Tryz.func29, Tryz.ntmps29
    go_wp2_with fail
    go_ret
    exact ⟨ret_bool (by simp <;> omega), Below.refl _ _⟩

set_option maxRecDepth 100000 in
set_option maxHeartbeats 1000000 in
theorem bad4 (h : BadW p g cap W H a w) (hl : a.length = 7) :
    Calls Tryz.prog 29 #[.pointer (some ⟨p, 0, none⟩), .int .i64 4, .slice (some ⟨g, 0, none⟩) 7 cap] w fun e w' => e = .returned (.bool (badB W H 4 a)) ∧ Below w.heap.size w w' := by
  have c0 := h.cell 0 (by omega)
  have hcap := h.cap
  have hab := above3 g 4 (cap - 4) (a.getD 4 0) (a.getD 5 0) (a.getD 6 0) 7 w (h.cell 4 (by omega)) (h.cell 5 (by omega)) (h.cell 6 (by omega))
  have hfin : badB W H 4 a = (decide (7 < a.getD 0 0) || aboveB [a.getD 4 0, a.getD 5 0, a.getD 6 0] 7) := by unfold badB; simp
  rw [hfin]
  generalize aboveB [a.getD 4 0, a.getD 5 0, a.getD 6 0] 7 = R at *
  generalize a.getD 0 0 = a0 at *
  rw [hl] at hcap
  clear h hfin
  by_cases h0 : 7 < a0
  · go_enter Tryz.func29, Tryz.ntmps29
    go_wp2_with fail
    go_ret
    exact ⟨ret_bool (by simp <;> omega), Below.refl _ _⟩
  · go_enter Tryz.func29, Tryz.ntmps29
    go_wp2_with fail
    refine hab.mono ?_
    rintro e w' ⟨rfl, rfl⟩
    go_wp2_with fail
    go_ret
    refine ⟨ret_bool ?_, Below.refl _ _⟩
    have e1 : decide (7 < a0) = false := by simp; omega
    rw [e1]; rfl
end

end Go.Proofs.YthcikinkicpicaaGreatDoor

namespace Go.Proofs.YthcikinkicpicaaGreatDoor
open Go.RowKit
section
variable (p g cap : Nat) (W H : Int) (a : List Int) (w : World)

set_option maxRecDepth 100000 in
set_option maxHeartbeats 1000000 in
theorem bad9 (n : Nat) (kind : Int) (hk : kind = 9 ∨ kind = 12) :
    Calls Tryz.prog 29 #[.pointer (some ⟨p, 0, none⟩), .int .i64 kind, .slice (some ⟨g, 0, none⟩) n cap] w fun e w' => e = .returned (.bool (badB W H kind a)) ∧ Below w.heap.size w w' := by
  unfold badB
  rcases hk with rfl | rfl
  all_goals
    go_enter Tryz.func29, Tryz.ntmps29
    go_wp2_with fail
    go_ret
    exact ⟨ret_bool (by simp), Below.refl _ _⟩

set_option maxRecDepth 100000 in
set_option maxHeartbeats 1000000 in
theorem bad5 (h : BadW p g cap W H a w) (hl : a.length = 4) (_hW0 : 0 ≤ W) (_hW1 : W ≤ 24) (_hH0 : 0 ≤ H) (_hH1 : H ≤ 24) :
    Calls Tryz.prog 29 #[.pointer (some ⟨p, 0, none⟩), .int .i64 5, .slice (some ⟨g, 0, none⟩) 4 cap] w fun e w' => e = .returned (.bool (badB W H 5 a)) ∧ Below w.heap.size w w' := by
  have c0 := h.cell 0 (by omega)
  have c1 := h.cell 1 (by omega)
  have c2 := h.cell 2 (by omega)
  have c3 := h.cell 3 (by omega)
  have cW := h.cW
  have cH := h.cH
  have b0 := h.byte.at 0
  have b1 := h.byte.at 1
  have b2 := h.byte.at 2
  have b3 := h.byte.at 3
  have hfin : badB W H 5 a = (decide (W < a.getD 0 0 + a.getD 2 0) || decide (H < a.getD 1 0 + a.getD 3 0)) := by unfold badB; simp
  rw [hfin]
  generalize a.getD 0 0 = a0 at *
  generalize a.getD 1 0 = a1 at *
  generalize a.getD 2 0 = a2 at *
  generalize a.getD 3 0 = a3 at *
  have m1 : IntKind.i64.wrap (a0 + a2) = a0 + a2 := k64 (by omega)
  have m2 : IntKind.i64.wrap (a1 + a3) = a1 + a3 := k64 (by omega)
  clear h hfin b0 b1 b2 b3
  by_cases h0 : W < a0 + a2
  · have d0 : decide (W < a0 + a2) = true := by simpa using h0
    go_enter Tryz.func29, Tryz.ntmps29
    go_wp2_with fail
    go_quiet (fail)
    go_wp2
    go_ret
    exact ⟨ret_bool (by simp [h0]), (Below.refl _ _).drewN' _⟩
  · have d0 : decide (W < a0 + a2) = false := by simpa using h0
    go_enter Tryz.func29, Tryz.ntmps29
    go_wp2_with fail
    go_quiet (fail)
    go_wp2
    go_ret
    exact ⟨ret_bool (by simp <;> omega), (Below.refl _ _).drewN' _⟩

set_option maxRecDepth 100000 in
set_option maxHeartbeats 1000000 in
theorem bad13 (h : BadW p g cap W H a w) (hl : a.length = 3) :
    Calls Tryz.prog 29 #[.pointer (some ⟨p, 0, none⟩), .int .i64 13, .slice (some ⟨g, 0, none⟩) 3 cap] w fun e w' => e = .returned (.bool (badB W H 13 a)) ∧ Below w.heap.size w w' := by
  have c0 := h.cell 0 (by omega)
  have c1 := h.cell 1 (by omega)
  have c2 := h.cell 2 (by omega)
  have cW := h.cW
  have cH := h.cH
  have hfin : badB W H 13 a = (decide (a.getD 0 0 < 1) || (decide (3 < a.getD 0 0) || (decide (W ≤ a.getD 1 0) || decide (H ≤ a.getD 2 0)))) := by unfold badB; simp
  rw [hfin]
  generalize a.getD 0 0 = a0 at *
  generalize a.getD 1 0 = a1 at *
  generalize a.getD 2 0 = a2 at *
  clear h hfin
  by_cases h0 : a0 < 1
  · have d0 : decide (a0 < 1) = true := by simpa using h0
    go_enter Tryz.func29, Tryz.ntmps29
    go_wp2_with fail
    go_quiet (fail)
    go_wp2
    go_ret
    exact ⟨ret_bool (by rw [d0]; rfl), (Below.refl _ _).drewN' _⟩
  · have d0 : decide (a0 < 1) = false := by simpa using h0
    by_cases h1 : 3 < a0
    · have d1 : decide (3 < a0) = true := by simpa using h1
      go_enter Tryz.func29, Tryz.ntmps29
      go_wp2_with fail
      go_quiet (fail)
      go_wp2
      go_ret
      exact ⟨ret_bool (by rw [d0, d1]; rfl), (Below.refl _ _).drewN' _⟩
    · have d1 : decide (3 < a0) = false := by simpa using h1
      by_cases h2 : W ≤ a1
      · have d2 : decide (W ≤ a1) = true := by simpa using h2
        go_enter Tryz.func29, Tryz.ntmps29
        go_wp2_with fail
        go_quiet (fail)
        go_wp2
        go_ret
        exact ⟨ret_bool (by rw [d0, d1, d2]; rfl), (Below.refl _ _).drewN' _⟩
      · have d2 : decide (W ≤ a1) = false := by simpa using h2
        go_enter Tryz.func29, Tryz.ntmps29
        go_wp2_with fail
        go_quiet (fail)
        go_wp2
        go_ret
        exact ⟨ret_bool (by rw [d0, d1, d2]; rfl), (Below.refl _ _).drewN' _⟩

theorem badSteps_at {l : List Int} {n : Nat} (h : n + 4 ≤ l.length) : badSteps (l.drop n) = (wrongB (l.getD n 0) (l.getD (n + 1) 0) (l.getD (n + 2) 0) (l.getD (n + 3) 0) || badSteps (l.drop (n + 4))) := by
  have e : l.drop n = l.getD n 0 :: l.getD (n + 1) 0 :: l.getD (n + 2) 0 :: l.getD (n + 3) 0 :: l.drop (n + 4) := by
    have g : ∀ m, m < l.length → l.drop m = l.getD m 0 :: l.drop (m + 1) := fun m hm => by
      rw [List.drop_eq_getElem_cons hm, List.getD_eq_getElem?_getD, List.getElem?_eq_getElem hm]; rfl
    rw [g n (by omega), g (n + 1) (by omega), g (n + 2) (by omega), g (n + 3) (by omega)]
  conv => lhs; rw [e]
  rfl

set_option maxRecDepth 100000 in
set_option maxHeartbeats 1000000 in
theorem bad8 (m : Nat) (h : BadW p g cap W H a w) (hl : a.length = 1 + 4 * m) (hm : m ≤ 255) :
    Calls Tryz.prog 29 #[.pointer (some ⟨p, 0, none⟩), .int .i64 8, .slice (some ⟨g, 0, none⟩) a.length cap] w fun e w' => e = .returned (.bool (badB W H 8 a)) ∧ Below w.heap.size w w' := by
  have c0 := h.cell 0 (by omega)
  have hcell := h.cell
  have hcap := h.cap
  have hfin : badB W H 8 a = (decide (16 < a.getD 0 0) || badSteps (a.drop 1)) := by unfold badB; simp
  rw [hfin]
  clear h hfin
  have hpos : (0 : Int) < (a.length : Int) := by omega
  obtain ⟨a0, ha0⟩ : ∃ a0, a.getD 0 0 = a0 := ⟨_, rfl⟩
  rw [ha0] at c0 ⊢
  have HL : Hid _ := hl
  clear ha0
  by_cases h0 : 16 < a0
  · clear hl
    go_enter Tryz.func29, Tryz.ntmps29
    go_wp2_with fail
    go_ret
    exact ⟨ret_bool (by simp <;> omega), Below.refl _ _⟩
  · go_enter Tryz.func29, Tryz.ntmps29
    clear hl
    go_wp2_with fail
    go_loopg [7] m (fun r i wr => ∃ k : Nat, k + r = m ∧ i = .int .i64 ((1 + 4 * k : Nat) : Int) ∧ wr = w ∧ badSteps (a.drop (1 + 4 * k)) = badSteps (a.drop 1))
    case atStart => exact ⟨0, by omega, rfl, rfl, rfl⟩
    case round =>
      obtain ⟨k, hk, rfl, rfl, hb⟩ := hrel
      have HB : Hid _ := hb
      clear hb
      by_cases hlt : k < m
      · obtain ⟨r', rfl⟩ : ∃ r', gk = r' + 1 := ⟨gk - 1, by omega⟩
        have hlen := HL.out
        have hb4 := badSteps_at (l := a) (n := 1 + 4 * k) (by omega)
        have HB4 : Hid _ := hb4
        have hw := wrong_any g (1 + 4 * k) (cap - (1 + 4 * k)) (a.getD (1 + 4 * k) 0) (a.getD (1 + 4 * k + 1) 0) (a.getD (1 + 4 * k + 2) 0) (a.getD (1 + 4 * k + 3) 0) wr (hcell _ (by omega)) (hcell _ (by omega)) (hcell _ (by omega)) (hcell _ (by omega)) (by omega)
        have q1 : 1 + 4 * k + 4 ≤ a.length := by omega
        have q2 : a.length ≤ 2000 := by omega
        clear hlen hb4 hcell
        generalize hR : wrongB (a.getD (1 + 4 * k) 0) (a.getD (1 + 4 * k + 1) 0) (a.getD (1 + 4 * k + 2) 0) (a.getD (1 + 4 * k + 3) 0) = R at *
        clear hR
        go_wp2_with fail
        refine hw.mono ?_
        rintro e w' ⟨rfl, rfl⟩
        clear hw
        cases R
        · go_wp2_with fail
          go_roundg r'
          case rel =>
            go_light
            refine ⟨k + 1, by omega, ?_, rfl, ?_⟩
            · congr 1
            · have e1 := HB.out
              rw [HB4.out] at e1
              rw [← e1, show 1 + 4 * (k + 1) = 1 + 4 * k + 4 from by omega]
              simp
          case measure => omega
        · go_wp2_with fail
          go_ret
          go_light
          refine ⟨ret_bool ?_, Below.refl _ _⟩
          have e1 := HB.out
          rw [HB4.out] at e1
          rw [← e1]; simp
      · have hg0 : gk = 0 := by omega
        subst hg0
        have hlen := HL.out
        have hn : ¬ ((1 + 4 * k : Nat) : Int) < (a.length : Int) := by omega
        clear hlen
        go_wp2_with fail
        go_ret
        go_light
        refine ⟨ret_bool ?_, Below.refl _ _⟩
        have hlen := HL.out
        have e1 := HB.out
        rw [List.drop_of_length_le (by omega)] at e1
        have e2 : decide (16 < a0) = false := by simp; omega
        rw [e2, ← List.drop_one, ← e1]
        rfl
end

end Go.Proofs.YthcikinkicpicaaGreatDoor
