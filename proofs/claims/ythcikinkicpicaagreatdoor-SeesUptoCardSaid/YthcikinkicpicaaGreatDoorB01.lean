import Derived.Test.YthcikinkicpicaaGreatDoorA01
import Derived.WalkKit
import Derived.WalkSpells
import Derived.WalkLawsBesides
import Derived.Deep.Light
import Derived.Laws.BitsAllLaws

namespace Go.Proofs.YthcikinkicpicaaGreatDoor
open Go.RowKit

set_option maxHeartbeats 400000 in
theorem within_any (n a b : Int) (w : World) :
    Calls Tryz.prog 133 #[.int .i64 n, .int .i64 a, .int .i64 b] w fun e w' => e = .returned (.int .i64 (within n a b)) ∧ w' = w := by
  unfold within
  by_cases h1 : n < a
  · rw [if_pos h1]
    go_enter Tryz.func133, Tryz.ntmps133
    go_wp2
    go_ret
    exact ⟨rfl, rfl⟩
  · rw [if_neg h1]
    by_cases h2 : b < n
    · rw [if_pos h2]
      go_enter Tryz.func133, Tryz.ntmps133
      go_wp2
      go_ret
      exact ⟨rfl, rfl⟩
    · rw [if_neg h2]
      go_enter Tryz.func133, Tryz.ntmps133
      go_wp2
      go_ret
      exact ⟨rfl, rfl⟩

set_option maxHeartbeats 400000 in
theorem floor_any (a b : Int) (w : World) (hb : 0 < b) (ha : -9000000000000000000 < a) (ha' : a < 9000000000000000000) :
    Calls Tryz.prog 70 #[.int .i64 a, .int .i64 b] w fun e w' => e = .returned (.int .i64 (a / b)) ∧ w' = w := by
  have e1 := tdiv_neg' a b hb
  have e2 := tdiv_nn a b hb
  have E1 : Hid _ := e1
  have E2 : Hid _ := e2
  have hq : -9000000000000000000 < a.tdiv b ∧ a.tdiv b < 9000000000000000000 := by
    have := Int.natAbs_tdiv_le_natAbs a b
    omega
  clear e1 e2
  by_cases h : a.tmod b < 0
  · go_enter Tryz.func70, Tryz.ntmps70
    go_wp2
    go_ret
    exact ⟨ret_int (E1.out (by omega)), rfl⟩
  · go_enter Tryz.func70, Tryz.ntmps70
    go_wp2
    go_ret
    exact ⟨ret_int (E2.out (by omega)), rfl⟩

@[reducible] def Cor.v (c : Cor) : Value := .agg #[.int .i64 c.x, .int .i64 c.y, .int .i64 c.d, .int .i64 c.r, .int .i64 c.g, .int .i64 c.b]

set_option maxHeartbeats 400000 in
theorem E_any (a b : Cor) (x y : Int) (w : World) (ha : a.Ok) (hb : b.Ok) (hx : -32768 ≤ x) (hx' : x ≤ 32767) (hy : -32768 ≤ y) (hy' : y ≤ 32767) :
    Calls Tryz.prog 22 #[a.v, b.v, .int .i64 x, .int .i64 y] w fun e w' => e = .returned (.int .i64 (edge a b x y)) ∧ Below w.heap.size w w' := by
  have hw : Hid _ := edge_wrap a b x y ha hb hx hx' hy hy'
  clear ha hb hx hx' hy hy'
  unfold Cor.v
  go_enter Tryz.func22, Tryz.ntmps22
  go_wp2
  go_ret
  exact ⟨ret_int hw.out, ((Below.refl _ _).alloc (Nat.le_refl _) _).alloc (by simp) _⟩

set_option maxHeartbeats 400000 in
theorem has_any (a b : Cor) (n : Int) (w : World) :
    Calls Tryz.prog 106 #[a.v, b.v, .int .i64 n] w fun e w' => e = .returned (.bool (hasB a b n)) ∧ Below w.heap.size w w' := by
  unfold Cor.v hasB
  by_cases h : n = 0
  · rw [if_pos h]
    subst h
    by_cases h1 : b.y < a.y
    · go_enter Tryz.func106, Tryz.ntmps106
      go_wp2
      go_ret
      exact ⟨ret_bool (by simp [h1]), below2⟩
    · by_cases h2 : b.y = a.y
      · have h3 : (b.y == a.y) = true := by simpa using h2
        have H : Hid _ := h2
        clear h2
        go_enter Tryz.func106, Tryz.ntmps106
        go_wp2
        go_ret
        exact ⟨ret_bool (by simp [H.out]), below2⟩
      · have h3 : (b.y == a.y) = false := by simpa using h2
        have H : Hid _ := h2
        clear h2
        go_enter Tryz.func106, Tryz.ntmps106
        go_wp2
        go_ret
        exact ⟨ret_bool (by simp [show ¬ b.y = a.y from H.out]; assumption), below2⟩
  · have h' : (n != 0) = true := by simpa using h
    rw [if_neg h]
    go_enter Tryz.func106, Tryz.ntmps106
    go_wp2
    go_ret
    exact ⟨rfl, below2⟩

set_option maxHeartbeats 400000 in
theorem test_any (k a b : Int) (w : World) :
    Calls Tryz.prog 108 #[.int .i64 k, .int .i64 a, .int .i64 b] w fun e w' => e = .returned (.bool (testB k a b)) ∧ w' = w := by
  go_enter Tryz.func108, Tryz.ntmps108
  go_wp2
  all_goals
    go_ret
    refine ⟨ret_bool ?_, rfl⟩
    go_light
    simp_all [testB] <;> (first | rfl | (by_cases h9 : a = b <;> simp [h9]))

set_option maxHeartbeats 400000 in
theorem cov_any (a b c : Cor) (x y : Int) (w : World) (ha : a.Ok) (hb : b.Ok) (hc : c.Ok) (hx : 0 ≤ x) (hx' : x ≤ 300) (hy : 0 ≤ y) (hy' : y ≤ 300) :
    Calls Tryz.prog 69 #[a.v, b.v, c.v, .int .i64 x, .int .i64 y] w fun e w' => e = .returned (.bool (covB a b c x y)) ∧ Below w.heap.size w w' := by
  unfold covB
  unfold Cor.v
  generalize hu : edge b c (16 * x + 8) (16 * y + 8) = u
  generalize hv : edge c a (16 * x + 8) (16 * y + 8) = v
  generalize ht : edge a b (16 * x + 8) (16 * y + 8) = t
  have Hu : Hid _ := hu
  have Hv : Hid _ := hv
  have Ht : Hid _ := ht
  clear hu hv ht
  go_enter Tryz.func69, Tryz.ntmps69
  go_wp2_with fail
  refine (E_any b c _ _ _ hb hc (by omega) (by omega) (by omega) (by omega)).mono ?_
  rintro e w1 ⟨rfl, hb1⟩
  rw [Hu.out]
  obtain ⟨hc1, hf1⟩ := bcell hb1
  go_wp2_with fail
  refine (E_any c a _ _ _ hc ha (by omega) (by omega) (by omega) (by omega)).mono ?_
  rintro e w2 ⟨rfl, hb2⟩
  rw [Hv.out]
  replace hb2 := hb1.trans (hb2.mono hb1.size)
  clear hc1 hf1 hb1
  obtain ⟨hc1, hf1⟩ := bcell hb2
  go_wp2_with fail
  refine (E_any a b _ _ _ ha hb (by omega) (by omega) (by omega) (by omega)).mono ?_
  rintro e w3 ⟨rfl, hb3⟩
  rw [Ht.out]
  replace hb3 := hb2.trans (hb3.mono hb2.size)
  clear hc1 hf1 hb2
  obtain ⟨hc1, hf1⟩ := bcell hb3
  go_wp2_with fail
  refine (has_any b c _ _).mono ?_
  rintro e w4 ⟨rfl, hb4⟩
  replace hb4 := hb3.trans (hb4.mono hb3.size)
  clear hc1 hf1 hb3
  obtain ⟨hc1, hf1⟩ := bcell hb4
  cases h1 : hasB b c u
  · have H1 : Hid _ := h1
    clear h1
    go_wp2_with fail
    go_ret
    exact ⟨ret_bool (by simp [H1.out]), below_trans3 hb4⟩
  · have H1 : Hid _ := h1
    clear h1
    go_wp2_with fail
    refine (has_any c a _ _).mono ?_
    rintro e w5 ⟨rfl, hb5⟩
    replace hb5 := hb4.trans (hb5.mono hb4.size)
    clear hc1 hf1 hb4
    obtain ⟨hc1, hf1⟩ := bcell hb5
    cases h1 : hasB c a v
    · have H2 : Hid _ := h1
      clear h1
      go_wp2_with fail
      go_ret
      exact ⟨ret_bool (by simp [H1.out, H2.out]), below_trans3 hb5⟩
    · have H2 : Hid _ := h1
      clear h1
      go_wp2_with fail
      refine (has_any a b _ _).mono ?_
      rintro e w6 ⟨rfl, hb6⟩
      replace hb6 := hb5.trans (hb6.mono hb5.size)
      clear hc1 hf1 hb5
      go_wp2_with fail
      go_ret
      exact ⟨ret_bool (by simp [H1.out, H2.out]), below_trans3 hb6⟩

end Go.Proofs.YthcikinkicpicaaGreatDoor

namespace Go.Proofs.YthcikinkicpicaaGreatDoor
open Go.RowKit

@[reducible] def Tst.v (t : Tst) : Value := .agg #[.int .i64 t.depth, .int .i64 t.write, .int .i64 t.test, .int .i64 t.value, .int .i64 t.which, .int .i64 t.writes, .int .i64 t.fail, .int .i64 t.dfail, .int .i64 t.pass, .int .i64 t.faces, .int .i64 t.colours]
@[reducible] def Dot.v (t : Dot) : Value := .agg #[.int .i64 t.r, .int .i64 t.g, .int .i64 t.b, .int .i64 t.d, .int .i64 t.s]

set_option maxHeartbeats 400000 in
theorem made_any (t : Tst) (k s : Int) (w : World) (h1 : 0 ≤ s) (h2 : s ≤ 255) (h3 : 0 ≤ t.writes) (h4 : t.writes ≤ 255) (h5 : 0 ≤ t.value) (h6 : t.value ≤ 255) :
    Calls Tryz.prog 109 #[t.v, .int .i64 k, .int .i64 s] w fun e w' => e = .returned (.int .i64 (made t k s)) ∧ Below w.heap.size w w' := by
  unfold Tst.v
  go_enter Tryz.func109, Tryz.ntmps109
  go_wp2
  all_goals
    go_ret
    go_light
    refine ⟨ret_int ?_, below1⟩
    refine (made_close t _ s h1 h2 h3 h4 ?_ ?_).trans ?_
    · omega
    · omega
    · unfold made stenNew
      simp_all <;> (rw [if_neg (by omega)])

end Go.Proofs.YthcikinkicpicaaGreatDoor
