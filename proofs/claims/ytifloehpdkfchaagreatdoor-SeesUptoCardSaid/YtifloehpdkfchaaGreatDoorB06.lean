import Derived.Test.YtifloehpdkfchaaGreatDoorB05

namespace Go.Proofs.YtifloehpdkfchaaGreatDoor
open Go.RowKit

theorem aboveB_snoc (l : List Int) (k : Nat) (h : k < l.length) (most : Int) : aboveB (l.take (k + 1)) most = (aboveB (l.take k) most || decide (most < l.getD k 0)) := by
  unfold aboveB
  rw [List.take_succ_eq_append_getElem h, List.any_append]
  simp [h]

theorem aboveB_true (l : List Int) (k : Nat) (h : k < l.length) (most : Int) (hm : most < l.getD k 0) : aboveB l most = true := by
  unfold aboveB
  rw [List.any_eq_true]
  refine ⟨l[k], List.getElem_mem _, ?_⟩
  rw [List.getD_eq_getElem?_getD, List.getElem?_eq_getElem h] at hm
  simpa using hm

set_option maxHeartbeats 400000 in
theorem above_any (g so cap : Nat) (l : List Int) (most : Int) (w : World) (hcell : ∀ j, j < l.length → w.cell? ⟨g, so + j, none⟩ = some (.int .i64 (l.getD j 0))) (hlen : l.length ≤ 2000) :
    Calls Tryz.prog 25 #[.slice (some ⟨g, so, none⟩) l.length cap, .int .i64 most] w fun e w' => e = .returned (.bool (aboveB l most)) ∧ w' = w := by
  go_enter Tryz.func25, Tryz.ntmps25
  go_wp2
  go_loop [5] (fun i => ∃ k : Nat, k ≤ l.length ∧ i = .int .i64 k ∧ aboveB (l.take k) most = false) (fun i => l.length - (intOf i).toNat)
  case atStart => exact ⟨0, Nat.zero_le _, rfl, rfl⟩
  case round =>
    obtain ⟨k, hk, rfl, hf⟩ := hrel
    have HF : Hid _ := hf
    clear hf
    by_cases hlt : k < l.length
    · have hc := hcell k hlt
      have hs := aboveB_snoc l k hlt most
      have ht := aboveB_true l k hlt most
      have HS : Hid _ := hs
      have HT : Hid _ := ht
      clear hs ht hcell
      generalize hv : l.getD k 0 = v at *
      have HV : Hid _ := hv
      clear hv
      by_cases hm : most < v
      · go_wp2
        go_ret
        exact ⟨ret_bool (HT.out hm).symm, rfl⟩
      · go_wp2
        go_round
        case rel => exact ⟨k + 1, by omega, by go_num, by rw [HS.out, HF.out]; simp; omega⟩
        case measure => simp [intOf]; omega
    · go_wp2
      go_ret
      exact ⟨ret_bool (by rw [← HF.out, List.take_of_length_le (by omega)]), rfl⟩

theorem above3 (g so cap : Nat) (b c e most : Int) (w : World) (h1 : w.cell? ⟨g, so, none⟩ = some (.int .i64 b))
    (h2 : w.cell? ⟨g, so + 1, none⟩ = some (.int .i64 c)) (h3 : w.cell? ⟨g, so + 2, none⟩ = some (.int .i64 e)) :
    Calls Tryz.prog 25 #[.slice (some ⟨g, so, none⟩) 3 cap, .int .i64 most] w fun r w' => r = .returned (.bool (aboveB [b, c, e] most)) ∧ w' = w :=
  above_any g so cap [b, c, e] most w (fun j hj => by
    have : j = 0 ∨ j = 1 ∨ j = 2 := by simp at hj; omega
    rcases this with rfl | rfl | rfl
    · exact h1
    · exact h2
    · exact h3) (by simp)

set_option maxRecDepth 100000 in
set_option maxHeartbeats 1000000 in
theorem wrong_any (g so cap : Nat) (a b c e : Int) (w : World) (h0 : w.cell? ⟨g, so, none⟩ = some (.int .i64 a)) (h1 : w.cell? ⟨g, so + 1, none⟩ = some (.int .i64 b))
    (h2 : w.cell? ⟨g, so + 2, none⟩ = some (.int .i64 c)) (h3 : w.cell? ⟨g, so + 3, none⟩ = some (.int .i64 e)) (hcap : 4 ≤ cap) :
    Calls Tryz.prog 26 #[.slice (some ⟨g, so, none⟩) 4 cap] w fun r w' => r = .returned (.bool (wrongB a b c e)) ∧ w' = w := by
  by_cases ha6 : a = 6
  · subst ha6
    go_enter Tryz.func26, Tryz.ntmps26
    go_wp2
    go_ret
    exact ⟨ret_bool (by simp [wrongB]), rfl⟩
  by_cases ha7 : a = 7
  · subst ha7
    by_cases hc : 7 < c
    · go_enter Tryz.func26, Tryz.ntmps26
      go_wp2
      go_ret
      exact ⟨ret_bool (by simp [wrongB, hc]), rfl⟩
    · go_enter Tryz.func26, Tryz.ntmps26
      go_wp2
      go_ret
      exact ⟨ret_bool (by simp [wrongB]; omega), rfl⟩
  by_cases ha8 : a = 8
  · subst ha8
    go_enter Tryz.func26, Tryz.ntmps26
    go_wp2
    go_ret
    exact ⟨ret_bool (by simp [wrongB]), rfl⟩
  have b6 : (a == 6) = false := by simpa using ha6
  have b7 : (a == 7) = false := by simpa using ha7
  have b8 : (a == 8) = false := by simpa using ha8
  have hfin : Hid (wrongB a b c e = (decide (8 < a) || aboveB [b, c, e] 7)) := by unfold wrongB; rw [if_neg ha6, if_neg ha7, if_neg ha8]; exact rfl
  clear ha6 ha7 ha8
  by_cases hgt : 8 < a
  · go_enter Tryz.func26, Tryz.ntmps26
    go_wp2
    go_ret
    exact ⟨ret_bool (by rw [hfin.out]; simp [hgt]), rfl⟩
  · go_enter Tryz.func26, Tryz.ntmps26
    go_wp2_with fail
    refine (above3 g (so + 1) (cap - 1) b c e 7 w h1 h2 h3).mono ?_
    rintro r w' ⟨rfl, rfl⟩
    go_wp2_with fail
    go_ret
    exact ⟨ret_bool (by rw [hfin.out]; simp; omega), rfl⟩

end Go.Proofs.YtifloehpdkfchaaGreatDoor
