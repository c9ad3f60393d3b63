import Derived.Test.YthcikinkicpicaaGreatDoorD07

namespace Go.Proofs.YthcikinkicpicaaGreatDoor
open Go.RowKit

theorem rcells_get : ∀ (l : List Rep) (i : Nat) (hi : i < l.length), (rcells l)[4 * i]? = some (.int .i64 l[i].k) ∧ (rcells l)[4 * i + 1]? = some (.int .i64 l[i].a) ∧ (rcells l)[4 * i + 2]? = some (.int .i64 l[i].b) ∧ (rcells l)[4 * i + 3]? = some (.int .i64 l[i].c)
  | [], i, hi => by simp at hi
  | r :: l, 0, _ => ⟨rfl, rfl, rfl, rfl⟩
  | r :: l, i + 1, hi => by
    have h := rcells_get l i (by simpa using hi)
    have e : rcells (r :: l) = [Value.int .i64 r.k, .int .i64 r.a, .int .i64 r.b, .int .i64 r.c] ++ rcells l := by simp [rcells]
    have go : ∀ j, (rcells (r :: l))[4 * (i + 1) + j]? = (rcells l)[4 * i + j]? := fun j => by
      rw [e, List.getElem?_append_right (by simp; omega)]
      congr 1
      simp; omega
    have h0 := go 0
    simp only [Nat.add_zero] at h0
    rw [h0, go 1, go 2, go 3]
    simpa using h

def cntC (l : List Int) : List (Int × List Int) := [(4, [7, 0, 255, 255, 0, 0, 3]), (10, [0]), (9, l), (11, [0]), (14, [0])] ++ (List.range 64).map rdC
theorem encC_append (a b : List (Int × List Int)) : encC (a ++ b) = encC a ++ encC b := by simp [encC]
theorem cnt_enc (l : List Int) : encC (cntC l) = ([4, 7, 0, 255, 255, 0, 0, 3] ++ ((([10, 0] ++ (9 :: l)) ++ [11, 0]) ++ [14, 0])) ++ rdL 64 := by
  rw [cntC, encC_append]
  unfold rdL
  congr 1
  simp [encC]
theorem rd_ok (i : Nat) : cmdOk (rdC i) := cmd_len (by decide) (by decide) (by show ((3 : Nat) : Int) = _; decide)
theorem rdL_ok' : ∀ k, k ≤ 64 → bytesOk (rdL k)
  | 0, _ => bytesOk_nil
  | k + 1, h => by
    rw [rdL_succ]
    exact bytesOk_append (bytesOk_append (bytesOk_append (bytesOk_append (rdL_ok' k (by omega)) (by unfold bytesOk; decide)) (by unfold bytesOk; decide)) (bytesOk_cons (by omega) bytesOk_nil)) (bytesOk_cons (by omega) bytesOk_nil)
theorem rdL_ok : bytesOk (rdL 64) := rdL_ok' 64 (by omega)
/-- The sum of the first k. -/
def sumF (f : Nat → Int) (k : Nat) : Int := ((List.range k).map f).sum
theorem sumF_succ (f : Nat → Int) (k : Nat) : sumF f (k + 1) = sumF f k + f k := by
  unfold sumF
  rw [List.range_succ]
  simp
theorem sumF_bd (f : Nat → Int) (h : ∀ i, 0 ≤ f i ∧ f i ≤ 1) : ∀ k, 0 ≤ sumF f k ∧ sumF f k ≤ k
  | 0 => by simp [sumF]
  | k + 1 => by
    have := sumF_bd f h k
    have := h k
    rw [sumF_succ]
    omega
theorem cnt_ok (l : List Int) (hl : l.length = 27) : ∀ c ∈ cntC l, cmdOk c := by
  intro c hc
  unfold cntC at hc
  rcases List.mem_append.1 hc with hc | hc
  · simp only [List.mem_cons, List.not_mem_nil, or_false] at hc
    rcases hc with rfl | rfl | rfl | rfl | rfl
    · exact cmd_len (by decide) (by decide) (by decide)
    · exact cmd_len (by decide) (by decide) (by decide)
    · exact cmd_len (by decide) (by decide) (by rw [hl]; decide)
    · exact cmd_len (by decide) (by decide) (by decide)
    · exact cmd_len (by decide) (by decide) (by decide)
  · obtain ⟨i, _, rfl⟩ := List.mem_map.1 hc
    exact rd_ok i

/-- Replies: a count, and 64 stencils, whose sum it is. -/
structure CntR (w0 : World) (g cap : Nat) (n : Int) (f : Nat → Int) (w : World) : Prop where
  k0 : w.cell? ⟨g, 0, none⟩ = some (.int .i64 4)
  b0 : w.cell? ⟨g, 2, none⟩ = some (.int .i64 n)
  at_ : ∀ i, i < 64 → w.cell? ⟨g, (i + 1) * 4 + 1, none⟩ = some (.int .i64 (f i))
  sum : ((List.range 64).map f).sum = n
  bd : ∀ i, 0 ≤ f i ∧ f i ≤ 1
  old : Old w0 w

theorem cnt_draw (l : List Int) (hl : l.length = 27) (hb : bytesOk l) (ways : Int) (w0 : World) (ht : TabW w0) (w : World) (ho : Old w0 w) :
    Calls Tryz.prog 11 #[.string (textOf (([4, 7, 0, 255, 255, 0, 0, 3] ++ ((([10, 0] ++ (9 :: l)) ++ [11, 0]) ++ [14, 0])) ++ rdL 64)), .int .i64 ways] w fun e w' => ∃ v, e = .returned v ∧ ∃ g cap n f, v = .slice (some ⟨g, 0, none⟩) 65 cap ∧ CntR w0 g cap n f w' := by
  have h9 : bytesOk (9 :: l) := bytesOk_cons (by decide) hb
  have hbe : bytesOk (encC (cntC l)) := by
    rw [cnt_enc]
    exact bytesOk_append (bytesOk_append (by unfold bytesOk; decide) (bytesOk_append (bytesOk_append (bytesOk_append (by unfold bytesOk; decide) h9) (by unfold bytesOk; decide)) (by unfold bytesOk; decide))) rdL_ok
  have hlen : (encC (cntC l)).length = 298 := by rw [cnt_enc]; simp [hl, rdL_length]
  rw [← cnt_enc]
  refine (draw_cmds (cntC l) (cnt_ok l hl) hbe (by rw [hlen]; simp [cntC]) (by rw [hlen]; omega) ways w (ht.old ho ht.pos)).mono ?_
  rintro e w' ⟨v, rfl, hw, hb⟩
  obtain ⟨n, f, hr, hs, hf⟩ := counted_run l
  rw [show runC (cntC l) 0 st0 = runC ([(4, [7, 0, 255, 255, 0, 0, 3]), (10, [0]), (9, l), (11, [0]), (14, [0])] ++ (List.range 64).map rdC) 0 st0 from rfl, hr] at hw
  have hln : ({ k := 4, a := 0, b := n, c := 0 } :: ((List.range 64).map fun i => ({ k := 3, a := f i, b := 0, c := 0 } : Rep))).length = 65 := by simp
  obtain ⟨g, cap, rfl, hc⟩ := reps_open hw (by rw [hln]; omega)
  rw [hln] at hc
  refine ⟨_, rfl, g, cap, n, f, by rw [hln], ⟨?_, ?_, fun i hi => ?_, hs, hf, ho.trans (Old.of hb)⟩⟩
  · exact hc 0 (by omega)
  · exact hc 2 (by omega)
  · rw [Nat.mul_comm (i + 1) 4, hc _ (by omega), (rcells_get _ (i + 1) (by rw [hln]; omega)).2.1]
    simp

theorem tail2 (l : List Int) : textOf l ++ (⟨#[11, 0]⟩ : ByteArray) = textOf (l ++ [11, 0]) := textOf_append l [11, 0]
theorem tail2e (l : List Int) : textOf l ++ (⟨#[14, 0]⟩ : ByteArray) = textOf (l ++ [14, 0]) := textOf_append l [14, 0]

set_option maxRecDepth 100000 in
set_option maxHeartbeats 2000000 in
theorem Counted_true (hcor : CornersAll) (a0 a1 a2 a3 a4 a5 ways : Int) (w : World) (ht : TabW w) :
    Calls Tryz.prog 9 #[.int .i64 a0, .int .i64 a1, .int .i64 a2, .int .i64 a3, .int .i64 a4, .int .i64 a5, .int .i64 ways] w fun e w' => e = .returned (.bool true) ∧ Old w w' := by
  have HAl : Hid (Calls Tryz.prog 17 #[] w fun e w' => e = .returned (.bool true) ∧ Below w.heap.size w w') := alive_in hcor w ht
  have HPl : Hid (∀ (x y : Int) (W : World), Calls Tryz.prog 21 #[.int .i64 x, .int .i64 y] W fun e w' => e = .returned (.agg #[.int .i64 (shortI x), .int .i64 (shortI y), .int .i64 0, .int .i64 0, .int .i64 0, .int .i64 0]) ∧ Below W.heap.size W w') := place_in
  have HB : Hid (∀ W : World, Calls Tryz.prog 25 #[] W fun e w' => e = .returned (.string (textOf [10, 0])) ∧ w' = W) := begun_in
  have b0 := shortI_bd a0
  have b1 := shortI_bd a1
  have b2 := shortI_bd a2
  have b3 := shortI_bd a3
  have b4 := shortI_bd a4
  have b5 := shortI_bd a5
  have HC : Hid (∀ W : World, Calls Tryz.prog 23 #[.agg #[.int .i64 (shortI a0), .int .i64 (shortI a1), .int .i64 0, .int .i64 0, .int .i64 0, .int .i64 0], .agg #[.int .i64 (shortI a2), .int .i64 (shortI a3), .int .i64 0, .int .i64 0, .int .i64 0, .int .i64 0], .agg #[.int .i64 (shortI a4), .int .i64 (shortI a5), .int .i64 0, .int .i64 0, .int .i64 0, .int .i64 0]] W fun e w' =>
      e = .returned (.string (textOf (9 :: tri27 ⟨shortI a0, shortI a1, 0, 0, 0, 0⟩ ⟨shortI a2, shortI a3, 0, 0, 0, 0⟩ ⟨shortI a4, shortI a5, 0, 0, 0, 0⟩))) ∧ Below W.heap.size W w') := fun W =>
    hcor ⟨shortI a0, shortI a1, 0, 0, 0, 0⟩ ⟨shortI a2, shortI a3, 0, 0, 0, 0⟩ ⟨shortI a4, shortI a5, 0, 0, 0, 0⟩ (cor_ok0 b0 b1 (by omega)) (cor_ok0 b2 b3 (by omega)) (cor_ok0 b4 b5 (by omega)) W
  have hl := tri27_length ⟨shortI a0, shortI a1, 0, 0, 0, 0⟩ ⟨shortI a2, shortI a3, 0, 0, 0, 0⟩ ⟨shortI a4, shortI a5, 0, 0, 0, 0⟩
  have hbl := tri27_ok ⟨shortI a0, shortI a1, 0, 0, 0, 0⟩ ⟨shortI a2, shortI a3, 0, 0, 0, 0⟩ ⟨shortI a4, shortI a5, 0, 0, 0, 0⟩
  generalize tri27 ⟨shortI a0, shortI a1, 0, 0, 0, 0⟩ ⟨shortI a2, shortI a3, 0, 0, 0, 0⟩ ⟨shortI a4, shortI a5, 0, 0, 0, 0⟩ = L at *
  have HD : Hid (∀ (W : World) (X : List Int), Old w W → X = (([10, 0] ++ (9 :: L)) ++ [11, 0]) ++ [14, 0] → Calls Tryz.prog 24 #[.string (textOf X), .int .i64 ways] W fun e w' => ∃ v, e = .returned v ∧ ∃ g cap n f, v = .slice (some ⟨g, 0, none⟩) 65 cap ∧ CntR w g cap n f w') := by
    intro W X hW hX
    subst hX
    refine stencils_via _ (by simp; omega) ways W _ fun W' hW' => ?_
    exact cnt_draw L hl hbl ways w ht W' (hW.trans hW')
  have ta := textOf_append
  have tb := tail2
  have tc := tail2e
  have ts := textOf_size
  clear hcor ht b0 b1 b2 b3 b4 b5 hbl
  go_enter Tryz.func9, Tryz.ntmps9
  go_wp2_with fail
  with_reducible refine HAl.out.mono ?_
  rintro e w1 ⟨rfl, hb1⟩
  go_wp2_with fail
  with_reducible refine (HB.out _).mono ?_
  rintro e w7 ⟨rfl, rfl⟩
  go_wp2_with fail
  with_reducible refine (HPl.out _ _ _).mono ?_
  rintro e w2 ⟨rfl, hb2⟩
  have hB2 := hb1.trans (hb2.mono hb1.size)
  go_wp2_with fail
  with_reducible refine (HPl.out _ _ _).mono ?_
  rintro e w3 ⟨rfl, hb3⟩
  have hB3 := hB2.trans (hb3.mono hB2.size)
  go_wp2_with fail
  with_reducible refine (HPl.out _ _ _).mono ?_
  rintro e w4 ⟨rfl, hb4⟩
  have hB4 := hB3.trans (hb4.mono hB3.size)
  go_wp2_with fail
  with_reducible refine (HC.out _).mono ?_
  rintro e w6 ⟨rfl, hb6⟩
  have hB6 := hB4.trans (hb6.mono hB4.size)
  have hO := Old.of hB6
  clear hb1 hb2 hb3 hb4 hb6 hB2 hB3 hB4 hB6
  go_wp2_with fail
  refine (HD.out _ _ hO (by simp)).mono ?_
  rintro e w8 ⟨v, rfl, g, cap, n, f, rfl, hR⟩
  have c0 := hR.k0
  have c2 := hR.b0
  go_wp2_with fail
  go_loopg [18, 19] 64 (fun n s i wr => ∃ k : Nat, k + n = 64 ∧ i = .int .i64 ((k + 1 : Nat) : Int) ∧ s = .int .i64 (sumF f k) ∧ wr = w8)
  case atStart => exact ⟨0, by omega, rfl, rfl, rfl⟩
  case round =>
    obtain ⟨k, hk, rfl, rfl, rfl⟩ := hrel
    by_cases hlt : k < 64
    · obtain ⟨n', rfl⟩ : ∃ n', gk = n' + 1 := ⟨gk - 1, by omega⟩
      have ca := hR.at_ k hlt
      have bs := sumF_bd f hR.bd k
      have bf := hR.bd k
      have HE : Hid (sumF f (k + 1) = sumF f k + f k) := sumF_succ f k
      generalize sumF f k = S at *
      generalize f k = fk at *
      clear hO
      go_wp2_with fail
      go_roundg n'
      case rel => exact ⟨k + 1, by omega, by go_num, by rw [HE.out], rfl⟩
      case measure => omega
    · have hg0 : gk = 0 := by omega
      subst hg0
      obtain rfl : k = 64 := by omega
      have hs : sumF f 64 = n := hR.sum
      have hold := hR.old
      clear hR
      subst hs
      go_wp2_with fail
      go_ret
      exact ⟨rfl, hold⟩
end Go.Proofs.YthcikinkicpicaaGreatDoor
