import Derived.Test.YthcikinkicpicaaGreatDoorD03
import Derived.Test.YthcikinkicpicaaGreatDoorD02
import Derived.Test.YthcikinkicpicaaGreatDoorD01
import Derived.Test.YthcikinkicpicaaGreatDoorA36

namespace Go.Proofs.YthcikinkicpicaaGreatDoor
open Go.RowKit

theorem reps_open {w : World} {base : Nat} {v : Value} {l : List Rep} (h : w.ownsRow base 25 4 v l.length (rcells l)) (hl : 0 < l.length) : ∃ g cap, v = .slice (some ⟨g, 0, none⟩) l.length cap ∧ ∀ j, j < 4 * l.length → w.cell? ⟨g, j, none⟩ = (rcells l)[j]? := by
  rcases h.2 with ⟨_, h2⟩ | ⟨g, cap, cur, hv, _⟩
  · exact absurd h2 (by omega)
  · subst hv
    exact ⟨g, cap, rfl, fun j hj => h.cellAt j (by omega)⟩

theorem cmd_len {k : Int} {a : List Int} (h8 : k ≠ 8) (h1 : 1 ≤ kindLen k) (h2 : (a.length : Int) = kindLen k) : cmdOk (k, a) := .inr ⟨h8, h1, h2⟩

/-- What is drawn of a list of commands. -/
theorem draw_cmds (cs : List (Int × List Int)) (hok : ∀ c ∈ cs, cmdOk c) (hb : bytesOk (encC cs)) (hl : cs.length ≤ (encC cs).length) (hsz : (encC cs).length ≤ 100000000000) (ways : Int) (w : World) (ht : TabW w) :
    Calls Tryz.prog 11 #[.string (textOf (encC cs)), .int .i64 ways] w fun e w' => ∃ v, e = .returned v ∧ w'.ownsRow w.heap.size 25 4 v (runC cs 0 st0).out.length (rcells (runC cs 0 st0).out) ∧ Below w.heap.size w w' := by
  have := draw_in (textOf (encC cs)) ways w (by rw [textOf_size]; exact hsz) ht
  rwa [play_text cs hok hb hl] at this

def cA1 : Cor := ⟨-999, -999, 0, 7, 0, 0⟩
def cA2 : Cor := ⟨3999, -999, 0, 7, 0, 0⟩
def cA3 : Cor := ⟨-999, 3999, 0, 7, 0, 0⟩
theorem alive_text : textOf (([10, 0] ++ cornersL cA1 cA2 cA3) ++ [11, 0, 14, 0, 13, 1, 0, 0]) = textOf (encC aliveC) := by
  have e : ([10, 0] ++ cornersL cA1 cA2 cA3) ++ [11, 0, 14, 0, 13, 1, 0, 0] = encC aliveC := by decide
  rw [e]
theorem tail8 (l : List Int) : textOf l ++ (⟨#[11, 0, 14, 0, 13, 1, 0, 0]⟩ : ByteArray) = textOf (l ++ [11, 0, 14, 0, 13, 1, 0, 0]) := textOf_append l [11, 0, 14, 0, 13, 1, 0, 0]
theorem alive_ok : ∀ c ∈ aliveC, cmdOk c := by
  intro c hc
  unfold aliveC at hc
  simp only [List.mem_cons, List.not_mem_nil, or_false] at hc
  rcases hc with rfl | rfl | rfl | rfl | rfl <;> exact cmd_len (by decide) (by decide) (by decide)

theorem eqR1 (w : World) : Sem.run Tryz.prog (Op.equalIn 10000 25 (.agg #[.int .i64 4, .int .i64 0, .int .i64 64, .int .i64 0]) (.agg #[.int .i64 4, .int .i64 0, .int .i64 64, .int .i64 0])) w = .ok true w := by kernel_rfl
theorem eqR2 (w : World) : Sem.run Tryz.prog (Op.equalIn 10000 25 (.agg #[.int .i64 1, .int .i64 7, .int .i64 0, .int .i64 0]) (.agg #[.int .i64 1, .int .i64 7, .int .i64 0, .int .i64 0])) w = .ok true w := by kernel_rfl

set_option maxRecDepth 100000 in
set_option maxHeartbeats 1000000 in
theorem alive_in (hcor : CornersAll) (w : World) (ht : TabW w) : Calls Tryz.prog 17 #[] w fun e w' => e = .returned (.bool true) ∧ Below w.heap.size w w' := by
  have HB : Hid (∀ W : World, Calls Tryz.prog 25 #[] W fun e w' => e = .returned (.string (textOf [10, 0])) ∧ w' = W) := begun_in
  have HC : Hid (∀ W : World, Calls Tryz.prog 23 #[.agg #[.int .i64 (-999), .int .i64 (-999), .int .i64 0, .int .i64 7, .int .i64 0, .int .i64 0], .agg #[.int .i64 3999, .int .i64 (-999), .int .i64 0, .int .i64 7, .int .i64 0, .int .i64 0], .agg #[.int .i64 (-999), .int .i64 3999, .int .i64 0, .int .i64 7, .int .i64 0, .int .i64 0]] W fun e w' => e = .returned (.string (textOf (cornersL cA1 cA2 cA3))) ∧ Below W.heap.size W w') :=
    fun W => hcor cA1 cA2 cA3 ⟨by decide, by decide, by decide, by decide, by decide, by decide, by decide, by decide, by decide, by decide, by decide, by decide⟩ ⟨by decide, by decide, by decide, by decide, by decide, by decide, by decide, by decide, by decide, by decide, by decide, by decide⟩ ⟨by decide, by decide, by decide, by decide, by decide, by decide, by decide, by decide, by decide, by decide, by decide, by decide⟩ W
  have HD : Hid (∀ W : World, Below w.heap.size w W → Calls Tryz.prog 11 #[.string (textOf (([10, 0] ++ cornersL cA1 cA2 cA3) ++ [11, 0, 14, 0, 13, 1, 0, 0])), .int .i64 0] W fun e w' => ∃ g cap, e = .returned (.slice (some ⟨g, 0, none⟩) 2 cap) ∧ (∀ j, j < 8 → w'.cell? ⟨g, j, none⟩ = ([.int .i64 4, .int .i64 0, .int .i64 64, .int .i64 0, .int .i64 1, .int .i64 7, .int .i64 0, .int .i64 0] : List Value)[j]?) ∧ Below w.heap.size w w') := by
    intro W hW
    rw [alive_text]
    refine (draw_cmds aliveC alive_ok (by unfold bytesOk; decide) (by decide) (by decide) 0 W (ht.low hW ht.pos)).mono ?_
    rintro e w' ⟨v, rfl, ho, hb⟩
    rw [alive_run] at ho
    obtain ⟨g, cap, rfl, hc⟩ := reps_open ho (by decide)
    exact ⟨g, cap, rfl, hc, hW.trans (hb.mono hW.size)⟩
  have ta := textOf_append
  have t8 := tail8
  have q1 := eqR1
  have q2 := eqR2
  clear ht
  have hL : (cornersL cA1 cA2 cA3).length = 28 := rfl
  have ts := textOf_size
  generalize cornersL cA1 cA2 cA3 = L at *
  go_enter Tryz.func17, Tryz.ntmps17
  go_wp2_with (first
    | (go_at_call 25; refine (HB.out _).mono ?_; rintro e w1 ⟨rfl, rfl⟩)
    | (go_at_call 23; refine (HC.out _).mono ?_; rintro e w2 ⟨rfl, hb2⟩)
    | (go_at_call 11; refine (HD.out _ hb2).mono ?_; rintro e w3 ⟨g, cap, rfl, hc3, hb3⟩; have c0 := hc3 0 (by omega); have c1 := hc3 1 (by omega); have c2 := hc3 2 (by omega); have c3 := hc3 3 (by omega); have c4 := hc3 4 (by omega); have c5 := hc3 5 (by omega); have c6 := hc3 6 (by omega); have c7 := hc3 7 (by omega); simp at c0 c1 c2 c3 c4 c5 c6 c7))
  go_ret
  exact ⟨rfl, hb3⟩
end Go.Proofs.YthcikinkicpicaaGreatDoor

namespace Go.Proofs.YthcikinkicpicaaGreatDoor
open Go.RowKit

theorem twoL_ok (n : Int) : bytesOk (twoL n) := by
  intro v hv
  have h1 := Int.emod_nonneg n (show (256 : Int) ≠ 0 by decide)
  have h2 := Int.emod_lt_of_pos n (show (0 : Int) < 256 by decide)
  have h3 := Int.emod_nonneg (n / 256) (show (256 : Int) ≠ 0 by decide)
  have h4 := Int.emod_lt_of_pos (n / 256) (show (0 : Int) < 256 by decide)
  simp only [twoL, List.mem_cons, List.not_mem_nil, or_false] at hv
  rcases hv with rfl | rfl <;> omega
theorem bytesOk_append {a b : List Int} (ha : bytesOk a) (hb : bytesOk b) : bytesOk (a ++ b) := by
  intro v hv
  rcases List.mem_append.1 hv with h | h
  · exact ha v h
  · exact hb v h
theorem bytesOk_cons {x : Int} {b : List Int} (hx : 0 ≤ x ∧ x ≤ 255) (hb : bytesOk b) : bytesOk (x :: b) := by
  intro v hv
  rcases List.mem_cons.1 hv with rfl | h
  · exact hx
  · exact hb v h
theorem bytesOk_nil : bytesOk [] := fun v hv => by simp at hv
theorem mod_ok (n : Int) : 0 ≤ n % 256 ∧ n % 256 ≤ 255 := by
  have h1 := Int.emod_nonneg n (show (256 : Int) ≠ 0 by decide)
  have h2 := Int.emod_lt_of_pos n (show (0 : Int) < 256 by decide)
  omega
theorem cornerL_ok (c : Cor) : bytesOk (cornerL c) :=
  bytesOk_append (bytesOk_append (bytesOk_append (twoL_ok _) (twoL_ok _)) (twoL_ok _)) (bytesOk_cons (mod_ok _) (bytesOk_cons (mod_ok _) (bytesOk_cons (mod_ok _) bytesOk_nil)))
/-- A triangle's 27 numbers. -/
def tri27 (a b c : Cor) : List Int := cornerL a ++ cornerL b ++ cornerL c
theorem tri27_ok (a b c : Cor) : bytesOk (tri27 a b c) := bytesOk_append (bytesOk_append (cornerL_ok a) (cornerL_ok b)) (cornerL_ok c)
theorem tri27_length (a b c : Cor) : (tri27 a b c).length = 27 := rfl

def againC (l : List Int) : List (Int × List Int) := [(3, [1, 1]), (9, l), (10, [0]), (9, l), (11, [0]), (14, [0])]
theorem again_enc (l : List Int) : encC (againC l) = [3, 1, 1] ++ ((9 :: l) ++ ([10, 0] ++ ((9 :: l) ++ [11, 0, 14, 0]))) := by
  simp [encC, againC]
theorem again_okC (l : List Int) (hl : l.length = 27) : ∀ c ∈ againC l, cmdOk c := by
  intro c hc
  unfold againC at hc
  simp only [List.mem_cons, List.not_mem_nil, or_false] at hc
  rcases hc with rfl | rfl | rfl | rfl | rfl | rfl
  · exact cmd_len (by decide) (by decide) (by decide)
  · exact cmd_len (by decide) (by decide) (by rw [hl]; decide)
  · exact cmd_len (by decide) (by decide) (by decide)
  · exact cmd_len (by decide) (by decide) (by rw [hl]; decide)
  · exact cmd_len (by decide) (by decide) (by decide)
  · exact cmd_len (by decide) (by decide) (by decide)
theorem again_draw (l : List Int) (hl : l.length = 27) (hb : bytesOk l) (ways : Int) (w : World) (ht : TabW w) :
    Calls Tryz.prog 11 #[.string (textOf ([3, 1, 1] ++ ((9 :: l) ++ ([10, 0] ++ ((9 :: l) ++ [11, 0, 14, 0]))))), .int .i64 ways] w fun e w' => ∃ g cap, e = .returned (.slice (some ⟨g, 0, none⟩) 1 cap) ∧ (∀ j, j < 4 → w'.cell? ⟨g, j, none⟩ = ([.int .i64 4, .int .i64 0, .int .i64 0, .int .i64 0] : List Value)[j]?) ∧ Below w.heap.size w w' := by
  have h9 : bytesOk (9 :: l) := bytesOk_cons (by decide) hb
  have hbe : bytesOk (encC (againC l)) := by
    rw [again_enc]
    exact bytesOk_append (by unfold bytesOk; decide) (bytesOk_append h9 (bytesOk_append (by unfold bytesOk; decide) (bytesOk_append h9 (by unfold bytesOk; decide))))
  have hlen : (encC (againC l)).length = 65 := by rw [again_enc]; simp [hl]
  rw [← again_enc]
  refine (draw_cmds (againC l) (again_okC l hl) hbe (by rw [hlen]; show 6 ≤ 65; omega) (by rw [hlen]; omega) ways w ht).mono ?_
  rintro e w' ⟨v, rfl, ho, hb⟩
  have hr := again_run l
  rw [show runC (againC l) 0 st0 = runC [(3, [1, 1]), (9, l), (10, [0]), (9, l), (11, [0]), (14, [0])] 0 st0 from rfl, hr] at ho
  obtain ⟨g, cap, rfl, hc⟩ := reps_open ho (by decide)
  exact ⟨g, cap, rfl, hc, hb⟩

theorem cor_ok0 {x y d : Int} (hx : -32768 ≤ x ∧ x ≤ 32767) (hy : -32768 ≤ y ∧ y ≤ 32767) (hd : 0 ≤ d ∧ d ≤ 65535) : Cor.Ok ⟨x, y, d, 0, 0, 0⟩ :=
  ⟨hx.1, hx.2, hy.1, hy.2, hd.1, hd.2, Int.le_refl 0, (by omega : (0 : Int) ≤ 255), Int.le_refl 0, (by omega : (0 : Int) ≤ 255), Int.le_refl 0, (by omega : (0 : Int) ≤ 255)⟩
theorem t311 (l : List Int) : (⟨#[3, 1, 1]⟩ : ByteArray) ++ textOf l = textOf ([3, 1, 1] ++ l) := textOf_append [3, 1, 1] l
theorem tail4 (l : List Int) : textOf l ++ (⟨#[11, 0, 14, 0]⟩ : ByteArray) = textOf (l ++ [11, 0, 14, 0]) := textOf_append l [11, 0, 14, 0]

set_option maxRecDepth 100000 in
set_option maxHeartbeats 2000000 in
theorem Again_true (hcor : CornersAll) (a0 a1 a2 a3 a4 a5 dp ways : Int) (w : World) (_hd : -9223372036854775808 ≤ dp ∧ dp ≤ 9223372036854775807) (ht : TabW w) :
    Calls Tryz.prog 10 #[.int .i64 a0, .int .i64 a1, .int .i64 a2, .int .i64 a3, .int .i64 a4, .int .i64 a5, .int .i64 dp, .int .i64 ways] w fun e w' => e = .returned (.bool true) ∧ Below w.heap.size w w' := by
  have HAl : Hid (Calls Tryz.prog 17 #[] w fun e w' => e = .returned (.bool true) ∧ Below w.heap.size w w') := alive_in hcor w ht
  have HPl : Hid (∀ (x y : Int) (W : World), Calls Tryz.prog 21 #[.int .i64 x, .int .i64 y] W fun e w' => e = .returned (.agg #[.int .i64 (shortI x), .int .i64 (shortI y), .int .i64 0, .int .i64 0, .int .i64 0, .int .i64 0]) ∧ Below W.heap.size W w') := place_in
  have HB : Hid (∀ W : World, Calls Tryz.prog 25 #[] W fun e w' => e = .returned (.string (textOf [10, 0])) ∧ w' = W) := begun_in
  have b0 := shortI_bd a0
  have b1 := shortI_bd a1
  have b2 := shortI_bd a2
  have b3 := shortI_bd a3
  have b4 := shortI_bd a4
  have b5 := shortI_bd a5
  have m1 := Int.emod_nonneg dp (show (65536 : Int) ≠ 0 by decide)
  have m2 := Int.emod_lt_of_pos dp (show (0 : Int) < 65536 by decide)
  have m3 := Int.emod_nonneg (dp / 65536) (show (65536 : Int) ≠ 0 by decide)
  have m4 := Int.emod_lt_of_pos (dp / 65536) (show (0 : Int) < 65536 by decide)
  have e1 := and65535 dp
  have e2 := and65535 (dp / 65536)
  generalize hd1 : dp % 65536 = d1 at *
  generalize hd2 : dp / 65536 % 65536 = d2 at *
  have HC : Hid (∀ W : World, Calls Tryz.prog 23 #[.agg #[.int .i64 (shortI a0), .int .i64 (shortI a1), .int .i64 d1, .int .i64 0, .int .i64 0, .int .i64 0], .agg #[.int .i64 (shortI a2), .int .i64 (shortI a3), .int .i64 0, .int .i64 0, .int .i64 0, .int .i64 0], .agg #[.int .i64 (shortI a4), .int .i64 (shortI a5), .int .i64 d2, .int .i64 0, .int .i64 0, .int .i64 0]] W fun e w' =>
      e = .returned (.string (textOf (9 :: tri27 ⟨shortI a0, shortI a1, d1, 0, 0, 0⟩ ⟨shortI a2, shortI a3, 0, 0, 0, 0⟩ ⟨shortI a4, shortI a5, d2, 0, 0, 0⟩))) ∧ Below W.heap.size W w') := fun W =>
    hcor ⟨shortI a0, shortI a1, d1, 0, 0, 0⟩ ⟨shortI a2, shortI a3, 0, 0, 0, 0⟩ ⟨shortI a4, shortI a5, d2, 0, 0, 0⟩ (cor_ok0 b0 b1 (by omega)) (cor_ok0 b2 b3 (by omega)) (cor_ok0 b4 b5 (by omega)) W
  have hl := tri27_length ⟨shortI a0, shortI a1, d1, 0, 0, 0⟩ ⟨shortI a2, shortI a3, 0, 0, 0, 0⟩ ⟨shortI a4, shortI a5, d2, 0, 0, 0⟩
  have hbl := tri27_ok ⟨shortI a0, shortI a1, d1, 0, 0, 0⟩ ⟨shortI a2, shortI a3, 0, 0, 0, 0⟩ ⟨shortI a4, shortI a5, d2, 0, 0, 0⟩
  generalize tri27 ⟨shortI a0, shortI a1, d1, 0, 0, 0⟩ ⟨shortI a2, shortI a3, 0, 0, 0, 0⟩ ⟨shortI a4, shortI a5, d2, 0, 0, 0⟩ = L at *
  have HD : Hid (∀ (W : World) (X : List Int), Below w.heap.size w W → X = [3, 1, 1] ++ ((9 :: L) ++ ([10, 0] ++ ((9 :: L) ++ [11, 0, 14, 0]))) → Calls Tryz.prog 11 #[.string (textOf X), .int .i64 ways] W fun e w' => ∃ g cap, e = .returned (.slice (some ⟨g, 0, none⟩) 1 cap) ∧ (w'.cell? ⟨g, 0, none⟩ = some (.int .i64 4) ∧ w'.cell? ⟨g, 2, none⟩ = some (.int .i64 0)) ∧ Below w.heap.size w w') := by
    intro W X hW hX
    rw [hX]
    refine (again_draw L hl hbl ways W (ht.low hW ht.pos)).mono ?_
    rintro e w' ⟨g, cap, rfl, hc, hb⟩
    exact ⟨g, cap, rfl, ⟨hc 0 (by omega), hc 2 (by omega)⟩, hW.trans (hb.mono hW.size)⟩
  have ta := textOf_append
  have tb := t311
  have tc := tail4
  have ts := textOf_size
  clear hcor ht b0 b1 b2 b3 b4 b5 m1 m2 m3 m4 hbl hd1 hd2
  go_enter Tryz.func10, Tryz.ntmps10
  go_wp2_with fail
  with_reducible refine HAl.out.mono ?_
  rintro e w1 ⟨rfl, hb1⟩
  go_wp2_with fail
  with_reducible refine (HPl.out _ _ _).mono ?_
  rintro e w2 ⟨rfl, hb2⟩
  have hB2 := hb1.trans (hb2.mono hb1.size)
  go_wp2_with fail
  with_reducible refine (HPl.out _ _ _).mono ?_
  rintro e w3 ⟨rfl, hb3⟩
  have hA3 := rg_of hb3
  have s3 := hb3.size
  simp only [World.size_alloc] at s3
  have hB3 : Below w.heap.size w w3 := (hB2.alloc hB2.size _).trans (hb3.mono (by have := hB2.size; simp; omega))
  go_wp2_with fail
  with_reducible refine (HPl.out _ _ _).mono ?_
  rintro e w4 ⟨rfl, hb4⟩
  have hB4b := rg_of hb4
  have s4 := hb4.size
  simp only [World.size_alloc] at s4
  have hA4 := (hb4.block w2.heap.size (by simp; omega)).trans ((heap_alloc_old (by omega) _).trans hA3)
  have hB4 : Below w.heap.size w w4 := (hB3.alloc hB3.size _).trans (hb4.mono (by have := hB3.size; simp; omega))
  have lA : w2.heap.size < w4.heap.size := by omega
  have lB : w3.heap.size < w4.heap.size := by omega
  have nAB : w2.heap.size ≠ w3.heap.size := by omega
  have nAC : w2.heap.size ≠ w4.heap.size := by omega
  have nBC : w3.heap.size ≠ w4.heap.size := by omega
  have cA0 : ∀ ob, (w4.alloc ob).cell? ⟨w2.heap.size, 0, none⟩ = some (.int .i64 (shortI a0)) := fun ob => (World.cell?_alloc_past _ _ _ lA).trans (cell_of hA4 0)
  have cA1 : ∀ ob, (w4.alloc ob).cell? ⟨w2.heap.size, 1, none⟩ = some (.int .i64 (shortI a1)) := fun ob => (World.cell?_alloc_past _ _ _ lA).trans (cell_of hA4 1)
  have cA2 : ∀ ob, (w4.alloc ob).cell? ⟨w2.heap.size, 2, none⟩ = some (.int .i64 0) := fun ob => (World.cell?_alloc_past _ _ _ lA).trans (cell_of hA4 2)
  have cA3 : ∀ ob, (w4.alloc ob).cell? ⟨w2.heap.size, 3, none⟩ = some (.int .i64 0) := fun ob => (World.cell?_alloc_past _ _ _ lA).trans (cell_of hA4 3)
  have cA4 : ∀ ob, (w4.alloc ob).cell? ⟨w2.heap.size, 4, none⟩ = some (.int .i64 0) := fun ob => (World.cell?_alloc_past _ _ _ lA).trans (cell_of hA4 4)
  have cA5 : ∀ ob, (w4.alloc ob).cell? ⟨w2.heap.size, 5, none⟩ = some (.int .i64 0) := fun ob => (World.cell?_alloc_past _ _ _ lA).trans (cell_of hA4 5)
  have cB0 : ∀ ob, (w4.alloc ob).cell? ⟨w3.heap.size, 0, none⟩ = some (.int .i64 (shortI a2)) := fun ob => (World.cell?_alloc_past _ _ _ lB).trans (cell_of hB4b 0)
  have cB1 : ∀ ob, (w4.alloc ob).cell? ⟨w3.heap.size, 1, none⟩ = some (.int .i64 (shortI a3)) := fun ob => (World.cell?_alloc_past _ _ _ lB).trans (cell_of hB4b 1)
  have cB2 : ∀ ob, (w4.alloc ob).cell? ⟨w3.heap.size, 2, none⟩ = some (.int .i64 0) := fun ob => (World.cell?_alloc_past _ _ _ lB).trans (cell_of hB4b 2)
  have cB3 : ∀ ob, (w4.alloc ob).cell? ⟨w3.heap.size, 3, none⟩ = some (.int .i64 0) := fun ob => (World.cell?_alloc_past _ _ _ lB).trans (cell_of hB4b 3)
  have cB4 : ∀ ob, (w4.alloc ob).cell? ⟨w3.heap.size, 4, none⟩ = some (.int .i64 0) := fun ob => (World.cell?_alloc_past _ _ _ lB).trans (cell_of hB4b 4)
  have cB5 : ∀ ob, (w4.alloc ob).cell? ⟨w3.heap.size, 5, none⟩ = some (.int .i64 0) := fun ob => (World.cell?_alloc_past _ _ _ lB).trans (cell_of hB4b 5)
  have fA : ∀ ob, (w4.alloc ob).frozen? ⟨w2.heap.size, 2, none⟩ = false := fun ob => frozen_of ((heap_alloc_old lA ob).trans hA4) 2
  have hA5 := heap_set_same hA4 2 (.int .i64 d1)
  have hB5 : (w4.setCell ⟨w2.heap.size, 2, none⟩ (.int .i64 d1)).heap[w3.heap.size]? = some (.cells #[.int .i64 (shortI a2), .int .i64 (shortI a3), .int .i64 0, .int .i64 0, .int .i64 0, .int .i64 0] 52 (0, 0)) := by first | (rw [heap_set_ne (fun e => nAB e.symm)]; exact hB4b) | (rw [heap_set_ne nAB]; exact hB4b)
  have gA0 : ∀ ob, ((w4.setCell ⟨w2.heap.size, 2, none⟩ (.int .i64 d1)).alloc ob).cell? ⟨w2.heap.size, 0, none⟩ = some (.int .i64 (shortI a0)) := fun ob => cell_of ((heap_alloc_old (by rw [hs_set]; exact lA) ob).trans hA5) 0
  have gA1 : ∀ ob, ((w4.setCell ⟨w2.heap.size, 2, none⟩ (.int .i64 d1)).alloc ob).cell? ⟨w2.heap.size, 1, none⟩ = some (.int .i64 (shortI a1)) := fun ob => cell_of ((heap_alloc_old (by rw [hs_set]; exact lA) ob).trans hA5) 1
  have gA2 : ∀ ob, ((w4.setCell ⟨w2.heap.size, 2, none⟩ (.int .i64 d1)).alloc ob).cell? ⟨w2.heap.size, 2, none⟩ = some (.int .i64 d1) := fun ob => cell_of ((heap_alloc_old (by rw [hs_set]; exact lA) ob).trans hA5) 2
  have gA3 : ∀ ob, ((w4.setCell ⟨w2.heap.size, 2, none⟩ (.int .i64 d1)).alloc ob).cell? ⟨w2.heap.size, 3, none⟩ = some (.int .i64 0) := fun ob => cell_of ((heap_alloc_old (by rw [hs_set]; exact lA) ob).trans hA5) 3
  have gA4 : ∀ ob, ((w4.setCell ⟨w2.heap.size, 2, none⟩ (.int .i64 d1)).alloc ob).cell? ⟨w2.heap.size, 4, none⟩ = some (.int .i64 0) := fun ob => cell_of ((heap_alloc_old (by rw [hs_set]; exact lA) ob).trans hA5) 4
  have gA5 : ∀ ob, ((w4.setCell ⟨w2.heap.size, 2, none⟩ (.int .i64 d1)).alloc ob).cell? ⟨w2.heap.size, 5, none⟩ = some (.int .i64 0) := fun ob => cell_of ((heap_alloc_old (by rw [hs_set]; exact lA) ob).trans hA5) 5
  have gB0 : ∀ ob, ((w4.setCell ⟨w2.heap.size, 2, none⟩ (.int .i64 d1)).alloc ob).cell? ⟨w3.heap.size, 0, none⟩ = some (.int .i64 (shortI a2)) := fun ob => cell_of ((heap_alloc_old (by rw [hs_set]; exact lB) ob).trans hB5) 0
  have gB1 : ∀ ob, ((w4.setCell ⟨w2.heap.size, 2, none⟩ (.int .i64 d1)).alloc ob).cell? ⟨w3.heap.size, 1, none⟩ = some (.int .i64 (shortI a3)) := fun ob => cell_of ((heap_alloc_old (by rw [hs_set]; exact lB) ob).trans hB5) 1
  have gB2 : ∀ ob, ((w4.setCell ⟨w2.heap.size, 2, none⟩ (.int .i64 d1)).alloc ob).cell? ⟨w3.heap.size, 2, none⟩ = some (.int .i64 0) := fun ob => cell_of ((heap_alloc_old (by rw [hs_set]; exact lB) ob).trans hB5) 2
  have gB3 : ∀ ob, ((w4.setCell ⟨w2.heap.size, 2, none⟩ (.int .i64 d1)).alloc ob).cell? ⟨w3.heap.size, 3, none⟩ = some (.int .i64 0) := fun ob => cell_of ((heap_alloc_old (by rw [hs_set]; exact lB) ob).trans hB5) 3
  have gB4 : ∀ ob, ((w4.setCell ⟨w2.heap.size, 2, none⟩ (.int .i64 d1)).alloc ob).cell? ⟨w3.heap.size, 4, none⟩ = some (.int .i64 0) := fun ob => cell_of ((heap_alloc_old (by rw [hs_set]; exact lB) ob).trans hB5) 4
  have gB5 : ∀ ob, ((w4.setCell ⟨w2.heap.size, 2, none⟩ (.int .i64 d1)).alloc ob).cell? ⟨w3.heap.size, 5, none⟩ = some (.int .i64 0) := fun ob => cell_of ((heap_alloc_old (by rw [hs_set]; exact lB) ob).trans hB5) 5
  have HBel : Hid (∀ ob, Below w.heap.size w ((w4.setCell ⟨w2.heap.size, 2, none⟩ (.int .i64 d1)).alloc ob)) := fun ob =>
    (hB4.setCell (p := ⟨w2.heap.size, 2, none⟩) (by show w.heap.size ≤ w2.heap.size; exact hB2.size) _).alloc (by rw [hs_set]; exact hB4.size) ob
  clear hA3 hB3 hA4 hB4b hb2 hb3 hb4 hB2 hb1 s3 s4 hA5 hB5
  go_wp2_with fail
  with_reducible refine (HC.out _).mono ?_
  rintro e w6 ⟨rfl, hb6⟩
  have hB6 : Below w.heap.size w w6 := (HBel.out _).trans (hb6.mono (HBel.out _).size)
  clear hb6 HBel
  go_wp2_with (go_at_call 25; with_reducible refine (HB.out _).mono ?_; rintro e w7 ⟨rfl, rfl⟩)
  refine (HD.out _ _ hB6 (by simp)).mono ?_
  rintro e w8 ⟨g, cap, rfl, ⟨c0, c2⟩, hb8⟩
  go_wp2_with fail
  go_ret
  exact ⟨rfl, hb8⟩
end Go.Proofs.YthcikinkicpicaaGreatDoor
