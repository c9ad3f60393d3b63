import Derived.Test.YthcikinkicpicaaGreatDoorD09

namespace Go.Proofs.YthcikinkicpicaaGreatDoor
open Go.RowKit

set_option maxHeartbeats 400000 in
theorem E_in (a b : Cor) (x y : Int) (w : World) (ha : a.Ok) (hb : b.Ok) (hx : -32768 ≤ x) (hx' : x ≤ 32767) (hy : -32768 ≤ y) (hy' : y ≤ 32767) :
    Calls Tryz.prog 22 #[cv6 a, cv6 b, .int .i64 x, .int .i64 y] w fun e w' => e = .returned (.int .i64 (edge a b x y)) ∧ Below w.heap.size w w' := by
  have hw : Hid _ := edge_wrap a b x y ha hb hx hx' hy hy'
  clear ha hb hx hx' hy hy'
  unfold cv6
  go_enter Tryz.func22, Tryz.ntmps22
  go_wp2
  go_ret
  exact ⟨ret_int hw.out, ((Below.refl _ _).alloc (Nat.le_refl _) _).alloc (by simp) _⟩

theorem two_back (n : Int) (h0 : -32768 ≤ n) (h1 : n ≤ 32767) : (if 32767 < 256 * (n / 256 % 256) + n % 256 then 256 * (n / 256 % 256) + n % 256 - 65536 else 256 * (n / 256 % 256) + n % 256) = n := by
  split <;> omega
/-- A corner's place, off its bytes. -/
theorem corner_back0 (a b c : Cor) (ha : a.Ok) : (cornerOf (tri27 a b c) 0).x = a.x ∧ (cornerOf (tri27 a b c) 0).y = a.y :=
  ⟨two_back a.x ha.x0 ha.x1, two_back a.y ha.y0 ha.y1⟩
theorem corner_back1 (a b c : Cor) (hb : b.Ok) : (cornerOf (tri27 a b c) 9).x = b.x ∧ (cornerOf (tri27 a b c) 9).y = b.y :=
  ⟨two_back b.x hb.x0 hb.x1, two_back b.y hb.y0 hb.y1⟩
theorem corner_back2 (a b c : Cor) (hc : c.Ok) : (cornerOf (tri27 a b c) 18).x = c.x ∧ (cornerOf (tri27 a b c) 18).y = c.y :=
  ⟨two_back c.x hc.x0 hc.x1, two_back c.y hc.y0 hc.y1⟩

theorem edge_xy {a b a' b' : Cor} (h1 : a.x = a'.x ∧ a.y = a'.y) (h2 : b.x = b'.x ∧ b.y = b'.y) (x y : Int) : edge a b x y = edge a' b' x y := by
  unfold edge
  rw [h1.1, h1.2, h2.1, h2.2]
theorem hasB_xy {a b a' b' : Cor} (h1 : a.x = a'.x ∧ a.y = a'.y) (h2 : b.x = b'.x ∧ b.y = b'.y) (n : Int) : hasB a b n = hasB a' b' n := by
  unfold hasB
  rw [h1.1, h1.2, h2.1, h2.2]

/-- What is asked of the second triangle: it covers a pixel only on its own side of the edge. -/
def Sided (a b d : Cor) (q : Int × Int → Prop) : Prop := ∀ p, q p → (0 < edge a b d.x d.y → hasB a b (edge a b (16 * p.1 + 8) (16 * p.2 + 8)) = true) ∧ (edge a b d.x d.y < 0 → hasB b a (edge b a (16 * p.1 + 8) (16 * p.2 + 8)) = true)

theorem sided_first (a b c : Cor) (ha : a.Ok) (hb : b.Ok) (hc : c.Ok) : Sided a b c (covT (cornerOf (tri27 a b c) 0) (cornerOf (tri27 a b c) 9) (cornerOf (tri27 a b c) 18)) := by
  intro p hp
  have h := cov_side hp
  have h1 := corner_back0 a b c ha
  have h2 := corner_back1 a b c hb
  have h3 := corner_back2 a b c hc
  rw [h3.1, h3.2] at h
  simp only [edge_xy h1 h2, edge_xy h2 h1, hasB_xy h1 h2, hasB_xy h2 h1] at h
  exact h
theorem sided_turn (a b d : Cor) (ha : a.Ok) (hb : b.Ok) (hd : d.Ok) : Sided a b d (covT (cornerOf (tri27 a d b) 0) (cornerOf (tri27 a d b) 9) (cornerOf (tri27 a d b) 18)) := by
  intro p hp
  have h := cov_turn hp
  have h1 := corner_back0 a d b ha
  have h2 := corner_back2 a d b hb
  have h3 := corner_back1 a d b hd
  rw [h3.1, h3.2] at h
  simp only [edge_xy h1 h2, edge_xy h2 h1, hasB_xy h1 h2, hasB_xy h2 h1] at h
  exact h

def apart (x y : Int) : Prop := (0 < x ∧ y < 0) ∨ (x < 0 ∧ 0 < y)
theorem seam_apart (a b c d : Cor) (l m : List Int) (hl : Sided a b c (covT (cornerOf l 0) (cornerOf l 9) (cornerOf l 18))) (hm : Sided a b d (covT (cornerOf m 0) (cornerOf m 9) (cornerOf m 18))) :
    ∃ f : Nat → Int, (runC ([(4, [7, 0, 255, 255, 0, 0, 3]), (9, l), (9, m)] ++ (List.range 64).map rdC) 0 st0).out = ((List.range 64).map fun i => { k := 3, a := f i, b := 0, c := 0 }) ∧
      (∀ i, 0 ≤ f i ∧ f i ≤ 2) ∧ (apart (edge a b c.x c.y) (edge a b d.x d.y) → ∀ i, f i ≤ 1) := by
  obtain ⟨f, hr, hf⟩ := seam_run l m
  refine ⟨f, hr, fun i => ?_, fun hap i => ?_⟩
  · obtain ⟨g, h, e, hg, hh⟩ := hf i
    rcases hg with hg | ⟨hg, _⟩ <;> rcases hh with hh | ⟨hh, _⟩ <;> omega
  · obtain ⟨g, h, e, hg, hh⟩ := hf i
    rcases hg with hg | ⟨hg, p, hp, cp, ip⟩
    · rcases hh with hh | ⟨hh, _⟩ <;> omega
    · rcases hh with hh | ⟨hh, q, hq, cq, iq⟩
      · omega
      · exfalso
        obtain rfl : p = q := idx_inj (st := stCnt) rfl hp hq (ip.trans iq.symm)
        have h1 := hl p cp
        have h2 := hm p cq
        rcases hap with ⟨x0, y0⟩ | ⟨x0, y0⟩
        · exact opp (h1.1 x0) (h2.2 y0)
        · exact opp (h2.1 y0) (h1.2 x0)

def seamC (l m : List Int) : List (Int × List Int) := [(4, [7, 0, 255, 255, 0, 0, 3]), (9, l), (9, m)] ++ (List.range 64).map rdC
theorem seam_enc (l m : List Int) : encC (seamC l m) = ([4, 7, 0, 255, 255, 0, 0, 3] ++ ((9 :: l) ++ (9 :: m))) ++ rdL 64 := by
  rw [seamC, encC_append]
  unfold rdL
  congr 1
  simp [encC]
theorem seam_ok (l m : List Int) (hl : l.length = 27) (hm : m.length = 27) : ∀ c ∈ seamC l m, cmdOk c := by
  intro c hc
  unfold seamC at hc
  rcases List.mem_append.1 hc with hc | hc
  · simp only [List.mem_cons, List.not_mem_nil, or_false] at hc
    rcases hc with rfl | rfl | rfl
    · exact cmd_len (by decide) (by decide) (by decide)
    · exact cmd_len (by decide) (by decide) (by rw [hl]; decide)
    · exact cmd_len (by decide) (by decide) (by rw [hm]; decide)
  · obtain ⟨i, _, rfl⟩ := List.mem_map.1 hc
    exact rd_ok i

/-- Replies: 64 stencils. -/
structure SeaR (w0 : World) (g : Nat) (x y : Int) (f : Nat → Int) (w : World) : Prop where
  k_ : ∀ i, i < 64 → w.cell? ⟨g, i * 4, none⟩ = some (.int .i64 3)
  a_ : ∀ i, i < 64 → w.cell? ⟨g, i * 4 + 1, none⟩ = some (.int .i64 (f i))
  bd : ∀ i, 0 ≤ f i ∧ f i ≤ 2
  ap : apart x y → ∀ i, f i ≤ 1
  old : Old w0 w

theorem seam_draw (a b c d : Cor) (l m : List Int) (hl : l.length = 27) (hm : m.length = 27) (hbl : bytesOk l) (hbm : bytesOk m) (sl : Sided a b c (covT (cornerOf l 0) (cornerOf l 9) (cornerOf l 18))) (sm : Sided a b d (covT (cornerOf m 0) (cornerOf m 9) (cornerOf m 18)))
    (ways : Int) (w0 : World) (ht : TabW w0) (w : World) (ho : Old w0 w) :
    Calls Tryz.prog 11 #[.string (textOf (([4, 7, 0, 255, 255, 0, 0, 3] ++ ((9 :: l) ++ (9 :: m))) ++ rdL 64)), .int .i64 ways] w fun e w' => ∃ v, e = .returned v ∧ ∃ g cap f, v = .slice (some ⟨g, 0, none⟩) 64 cap ∧ SeaR w0 g (edge a b c.x c.y) (edge a b d.x d.y) f w' := by
  have hbe : bytesOk (encC (seamC l m)) := by
    rw [seam_enc]
    exact bytesOk_append (bytesOk_append (by unfold bytesOk; decide) (bytesOk_append (bytesOk_cons (by decide) hbl) (bytesOk_cons (by decide) hbm))) rdL_ok
  have hlen : (encC (seamC l m)).length = 320 := by rw [seam_enc]; simp [hl, hm, rdL_length]
  rw [← seam_enc]
  refine (draw_cmds (seamC l m) (seam_ok l m hl hm) hbe (by rw [hlen]; simp [seamC]) (by rw [hlen]; omega) ways w (ht.old ho ht.pos)).mono ?_
  rintro e w' ⟨v, rfl, hw, hb⟩
  obtain ⟨f, hr, hf, ha⟩ := seam_apart a b c d l m sl sm
  rw [show runC (seamC l m) 0 st0 = runC ([(4, [7, 0, 255, 255, 0, 0, 3]), (9, l), (9, m)] ++ (List.range 64).map rdC) 0 st0 from rfl, hr] at hw
  have hln : ((List.range 64).map fun i => ({ k := 3, a := f i, b := 0, c := 0 } : Rep)).length = 64 := by simp
  obtain ⟨g, cap, rfl, hc⟩ := reps_open hw (by rw [hln]; omega)
  rw [hln] at hc
  refine ⟨_, rfl, g, cap, f, by rw [hln], ⟨fun i hi => ?_, fun i hi => ?_, hf, ha, ho.trans (Old.of hb)⟩⟩
  · rw [Nat.mul_comm i 4, hc _ (by omega), (rcells_get _ i (by rw [hln]; omega)).1]
    simp
  · rw [Nat.mul_comm i 4, hc _ (by omega), (rcells_get _ i (by rw [hln]; omega)).2.1]
    simp
end Go.Proofs.YthcikinkicpicaaGreatDoor

namespace Go.Proofs.YthcikinkicpicaaGreatDoor
open Go.RowKit

def corA (x y : Int) : Array Value := #[.int .i64 x, .int .i64 y, .int .i64 0, .int .i64 0, .int .i64 0, .int .i64 0]
/-- Four corners lie in their blocks. -/
structure SeaW (w : World) (A B C D : Nat) (x0 y0 x1 y1 x2 y2 x3 y3 : Int) (W : World) : Prop where
  a : W.heap[A]? = some (.cells (corA x0 y0) 52 (0, 0))
  b : W.heap[B]? = some (.cells (corA x1 y1) 52 (0, 0))
  c : W.heap[C]? = some (.cells (corA x2 y2) 52 (0, 0))
  d : W.heap[D]? = some (.cells (corA x3 y3) 52 (0, 0))
  bel : Below w.heap.size w W
theorem SeaW.below {w : World} {A B C D : Nat} {x0 y0 x1 y1 x2 y2 x3 y3 : Int} {W W' : World} (h : SeaW w A B C D x0 y0 x1 y1 x2 y2 x3 y3 W) (hb : Below W.heap.size W W') : SeaW w A B C D x0 y0 x1 y1 x2 y2 x3 y3 W' :=
  ⟨rg_next h.a hb, rg_next h.b hb, rg_next h.c hb, rg_next h.d hb, h.bel.trans (hb.mono h.bel.size)⟩
theorem cor_cells {W : World} {A : Nat} {x y : Int} (h : W.heap[A]? = some (.cells (corA x y) 52 (0, 0))) :
    W.cell? ⟨A, 0, none⟩ = some (.int .i64 x) ∧ W.cell? ⟨A, 1, none⟩ = some (.int .i64 y) ∧ W.cell? ⟨A, 2, none⟩ = some (.int .i64 0) ∧ W.cell? ⟨A, 3, none⟩ = some (.int .i64 0) ∧ W.cell? ⟨A, 4, none⟩ = some (.int .i64 0) ∧ W.cell? ⟨A, 5, none⟩ = some (.int .i64 0) :=
  ⟨cell_of h 0, cell_of h 1, cell_of h 2, cell_of h 3, cell_of h 4, cell_of h 5⟩

set_option maxRecDepth 100000 in
set_option maxHeartbeats 2000000 in
theorem Seam_true (hcor : CornersAll) (a0 a1 a2 a3 a4 a5 a6 a7 : Int) (turn : Bool) (ways : Int) (w : World) (ht : TabW w) :
    Calls Tryz.prog 8 #[.int .i64 a0, .int .i64 a1, .int .i64 a2, .int .i64 a3, .int .i64 a4, .int .i64 a5, .int .i64 a6, .int .i64 a7, .bool turn, .int .i64 ways] w fun e w' => e = .returned (.bool true) ∧ Old w w' := by
  have HAl : Hid (Calls Tryz.prog 17 #[] w fun e w' => e = .returned (.bool true) ∧ Below w.heap.size w w') := alive_in hcor w ht
  have HPl : Hid (∀ (x y : Int) (W : World), Calls Tryz.prog 21 #[.int .i64 x, .int .i64 y] W fun e w' => e = .returned (.agg #[.int .i64 (shortI x), .int .i64 (shortI y), .int .i64 0, .int .i64 0, .int .i64 0, .int .i64 0]) ∧ Below W.heap.size W w') := place_in
  have b0 := shortI_bd a0
  have b1 := shortI_bd a1
  have b2 := shortI_bd a2
  have b3 := shortI_bd a3
  have b4 := shortI_bd a4
  have b5 := shortI_bd a5
  have b6 := shortI_bd a6
  have b7 := shortI_bd a7
  have HP0 : Hid (∀ W : World, Calls Tryz.prog 21 #[.int .i64 a0, .int .i64 a1] W fun e w' => e = .returned (.agg #[.int .i64 (shortI a0), .int .i64 (shortI a1), .int .i64 0, .int .i64 0, .int .i64 0, .int .i64 0]) ∧ Below W.heap.size W w') := place_in a0 a1
  have HP1 : Hid (∀ W : World, Calls Tryz.prog 21 #[.int .i64 a2, .int .i64 a3] W fun e w' => e = .returned (.agg #[.int .i64 (shortI a2), .int .i64 (shortI a3), .int .i64 0, .int .i64 0, .int .i64 0, .int .i64 0]) ∧ Below W.heap.size W w') := place_in a2 a3
  have HP2 : Hid (∀ W : World, Calls Tryz.prog 21 #[.int .i64 a4, .int .i64 a5] W fun e w' => e = .returned (.agg #[.int .i64 (shortI a4), .int .i64 (shortI a5), .int .i64 0, .int .i64 0, .int .i64 0, .int .i64 0]) ∧ Below W.heap.size W w') := place_in a4 a5
  have HP3 : Hid (∀ W : World, Calls Tryz.prog 21 #[.int .i64 a6, .int .i64 a7] W fun e w' => e = .returned (.agg #[.int .i64 (shortI a6), .int .i64 (shortI a7), .int .i64 0, .int .i64 0, .int .i64 0, .int .i64 0]) ∧ Below W.heap.size W w') := place_in a6 a7
  clear HPl
  generalize shortI a0 = x0 at *
  generalize shortI a1 = y0 at *
  generalize shortI a2 = x1 at *
  generalize shortI a3 = y1 at *
  generalize shortI a4 = x2 at *
  generalize shortI a5 = y2 at *
  generalize shortI a6 = x3 at *
  generalize shortI a7 = y3 at *
  have oa := cor_ok0 (d := 0) b0 b1 (by omega)
  have ob := cor_ok0 (d := 0) b2 b3 (by omega)
  have oc := cor_ok0 (d := 0) b4 b5 (by omega)
  have od := cor_ok0 (d := 0) b6 b7 (by omega)
  have HE1 : Hid (∀ W : World, Calls Tryz.prog 22 #[.agg #[.int .i64 x0, .int .i64 y0, .int .i64 0, .int .i64 0, .int .i64 0, .int .i64 0], .agg #[.int .i64 x1, .int .i64 y1, .int .i64 0, .int .i64 0, .int .i64 0, .int .i64 0], .int .i64 x2, .int .i64 y2] W fun e w' => e = .returned (.int .i64 (edge ⟨x0, y0, 0, 0, 0, 0⟩ ⟨x1, y1, 0, 0, 0, 0⟩ x2 y2)) ∧ Below W.heap.size W w') := fun W => E_in ⟨x0, y0, 0, 0, 0, 0⟩ ⟨x1, y1, 0, 0, 0, 0⟩ x2 y2 W oa ob b4.1 b4.2 b5.1 b5.2
  have HE2 : Hid (∀ W : World, Calls Tryz.prog 22 #[.agg #[.int .i64 x0, .int .i64 y0, .int .i64 0, .int .i64 0, .int .i64 0, .int .i64 0], .agg #[.int .i64 x1, .int .i64 y1, .int .i64 0, .int .i64 0, .int .i64 0, .int .i64 0], .int .i64 x3, .int .i64 y3] W fun e w' => e = .returned (.int .i64 (edge ⟨x0, y0, 0, 0, 0, 0⟩ ⟨x1, y1, 0, 0, 0, 0⟩ x3 y3)) ∧ Below W.heap.size W w') := fun W => E_in ⟨x0, y0, 0, 0, 0, 0⟩ ⟨x1, y1, 0, 0, 0, 0⟩ x3 y3 W oa ob b6.1 b6.2 b7.1 b7.2
  have HC1 : Hid (∀ W : World, Calls Tryz.prog 23 #[.agg #[.int .i64 x0, .int .i64 y0, .int .i64 0, .int .i64 0, .int .i64 0, .int .i64 0], .agg #[.int .i64 x1, .int .i64 y1, .int .i64 0, .int .i64 0, .int .i64 0, .int .i64 0], .agg #[.int .i64 x2, .int .i64 y2, .int .i64 0, .int .i64 0, .int .i64 0, .int .i64 0]] W fun e w' =>
      e = .returned (.string (textOf (9 :: tri27 ⟨x0, y0, 0, 0, 0, 0⟩ ⟨x1, y1, 0, 0, 0, 0⟩ ⟨x2, y2, 0, 0, 0, 0⟩))) ∧ Below W.heap.size W w') := fun W => hcor ⟨x0, y0, 0, 0, 0, 0⟩ ⟨x1, y1, 0, 0, 0, 0⟩ ⟨x2, y2, 0, 0, 0, 0⟩ oa ob oc W
  have hM : ∃ M : List Int, M.length = 27 ∧ bytesOk M ∧ Sided ⟨x0, y0, 0, 0, 0, 0⟩ ⟨x1, y1, 0, 0, 0, 0⟩ ⟨x3, y3, 0, 0, 0, 0⟩ (covT (cornerOf M 0) (cornerOf M 9) (cornerOf M 18)) ∧
      (turn = true → ∀ W : World, Calls Tryz.prog 23 #[.agg #[.int .i64 x0, .int .i64 y0, .int .i64 0, .int .i64 0, .int .i64 0, .int .i64 0], .agg #[.int .i64 x3, .int .i64 y3, .int .i64 0, .int .i64 0, .int .i64 0, .int .i64 0], .agg #[.int .i64 x1, .int .i64 y1, .int .i64 0, .int .i64 0, .int .i64 0, .int .i64 0]] W fun e w' => e = .returned (.string (textOf (9 :: M))) ∧ Below W.heap.size W w') ∧
      (turn = false → ∀ W : World, Calls Tryz.prog 23 #[.agg #[.int .i64 x0, .int .i64 y0, .int .i64 0, .int .i64 0, .int .i64 0, .int .i64 0], .agg #[.int .i64 x1, .int .i64 y1, .int .i64 0, .int .i64 0, .int .i64 0, .int .i64 0], .agg #[.int .i64 x3, .int .i64 y3, .int .i64 0, .int .i64 0, .int .i64 0, .int .i64 0]] W fun e w' => e = .returned (.string (textOf (9 :: M))) ∧ Below W.heap.size W w') := by
    cases turn with
    | true => exact ⟨_, tri27_length _ _ _, tri27_ok _ _ _, sided_turn ⟨x0, y0, 0, 0, 0, 0⟩ ⟨x1, y1, 0, 0, 0, 0⟩ ⟨x3, y3, 0, 0, 0, 0⟩ oa ob od, fun _ W => hcor ⟨x0, y0, 0, 0, 0, 0⟩ ⟨x3, y3, 0, 0, 0, 0⟩ ⟨x1, y1, 0, 0, 0, 0⟩ oa od ob W, (fun h => by cases h)⟩
    | false => exact ⟨_, tri27_length _ _ _, tri27_ok _ _ _, sided_first ⟨x0, y0, 0, 0, 0, 0⟩ ⟨x1, y1, 0, 0, 0, 0⟩ ⟨x3, y3, 0, 0, 0, 0⟩ oa ob od, (fun h => by cases h), fun _ W => hcor ⟨x0, y0, 0, 0, 0, 0⟩ ⟨x1, y1, 0, 0, 0, 0⟩ ⟨x3, y3, 0, 0, 0, 0⟩ oa ob od W⟩
  obtain ⟨M, hMl, hMb, hMs, hC2, hC3⟩ := hM
  have HC2 : Hid (turn = true → ∀ W : World, Calls Tryz.prog 23 #[.agg #[.int .i64 x0, .int .i64 y0, .int .i64 0, .int .i64 0, .int .i64 0, .int .i64 0], .agg #[.int .i64 x3, .int .i64 y3, .int .i64 0, .int .i64 0, .int .i64 0, .int .i64 0], .agg #[.int .i64 x1, .int .i64 y1, .int .i64 0, .int .i64 0, .int .i64 0, .int .i64 0]] W fun e w' => e = .returned (.string (textOf (9 :: M))) ∧ Below W.heap.size W w') := hC2
  have HC3 : Hid (turn = false → ∀ W : World, Calls Tryz.prog 23 #[.agg #[.int .i64 x0, .int .i64 y0, .int .i64 0, .int .i64 0, .int .i64 0, .int .i64 0], .agg #[.int .i64 x1, .int .i64 y1, .int .i64 0, .int .i64 0, .int .i64 0, .int .i64 0], .agg #[.int .i64 x3, .int .i64 y3, .int .i64 0, .int .i64 0, .int .i64 0, .int .i64 0]] W fun e w' => e = .returned (.string (textOf (9 :: M))) ∧ Below W.heap.size W w') := hC3
  clear hC2 hC3
  have hLl := tri27_length ⟨x0, y0, 0, 0, 0, 0⟩ ⟨x1, y1, 0, 0, 0, 0⟩ ⟨x2, y2, 0, 0, 0, 0⟩
  have hLb := tri27_ok ⟨x0, y0, 0, 0, 0, 0⟩ ⟨x1, y1, 0, 0, 0, 0⟩ ⟨x2, y2, 0, 0, 0, 0⟩
  have hLs := sided_first ⟨x0, y0, 0, 0, 0, 0⟩ ⟨x1, y1, 0, 0, 0, 0⟩ ⟨x2, y2, 0, 0, 0, 0⟩ oa ob oc
  generalize tri27 ⟨x0, y0, 0, 0, 0, 0⟩ ⟨x1, y1, 0, 0, 0, 0⟩ ⟨x2, y2, 0, 0, 0, 0⟩ = L at *
  have HD : Hid (∀ (W : World) (X : List Int), Old w W → X = (9 :: L) ++ (9 :: M) → Calls Tryz.prog 24 #[.string (textOf X), .int .i64 ways] W fun e w' => ∃ v, e = .returned v ∧ ∃ g cap f, v = .slice (some ⟨g, 0, none⟩) 64 cap ∧ SeaR w g (edge ⟨x0, y0, 0, 0, 0, 0⟩ ⟨x1, y1, 0, 0, 0, 0⟩ x2 y2) (edge ⟨x0, y0, 0, 0, 0, 0⟩ ⟨x1, y1, 0, 0, 0, 0⟩ x3 y3) f w') := by
    intro W X hW hX
    subst hX
    refine stencils_via _ (by simp; omega) ways W _ fun W' hW' => ?_
    exact seam_draw ⟨x0, y0, 0, 0, 0, 0⟩ ⟨x1, y1, 0, 0, 0, 0⟩ ⟨x2, y2, 0, 0, 0, 0⟩ ⟨x3, y3, 0, 0, 0, 0⟩ L M hLl hMl hLb hMb hLs hMs ways w ht W' (hW.trans hW')
  generalize edge ⟨x0, y0, 0, 0, 0, 0⟩ ⟨x1, y1, 0, 0, 0, 0⟩ x2 y2 = ex at *
  generalize edge ⟨x0, y0, 0, 0, 0, 0⟩ ⟨x1, y1, 0, 0, 0, 0⟩ x3 y3 = ey at *
  have ta := textOf_append
  have ts := textOf_size
  clear hcor ht b0 b1 b2 b3 b4 b5 b6 b7 oa ob oc od hLb hMb hLs hMs
  go_enter Tryz.func8, Tryz.ntmps8
  go_wp2_with fail
  with_reducible refine HAl.out.mono ?_
  rintro e w1 ⟨rfl, hb1⟩
  go_wp2_with fail
  with_reducible refine (HP0.out _).mono ?_
  rintro e w2 ⟨rfl, hb2⟩
  have hB2 := hb1.trans (hb2.mono hb1.size)
  go_wp2_with fail
  with_reducible refine (HP1.out _).mono ?_
  rintro e w3 ⟨rfl, hb3⟩
  have hA3 := rg_of hb3
  have s3 := hb3.size
  simp only [World.size_alloc] at s3
  have hB3 : Below w.heap.size w w3 := (hB2.alloc hB2.size _).trans (hb3.mono (by have := hB2.size; simp; omega))
  go_wp2_with fail
  with_reducible refine (HP2.out _).mono ?_
  rintro e w4 ⟨rfl, hb4⟩
  have hB4b := rg_of hb4
  have s4 := hb4.size
  simp only [World.size_alloc] at s4
  have hA4 := (hb4.block w2.heap.size (by simp; omega)).trans ((heap_alloc_old (by omega) _).trans hA3)
  have hB4 : Below w.heap.size w w4 := (hB3.alloc hB3.size _).trans (hb4.mono (by have := hB3.size; simp; omega))
  go_wp2_with fail
  with_reducible refine (HP3.out _).mono ?_
  rintro e w5 ⟨rfl, hb5⟩
  have hC5 := rg_of hb5
  have s5 := hb5.size
  simp only [World.size_alloc] at s5
  have hA5 := (hb5.block w2.heap.size (by simp; omega)).trans ((heap_alloc_old (by omega) _).trans hA4)
  have hB5b := (hb5.block w3.heap.size (by simp; omega)).trans ((heap_alloc_old (by omega) _).trans hB4b)
  have hB5 : Below w.heap.size w w5 := (hB4.alloc hB4.size _).trans (hb5.mono (by have := hB4.size; simp; omega))
  have HW5 : Hid (SeaW w w2.heap.size w3.heap.size w4.heap.size w5.heap.size x0 y0 x1 y1 x2 y2 x3 y3 (w5.alloc (.cells #[.int .i64 x3, .int .i64 y3, .int .i64 0, .int .i64 0, .int .i64 0, .int .i64 0] 52))) :=
    ⟨(heap_alloc_old (by omega) _).trans hA5, (heap_alloc_old (by omega) _).trans hB5b, (heap_alloc_old (by omega) _).trans hC5, heap_alloc_new _ _, hB5.alloc hB5.size _⟩
  have lA : w2.heap.size < w5.heap.size := by omega
  have lB : w3.heap.size < w5.heap.size := by omega
  have lC : w4.heap.size < w5.heap.size := by omega
  have cA0 : ∀ ob, (w5.alloc ob).cell? ⟨w2.heap.size, 0, none⟩ = some (.int .i64 x0) := fun ob => (World.cell?_alloc_past _ _ _ lA).trans (cell_of hA5 0)
  have cA1 : ∀ ob, (w5.alloc ob).cell? ⟨w2.heap.size, 1, none⟩ = some (.int .i64 y0) := fun ob => (World.cell?_alloc_past _ _ _ lA).trans (cell_of hA5 1)
  have cA2 : ∀ ob, (w5.alloc ob).cell? ⟨w2.heap.size, 2, none⟩ = some (.int .i64 0) := fun ob => (World.cell?_alloc_past _ _ _ lA).trans (cell_of hA5 2)
  have cA3 : ∀ ob, (w5.alloc ob).cell? ⟨w2.heap.size, 3, none⟩ = some (.int .i64 0) := fun ob => (World.cell?_alloc_past _ _ _ lA).trans (cell_of hA5 3)
  have cA4 : ∀ ob, (w5.alloc ob).cell? ⟨w2.heap.size, 4, none⟩ = some (.int .i64 0) := fun ob => (World.cell?_alloc_past _ _ _ lA).trans (cell_of hA5 4)
  have cA5 : ∀ ob, (w5.alloc ob).cell? ⟨w2.heap.size, 5, none⟩ = some (.int .i64 0) := fun ob => (World.cell?_alloc_past _ _ _ lA).trans (cell_of hA5 5)
  have cB0 : ∀ ob, (w5.alloc ob).cell? ⟨w3.heap.size, 0, none⟩ = some (.int .i64 x1) := fun ob => (World.cell?_alloc_past _ _ _ lB).trans (cell_of hB5b 0)
  have cB1 : ∀ ob, (w5.alloc ob).cell? ⟨w3.heap.size, 1, none⟩ = some (.int .i64 y1) := fun ob => (World.cell?_alloc_past _ _ _ lB).trans (cell_of hB5b 1)
  have cB2 : ∀ ob, (w5.alloc ob).cell? ⟨w3.heap.size, 2, none⟩ = some (.int .i64 0) := fun ob => (World.cell?_alloc_past _ _ _ lB).trans (cell_of hB5b 2)
  have cB3 : ∀ ob, (w5.alloc ob).cell? ⟨w3.heap.size, 3, none⟩ = some (.int .i64 0) := fun ob => (World.cell?_alloc_past _ _ _ lB).trans (cell_of hB5b 3)
  have cB4 : ∀ ob, (w5.alloc ob).cell? ⟨w3.heap.size, 4, none⟩ = some (.int .i64 0) := fun ob => (World.cell?_alloc_past _ _ _ lB).trans (cell_of hB5b 4)
  have cB5 : ∀ ob, (w5.alloc ob).cell? ⟨w3.heap.size, 5, none⟩ = some (.int .i64 0) := fun ob => (World.cell?_alloc_past _ _ _ lB).trans (cell_of hB5b 5)
  have cC0 : ∀ ob, (w5.alloc ob).cell? ⟨w4.heap.size, 0, none⟩ = some (.int .i64 x2) := fun ob => (World.cell?_alloc_past _ _ _ lC).trans (cell_of hC5 0)
  have cC1 : ∀ ob, (w5.alloc ob).cell? ⟨w4.heap.size, 1, none⟩ = some (.int .i64 y2) := fun ob => (World.cell?_alloc_past _ _ _ lC).trans (cell_of hC5 1)
  have nA : w2.heap.size ≠ w5.heap.size := by omega
  have nB : w3.heap.size ≠ w5.heap.size := by omega
  have nC : w4.heap.size ≠ w5.heap.size := by omega
  clear hA3 hB3 hA4 hB4b hb2 hb3 hb4 hb5 hB2 hb1 s3 s4 s5 hA5 hB5b hC5 hB4 hB5
  go_wp2_with fail
  with_reducible refine (HE1.out _).mono ?_
  rintro e w6 ⟨rfl, hb6⟩
  have H6 := HW5.out.below hb6
  clear HW5 hb6 cA0 cA1 cA2 cA3 cA4 cA5 cB0 cB1 cB2 cB3 cB4 cB5 cC0 cC1 nA nB nC lA lB lC
  generalize w2.heap.size = A at *
  generalize w3.heap.size = B at *
  generalize w4.heap.size = C at *
  generalize w5.heap.size = D at *
  have ka := cor_cells H6.a
  have kb := cor_cells H6.b
  have kc := cor_cells H6.c
  have kd := cor_cells H6.d
  obtain ⟨ka0, ka1, ka2, ka3, ka4, ka5⟩ := ka
  obtain ⟨kb0, kb1, kb2, kb3, kb4, kb5⟩ := kb
  obtain ⟨kd0, kd1, _⟩ := kd
  clear kc
  have HW6 : Hid (SeaW w A B C D x0 y0 x1 y1 x2 y2 x3 y3 w6) := H6
  clear H6
  go_wp2_with fail
  with_reducible refine (HE2.out _).mono ?_
  rintro e w7 ⟨rfl, hb7⟩
  have H7 := HW6.out.below hb7
  clear HW6 hb7 ka0 ka1 ka2 ka3 ka4 ka5 kb0 kb1 kb2 kb3 kb4 kb5 kd0 kd1
  obtain ⟨ka0, ka1, ka2, ka3, ka4, ka5⟩ := cor_cells H7.a
  obtain ⟨kb0, kb1, kb2, kb3, kb4, kb5⟩ := cor_cells H7.b
  obtain ⟨kc0, kc1, kc2, kc3, kc4, kc5⟩ := cor_cells H7.c
  have HW7 : Hid (SeaW w A B C D x0 y0 x1 y1 x2 y2 x3 y3 w7) := H7
  clear H7
  go_wp2_with fail
  with_reducible refine (HC1.out _).mono ?_
  rintro e w8 ⟨rfl, hb8⟩
  have H8 := HW7.out.below hb8
  clear HW7 hb8 ka0 ka1 ka2 ka3 ka4 ka5 kb0 kb1 kb2 kb3 kb4 kb5 kc0 kc1 kc2 kc3 kc4 kc5
  obtain ⟨ka0, ka1, ka2, ka3, ka4, ka5⟩ := cor_cells H8.a
  obtain ⟨kb0, kb1, kb2, kb3, kb4, kb5⟩ := cor_cells H8.b
  obtain ⟨kd0, kd1, kd2, kd3, kd4, kd5⟩ := cor_cells H8.d
  have HW8 : Hid (SeaW w A B C D x0 y0 x1 y1 x2 y2 x3 y3 w8) := H8
  clear H8
  cases turn
  all_goals
    go_wp2_with fail
    first
      | with_reducible refine (HC2.out (by trivial) _).mono ?_
      | with_reducible refine (HC3.out (by trivial) _).mono ?_
    rintro e w9 ⟨rfl, hb9⟩
    have hO := Old.of (HW8.out.below hb9).bel
    clear HW8 hb9 ka0 ka1 ka2 ka3 ka4 ka5 kb0 kb1 kb2 kb3 kb4 kb5 kd0 kd1 kd2 kd3 kd4 kd5 HC1 HC2 HC3 HE1 HE2 HP0 HP1 HP2 HP3
    go_wp2_with fail
    refine (HD.out _ _ hO (by simp)).mono ?_
    rintro e w10 ⟨v, rfl, g, cap, f, rfl, hR⟩
    clear HD hO
    have hm : (0 < ex ∧ ey < 0 ∧ ∀ i, f i ≤ 1) ∨ (ex < 0 ∧ 0 < ey ∧ ∀ i, f i ≤ 1) ∨ (0 < ex ∧ 0 ≤ ey ∧ ∀ i, f i ≤ 2) ∨ (ex < 0 ∧ ey ≤ 0 ∧ ∀ i, f i ≤ 2) ∨ (ex = 0 ∧ (ey ≤ 0 ∨ 0 < ey) ∧ ∀ i, f i ≤ 2) := by
      have h2 : ∀ i, f i ≤ 2 := fun i => (hR.bd i).2
      have h1 := hR.ap
      unfold apart at h1
      by_cases c1 : 0 < ex
      · by_cases c2 : ey < 0
        · exact .inl ⟨c1, c2, h1 (.inl ⟨c1, c2⟩)⟩
        · exact .inr (.inr (.inl ⟨c1, by omega, h2⟩))
      · by_cases c3 : ex < 0
        · by_cases c4 : 0 < ey
          · exact .inr (.inl ⟨c3, c4, h1 (.inr ⟨c3, c4⟩)⟩)
          · exact .inr (.inr (.inr (.inl ⟨c3, by omega, h2⟩)))
        · exact .inr (.inr (.inr (.inr ⟨by omega, by omega, h2⟩)))
    have k_ := hR.k_
    have a_ := hR.a_
    have old := hR.old
    clear hR
    have KK : Hid (∀ i, i < 64 → w10.cell? ⟨g, i * 4, none⟩ = some (.int .i64 3)) := k_
    have AA : Hid (∀ i, i < 64 → w10.cell? ⟨g, i * 4 + 1, none⟩ = some (.int .i64 (f i))) := a_
    have OO : Hid (Old w w10) := old
    clear k_ a_ old
    rcases hm with ⟨e1, e2, fb⟩ | ⟨e1, e2, fb⟩ | ⟨e1, e2, fb⟩ | ⟨e1, e2, fb⟩ | ⟨e1, e2, fb⟩
  all_goals
    try (have d2 : decide (ey < 0) = false := decide_eq_false (by omega))
    try (have d4 : decide (0 < ey) = false := decide_eq_false (by omega))
    go_wp2_with fail
    go_loopg [31] 64 (fun n i wr => ∃ k : Nat, k + n = 64 ∧ i = .int .i64 (k : Int) ∧ wr = w10)
    case atStart => exact ⟨0, by omega, rfl, rfl⟩
    case round =>
      obtain ⟨k, hk, rfl, rfl⟩ := hrel
      by_cases hlt : k < 64
      · obtain ⟨n', rfl⟩ : ∃ n', gk = n' + 1 := ⟨gk - 1, by omega⟩
        have c1 := KK.out k hlt
        have c2 := AA.out k hlt
        have c3 := fb k
        generalize f k = fk at *
        go_wp2_with fail
        go_roundg n'
        case rel => exact ⟨k + 1, by omega, by go_num, rfl⟩
        case measure => omega
      · have hg0 : gk = 0 := by omega
        subst hg0
        obtain rfl : k = 64 := by omega
        go_wp2_with fail
        go_ret
        exact ⟨rfl, OO.out⟩
end Go.Proofs.YthcikinkicpicaaGreatDoor
