import Derived.Test.YtifloehpdkfchaaDoorD09

namespace Go.Proofs.YtifloehpdkfchaaDoor
open Go.RowKit

set_option maxHeartbeats 400000 in
theorem E_in (a b : Cor) (x y : Int) (w : World) (ha : a.Ok) (hb : b.Ok) (hx : -32768 ≤ x) (hx' : x ≤ 32767) (hy : -32768 ≤ y) (hy' : y ≤ 32767) :
    Calls Tryd.prog 14 #[cv6 a, cv6 b, .int .i64 x, .int .i64 y] w fun e w' => e = .returned (.int .i64 (edge a b x y)) ∧ Below w.heap.size w w' := by
  have hw : Hid _ := edge_wrap a b x y ha hb hx hx' hy hy'
  clear ha hb hx hx' hy hy'
  unfold cv6
  go_enter Tryd.func14, Tryd.ntmps14
  go_wp2
  go_ret
  exact ⟨ret_int hw.out, ((Below.refl _ _).alloc (Nat.le_refl _) _).alloc (by simp) _⟩

theorem two_back (n : Int) (h0 : -32768 ≤ n) (h1 : n ≤ 32767) : (if 32767 < 256 * (n / 256 % 256) + n % 256 then 256 * (n / 256 % 256) + n % 256 - 65536 else 256 * (n / 256 % 256) + n % 256) = n := by
  split <;> omega
/-- A corner's place, off its bytes. -/
theorem corner_back0 (a b c : Cor) (ha : a.Ok) : (cornerOf (tri27 a b c) 0).x = a.x ∧ (cornerOf (tri27 a b c) 0).y = a.y :=
  ⟨two_back a.x ha.x0 ha.x1, two_back a.y ha.y0 ha.y1⟩
theorem corner_back1 (a b c : Cor) (hb : b.Ok) : (cornerOf (tri27 a b c) 9).x = b.x ∧ (cornerOf (tri27 a b c) 9).y = b.y :=
  ⟨two_back b.x hb.x0 hb.x1, two_back b.y hb.y0 hb.y1⟩
theorem corner_back2 (a b c : Cor) (hc : c.Ok) : (cornerOf (tri27 a b c) 18).x = c.x ∧ (cornerOf (tri27 a b c) 18).y = c.y :=
  ⟨two_back c.x hc.x0 hc.x1, two_back c.y hc.y0 hc.y1⟩

theorem edge_xy {a b a' b' : Cor} (h1 : a.x = a'.x ∧ a.y = a'.y) (h2 : b.x = b'.x ∧ b.y = b'.y) (x y : Int) : edge a b x y = edge a' b' x y := by
  unfold edge
  rw [h1.1, h1.2, h2.1, h2.2]
theorem hasB_xy {a b a' b' : Cor} (h1 : a.x = a'.x ∧ a.y = a'.y) (h2 : b.x = b'.x ∧ b.y = b'.y) (n : Int) : hasB a b n = hasB a' b' n := by
  unfold hasB
  rw [h1.1, h1.2, h2.1, h2.2]

/-- What is asked of the second triangle: it covers a pixel only on its own side of the edge. -/
def Sided (a b d : Cor) (q : Int × Int → Prop) : Prop := ∀ p, q p → (0 < edge a b d.x d.y → hasB a b (edge a b (16 * p.1 + 8) (16 * p.2 + 8)) = true) ∧ (edge a b d.x d.y < 0 → hasB b a (edge b a (16 * p.1 + 8) (16 * p.2 + 8)) = true)

theorem sided_first (a b c : Cor) (ha : a.Ok) (hb : b.Ok) (hc : c.Ok) : Sided a b c (covT (cornerOf (tri27 a b c) 0) (cornerOf (tri27 a b c) 9) (cornerOf (tri27 a b c) 18)) := by
  intro p hp
  have h := cov_side hp
  have h1 := corner_back0 a b c ha
  have h2 := corner_back1 a b c hb
  have h3 := corner_back2 a b c hc
  rw [h3.1, h3.2] at h
  simp only [edge_xy h1 h2, edge_xy h2 h1, hasB_xy h1 h2, hasB_xy h2 h1] at h
  exact h
theorem sided_turn (a b d : Cor) (ha : a.Ok) (hb : b.Ok) (hd : d.Ok) : Sided a b d (covT (cornerOf (tri27 a d b) 0) (cornerOf (tri27 a d b) 9) (cornerOf (tri27 a d b) 18)) := by
  intro p hp
  have h := cov_turn hp
  have h1 := corner_back0 a d b ha
  have h2 := corner_back2 a d b hb
  have h3 := corner_back1 a d b hd
  rw [h3.1, h3.2] at h
  simp only [edge_xy h1 h2, edge_xy h2 h1, hasB_xy h1 h2, hasB_xy h2 h1] at h
  exact h

def apart (x y : Int) : Prop := (0 < x ∧ y < 0) ∨ (x < 0 ∧ 0 < y)
theorem seam_apart (a b c d : Cor) (l m : List Int) (hl : Sided a b c (covT (cornerOf l 0) (cornerOf l 9) (cornerOf l 18))) (hm : Sided a b d (covT (cornerOf m 0) (cornerOf m 9) (cornerOf m 18))) :
    ∃ f : Nat → Int, (runC ([(4, [7, 0, 255, 255, 0, 0, 3]), (9, l), (9, m)] ++ (List.range 64).map rdC) 0 st0).out = ((List.range 64).map fun i => { k := 3, a := f i, b := 0, c := 0 }) ∧
      (∀ i, 0 ≤ f i ∧ f i ≤ 2) ∧ (apart (edge a b c.x c.y) (edge a b d.x d.y) → ∀ i, f i ≤ 1) := by
  obtain ⟨f, hr, hf⟩ := seam_run l m
  refine ⟨f, hr, fun i => ?_, fun hap i => ?_⟩
  · obtain ⟨g, h, e, hg, hh⟩ := hf i
    rcases hg with hg | ⟨hg, _⟩ <;> rcases hh with hh | ⟨hh, _⟩ <;> omega
  · obtain ⟨g, h, e, hg, hh⟩ := hf i
    rcases hg with hg | ⟨hg, p, hp, cp, ip⟩
    · rcases hh with hh | ⟨hh, _⟩ <;> omega
    · rcases hh with hh | ⟨hh, q, hq, cq, iq⟩
      · omega
      · exfalso
        obtain rfl : p = q := idx_inj (st := stCnt) rfl hp hq (ip.trans iq.symm)
        have h1 := hl p cp
        have h2 := hm p cq
        rcases hap with ⟨x0, y0⟩ | ⟨x0, y0⟩
        · exact opp (h1.1 x0) (h2.2 y0)
        · exact opp (h2.1 y0) (h1.2 x0)

def seamC (l m : List Int) : List (Int × List Int) := [(4, [7, 0, 255, 255, 0, 0, 3]), (9, l), (9, m)] ++ (List.range 64).map rdC
theorem seam_enc (l m : List Int) : encC (seamC l m) = ([4, 7, 0, 255, 255, 0, 0, 3] ++ ((9 :: l) ++ (9 :: m))) ++ rdL 64 := by
  rw [seamC, encC_append]
  unfold rdL
  congr 1
  simp [encC]
theorem seam_ok (l m : List Int) (hl : l.length = 27) (hm : m.length = 27) : ∀ c ∈ seamC l m, cmdOk c := by
  intro c hc
  unfold seamC at hc
  rcases List.mem_append.1 hc with hc | hc
  · simp only [List.mem_cons, List.not_mem_nil, or_false] at hc
    rcases hc with rfl | rfl | rfl
    · exact cmd_len (by decide) (by decide) (by decide)
    · exact cmd_len (by decide) (by decide) (by rw [hl]; decide)
    · exact cmd_len (by decide) (by decide) (by rw [hm]; decide)
  · obtain ⟨i, _, rfl⟩ := List.mem_map.1 hc
    exact rd_ok i

/-- Replies: 64 stencils. -/
structure SeaR (w0 : World) (g : Nat) (x y : Int) (f : Nat → Int) (w : World) : Prop where
  k_ : ∀ i, i < 64 → w.cell? ⟨g, i * 4, none⟩ = some (.int .i64 3)
  a_ : ∀ i, i < 64 → w.cell? ⟨g, i * 4 + 1, none⟩ = some (.int .i64 (f i))
  bd : ∀ i, 0 ≤ f i ∧ f i ≤ 2
  ap : apart x y → ∀ i, f i ≤ 1
  old : Old w0 w

theorem seam_draw (a b c d : Cor) (l m : List Int) (hl : l.length = 27) (hm : m.length = 27) (hbl : bytesOk l) (hbm : bytesOk m) (sl : Sided a b c (covT (cornerOf l 0) (cornerOf l 9) (cornerOf l 18))) (sm : Sided a b d (covT (cornerOf m 0) (cornerOf m 9) (cornerOf m 18)))
    (ways : Int) (w0 : World) (ht : TabW w0) (w : World) (ho : Old w0 w) :
    Calls Tryd.prog 9 #[.string (textOf (([4, 7, 0, 255, 255, 0, 0, 3] ++ ((9 :: l) ++ (9 :: m))) ++ rdL 64)), .int .i64 ways] w fun e w' => ∃ v, e = .returned v ∧ ∃ g cap f, v = .slice (some ⟨g, 0, none⟩) 64 cap ∧ SeaR w0 g (edge a b c.x c.y) (edge a b d.x d.y) f w' := by
  have hbe : bytesOk (encC (seamC l m)) := by
    rw [seam_enc]
    exact bytesOk_append (bytesOk_append (by unfold bytesOk; decide) (bytesOk_append (bytesOk_cons (by decide) hbl) (bytesOk_cons (by decide) hbm))) rdL_ok
  have hlen : (encC (seamC l m)).length = 320 := by rw [seam_enc]; simp [hl, hm, rdL_length]
  rw [← seam_enc]
  refine (draw_cmds (seamC l m) (seam_ok l m hl hm) hbe (by rw [hlen]; simp [seamC]) (by rw [hlen]; omega) ways w (ht.old ho ht.pos)).mono ?_
  rintro e w' ⟨v, rfl, hw, hb⟩
  obtain ⟨f, hr, hf, ha⟩ := seam_apart a b c d l m sl sm
  rw [show runC (seamC l m) 0 st0 = runC ([(4, [7, 0, 255, 255, 0, 0, 3]), (9, l), (9, m)] ++ (List.range 64).map rdC) 0 st0 from rfl, hr] at hw
  have hln : ((List.range 64).map fun i => ({ k := 3, a := f i, b := 0, c := 0 } : Rep)).length = 64 := by simp
  obtain ⟨g, cap, rfl, hc⟩ := reps_open hw (by rw [hln]; omega)
  rw [hln] at hc
  refine ⟨_, rfl, g, cap, f, by rw [hln], ⟨fun i hi => ?_, fun i hi => ?_, hf, ha, ho.trans (Old.of hb)⟩⟩
  · rw [Nat.mul_comm i 4, hc _ (by omega), (rcells_get _ i (by rw [hln]; omega)).1]
    simp
  · rw [Nat.mul_comm i 4, hc _ (by omega), (rcells_get _ i (by rw [hln]; omega)).2.1]
    simp
end Go.Proofs.YtifloehpdkfchaaDoor
