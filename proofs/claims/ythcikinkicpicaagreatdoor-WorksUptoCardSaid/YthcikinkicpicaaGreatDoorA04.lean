import Derived.Test.YthcikinkicpicaaGreatDoorA02
import Derived.Test.YthcikinkicpicaaGreatDoorA01
import Derived.BigQuiet

namespace Go.Proofs.YthcikinkicpicaaGreatDoor
open Go.RowKit

section
variable (p : Nat) (w : World)

set_option maxHeartbeats 1000000 in
theorem changed_u8 (v wr k s : Int) (h1 : 0 ≤ s) (h2 : s ≤ 255) (hv : w.cell? ⟨p, 17, none⟩ = some (.int .u8 v)) (hw : w.cell? ⟨p, 19, none⟩ = some (.int .u8 wr)) :
    Calls Tryz.prog 148 #[.pointer (some ⟨p, 16, none⟩), .int .u8 s, .int .u8 k] w fun e w' => e = .returned (.int .u8 (bits .or .u8 (bits .andNot .u8 s wr) (bits .and .u8 (stenNew k v s) wr))) ∧ Below w.heap.size w w' := by
  go_enter Tryz.func148, Tryz.ntmps148
  go_wp2_with fail
  go_region_held (fun w' => w'.cell? ⟨p, 17, none⟩ = some (.int .u8 v) ∧ w'.cell? ⟨p, 19, none⟩ = some (.int .u8 wr)) (go_keep) ((go_at_call 155; refine (made_u8 p _ v k s h1 h2 (by first | assumption | simp_all)).mono ?_; rintro e w' ⟨rfl, rfl⟩))
  all_goals
    go_wp2
    go_ret
    exact ⟨rfl, (Below.refl _ _).drew⟩

set_option maxHeartbeats 1000000 in
theorem spasses_u8 (t v wh s : Int) (h0 : 0 ≤ t) (h7 : t ≤ 7) (ht : w.cell? ⟨p, 16, none⟩ = some (.int .u8 t)) (hv : w.cell? ⟨p, 17, none⟩ = some (.int .u8 v)) (hw : w.cell? ⟨p, 18, none⟩ = some (.int .u8 wh)) :
    Calls Tryz.prog 146 #[.pointer (some ⟨p, 16, none⟩), .int .u8 s] w fun e w' => e = .returned (.bool (testB t (bits .and .u8 v wh) (bits .and .u8 s wh))) ∧ Below w.heap.size w w' := by
  go_enter Tryz.func146, Tryz.ntmps146
  go_wp2_with fail
  go_region_held (fun w' => w'.cell? ⟨p, 16, none⟩ = some (.int .u8 t) ∧ w'.cell? ⟨p, 17, none⟩ = some (.int .u8 v) ∧ w'.cell? ⟨p, 18, none⟩ = some (.int .u8 wh)) (go_keep) ((go_at_call 154; refine (passes8_any t _ _ _ h0 h7).mono ?_; rintro e w' ⟨rfl, rfl⟩))
  all_goals
    go_wp2
    go_ret
    exact ⟨rfl, (Below.refl _ _).drew⟩
end

set_option maxHeartbeats 1000000 in
theorem mayBe_any (a b c e : Int) (w : World) (a0 : 0 ≤ a) (a1 : a ≤ 255) :
    Calls Tryz.prog 113 #[.agg #[.int .u8 a, .int .u8 b, .int .u8 c, .int .u8 e]] w fun r w' => r = .returned (.bool (!wrongB a b c e)) ∧ Below w.heap.size w w' := by
  have ha : a = 0 ∨ a = 1 ∨ a = 2 ∨ a = 3 ∨ a = 4 ∨ a = 5 ∨ a = 6 ∨ a = 7 ∨ a = 8 ∨ 8 < a := by omega
  have hf : Hid (wrongB a b c e = if a = 6 then decide (7 < b) else if a = 7 then decide (7 < c) || decide (7 < e) else if a = 8 then decide (7 < c) else decide (8 < a) || aboveB [b, c, e] 7) := rfl
  rcases ha with rfl | rfl | rfl | rfl | rfl | rfl | rfl | rfl | rfl | ha
  all_goals
    go_enter Tryz.func113, Tryz.ntmps113
    go_wp2
    all_goals
      go_ret
      refine ⟨ret_bool ?_, below1⟩
      rw [hf.out]
      simp only [aboveB]
      rw [Bool.eq_iff_iff]
      first
        | (rw [if_neg (by omega), if_neg (by omega), if_neg (by omega)]; simp; omega)
        | (simp; done)
        | (simp; omega)
end Go.Proofs.YthcikinkicpicaaGreatDoor

namespace Go.Proofs.YthcikinkicpicaaGreatDoor
open Go.RowKit

theorem ofInt16_wrap (n : Int) : BitVec.ofInt 16 (IntKind.i16.wrap n) = BitVec.ofInt 16 n := by
  apply BitVec.eq_of_toNat_eq
  rw [BitVec.toNat_ofInt, BitVec.toNat_ofInt]
  congr 1
  simp [IntKind.wrap, IntKind.bits, IntKind.signed]
  split <;> omega

set_option maxRecDepth 100000 in
theorem or_i16 (c e : Int) (c0 : 0 ≤ c) (c1 : c ≤ 255) (e0 : 0 ≤ e) (e1 : e ≤ 255) : bits .or .i16 (IntKind.i16.wrap (c * 256)) e = if 32767 < 256 * c + e then 256 * c + e - 65536 else 256 * c + e := by
  obtain ⟨C, rfl⟩ := Int.eq_ofNat_of_zero_le c0
  obtain ⟨E, rfl⟩ := Int.eq_ofNat_of_zero_le e0
  show IntKind.i16.wrap ((BitVec.ofInt 16 (IntKind.i16.wrap ((C : Int) * 256)) ||| BitVec.ofInt 16 (E : Int)).toNat : Int) = _
  have e2 : (C : Int) * 256 = ((C * 256 : Nat) : Int) := by omega
  rw [ofInt16_wrap, e2, BitVec.toNat_or, BitVec.ofInt_natCast, BitVec.ofInt_natCast, BitVec.toNat_ofNat, BitVec.toNat_ofNat, Nat.mod_eq_of_lt (by omega), Nat.mod_eq_of_lt (by omega)]
  have h8 := Nat.two_pow_add_eq_or_of_lt (i := 8) (b := E) (by omega) C
  have e8 : (2 : Nat) ^ 8 = 256 := by decide
  rw [e8, Nat.mul_comm] at h8
  rw [← h8, i16_signed _ (by omega) (by omega)]
  split <;> split <;> omega

set_option maxRecDepth 100000 in
set_option maxHeartbeats 1000000 in
theorem reckon_any (g : Nat) (a b c e : Int) (r : List Int) (w : World) (_hr : r.length = 8) (hcell : ∀ j, j < 8 → w.cell? ⟨g, j, none⟩ = some (.int .i64 (r.getD j 0)))
    (hb : ∀ j, -2147483648 ≤ r.getD j 0 ∧ r.getD j 0 ≤ 2147483647) (a0 : 0 ≤ a) (a7 : a < 7) (c0 : 0 ≤ c) (c1 : c ≤ 255) (e0 : 0 ≤ e) (e1 : e ≤ 255) (hc7 : a ≠ 6 → c ≤ 7) (he7 : a ≠ 6 → e ≤ 7) :
    Calls Tryz.prog 153 #[.agg #[.int .u8 a, .int .u8 b, .int .u8 c, .int .u8 e], .pointer (some ⟨g, 0, none⟩)] w fun q w' =>
      q = .returned (.int .i64 (within (shVal a c e (reg r c) (reg r e)) (-2147483648) 2147483647)) ∧ Below w.heap.size w w' := by
  have hg : g < w.heap.size := World.block_lt_of_cell? w ⟨g, 0, none⟩ (hcell 0 (by omega))
  by_cases h6 : a = 6
  · subst h6
    go_enter Tryz.func153, Tryz.ntmps153
    go_wp2_with fail
    go_ret
    refine ⟨ret_int ?_, below1⟩
    have ho := or_i16 c e c0 c1 e0 e1
    have hv : shVal 6 c e (reg r c) (reg r e) = if 32767 < 256 * c + e then 256 * c + e - 65536 else 256 * c + e := by simp [shVal]
    rw [hv, ho]
    have hb : -32768 ≤ (if 32767 < 256 * c + e then 256 * c + e - 65536 else 256 * c + e) ∧ (if 32767 < 256 * c + e then 256 * c + e - 65536 else 256 * c + e) ≤ 32767 := by split <;> omega
    generalize (if 32767 < 256 * c + e then 256 * c + e - 65536 else 256 * c + e) = m at *
    rw [w64 (by omega)]
    unfold within
    rw [if_neg (by omega), if_neg (by omega)]
  · have hc := hc7 h6
    have he := he7 h6
    obtain ⟨C, rfl⟩ := Int.eq_ofNat_of_zero_le c0
    obtain ⟨E, rfl⟩ := Int.eq_ofNat_of_zero_le e0
    have k1 := hcell C (by omega)
    have k2 := hcell E (by omega)
    have r1 : reg r (C : Int) = r.getD C 0 := by unfold reg; congr 1; omega
    have r2 : reg r (E : Int) = r.getD E 0 := by unfold reg; congr 1; omega
    rw [r1, r2]
    obtain ⟨p0, p1⟩ := hb C
    obtain ⟨q0, q1⟩ := hb E
    generalize r.getD C 0 = x at *
    generalize r.getD E 0 = y at *
    clear hcell hb r1 r2 hc7 he7
    have hmul := mul_abs_le x y 2147483648 2147483648 (by omega) (by omega) (by omega) (by omega)
    have i1 : (C : Int) < 8 := by omega
    have i2 : (E : Int) < 8 := by omega
    have ha : a = 0 ∨ a = 1 ∨ a = 2 ∨ a = 3 ∨ a = 4 ∨ a = 5 := by omega
    have l1 : (w.alloc (.cells #[.int .u8 a, .int .u8 b, .int .u8 C, .int .u8 E] 208)).cell? ⟨g, C, none⟩ = some (.int .i64 x) := by rw [World.cell?_alloc_past _ _ _ hg]; exact k1
    have l2 : (w.alloc (.cells #[.int .u8 a, .int .u8 b, .int .u8 C, .int .u8 E] 208)).cell? ⟨g, E, none⟩ = some (.int .i64 y) := by rw [World.cell?_alloc_past _ _ _ hg]; exact k2
    have hgn : g ≠ w.heap.size := by omega
    clear h6 a0 a7
    rcases ha with rfl | rfl | rfl | rfl | rfl | rfl
    all_goals
      go_enter Tryz.func153, Tryz.ntmps153
      go_wp2_with fail
      go_quiet (fail)
      go_wp2_with (go_at_call 152; refine (bring_any _ _ _ _ (by omega)).mono ?_; rintro e w' ⟨rfl, rfl⟩)
      all_goals
        go_ret
        refine ⟨ret_int ?_, below1.drewN' nq⟩
        first
          | (congr 1; done)
          | (congr 1; simp [shVal]; done)
          | (congr 1; simp [shVal]; omega)
          | (congr 1; simp [shVal]; split <;> omega)
end Go.Proofs.YthcikinkicpicaaGreatDoor

namespace Go.Proofs.YthcikinkicpicaaGreatDoor
open Go.RowKit

section
variable (p : Nat) (w : World)

set_option maxHeartbeats 400000 in
theorem changes_any (T : Tst) (k : Int) (hw : w.cell? ⟨p, 19, none⟩ = some (.int .u8 T.writes)) :
    Calls Tryz.prog 138 #[.pointer (some ⟨p, 16, none⟩), .int .u8 k] w fun e w' => e = .returned (.bool (chB T k)) ∧ w' = w := by
  unfold chB
  by_cases h1 : k = 0
  · subst h1
    go_enter Tryz.func138, Tryz.ntmps138
    go_wp2
    go_ret
    exact ⟨ret_bool (by simp), rfl⟩
  · have h1' : (k != 0) = true := by simpa using h1
    go_enter Tryz.func138, Tryz.ntmps138
    go_wp2
    go_ret
    exact ⟨ret_bool (by by_cases h : T.writes = 0 <;> simp [h1, h]), rfl⟩

set_option maxHeartbeats 1000000 in
theorem showsFailing_any (T : Tst) (h14 : w.cell? ⟨p, 14, none⟩ = some (.int .u8 T.depth)) (h16 : w.cell? ⟨p, 16, none⟩ = some (.int .u8 T.test)) (h19 : w.cell? ⟨p, 19, none⟩ = some (.int .u8 T.writes)) (h20 : w.cell? ⟨p, 20, none⟩ = some (.int .u8 T.fail)) (h21 : w.cell? ⟨p, 21, none⟩ = some (.int .u8 T.dfail)) :
    Calls Tryz.prog 117 #[.pointer (some ⟨p, 14, none⟩)] w fun e w' => e = .returned (.bool (failB T)) ∧ w' = w := by
  have HC : Hid (∀ k, Calls Tryz.prog 138 #[.pointer (some ⟨p, 16, none⟩), .int .u8 k] w fun e w' => e = .returned (.bool (chB T k)) ∧ w' = w) := fun k => changes_any p w T k h19
  have HF : Hid (failB T = ((decide (T.test ≠ 7) && chB T T.fail) || (decide (T.test ≠ 0) && decide (T.depth ≠ 7) && chB T T.dfail))) := rfl
  have H1 : Hid (Calls Tryz.prog 138 #[.pointer (some ⟨p, 16, none⟩), .int .u8 T.fail] w fun e w' => e = .returned (.bool (chB T T.fail)) ∧ w' = w) := HC.out _
  have H2 : Hid (Calls Tryz.prog 138 #[.pointer (some ⟨p, 16, none⟩), .int .u8 T.dfail] w fun e w' => e = .returned (.bool (chB T T.dfail)) ∧ w' = w) := HC.out _
  rw [HF.out]
  clear HC HF h19
  generalize chB T T.fail = b1 at *
  generalize chB T T.dfail = b2 at *
  generalize T.test = t at *
  generalize T.depth = z at *
  generalize T.fail = f at *
  generalize T.dfail = g at *
  by_cases h7 : t = 7
  · subst h7
    by_cases hz : z = 7
    · subst hz
      go_enter Tryz.func117, Tryz.ntmps117
      go_wp2_with fail
      go_ret
      exact ⟨ret_bool (by simp), rfl⟩
    · have hz' : (z != 7) = true := by simpa using hz
      go_enter Tryz.func117, Tryz.ntmps117
      go_wp2_with (go_at_call 138; refine H2.out.mono ?_; rintro e w' ⟨rfl, rfl⟩)
      go_ret
      exact ⟨ret_bool (by simp [hz]), rfl⟩
  · have h7' : (t != 7) = true := by simpa using h7
    cases b1
    · by_cases h0 : t = 0
      · subst h0
        go_enter Tryz.func117, Tryz.ntmps117
        go_wp2_with (go_at_call 138; refine H1.out.mono ?_; rintro e w' ⟨rfl, rfl⟩)
        go_ret
        exact ⟨ret_bool (by simp), rfl⟩
      · have h0' : (t != 0) = true := by simpa using h0
        by_cases hz : z = 7
        · subst hz
          go_enter Tryz.func117, Tryz.ntmps117
          go_wp2_with (go_at_call 138; refine H1.out.mono ?_; rintro e w' ⟨rfl, rfl⟩)
          go_ret
          exact ⟨ret_bool (by simp), rfl⟩
        · have hz' : (z != 7) = true := by simpa using hz
          go_enter Tryz.func117, Tryz.ntmps117
          go_upto_region 4 with (go_at_call 138; refine H1.out.mono ?_; rintro e w' ⟨rfl, rfl⟩)
          go_wp2_with (go_at_call 138; refine H2.out.mono ?_; rintro e w' ⟨rfl, rfl⟩)
          go_ret
          exact ⟨ret_bool (by simp [h7, h0, hz]), rfl⟩
    · go_enter Tryz.func117, Tryz.ntmps117
      go_wp2_with (go_at_call 138; refine H1.out.mono ?_; rintro e w' ⟨rfl, rfl⟩)
      go_ret
      exact ⟨ret_bool (by simp [h7]), rfl⟩

set_option maxHeartbeats 1000000 in
theorem showsPassing_any (T : Tst) (cnt : Bool) (h14 : w.cell? ⟨p, 14, none⟩ = some (.int .u8 T.depth)) (h15 : w.cell? ⟨p, 15, none⟩ = some (.bool (decide (T.write = 1)))) (h16 : w.cell? ⟨p, 16, none⟩ = some (.int .u8 T.test)) (h19 : w.cell? ⟨p, 19, none⟩ = some (.int .u8 T.writes)) (h22 : w.cell? ⟨p, 22, none⟩ = some (.int .u8 T.pass)) (h24 : w.cell? ⟨p, 24, none⟩ = some (.int .u8 T.colours)) :
    Calls Tryz.prog 118 #[.pointer (some ⟨p, 14, none⟩), .bool cnt] w fun e w' => e = .returned (.bool (passB T cnt)) ∧ ∃ n, w' = w.drewN n := by
  have HC : Hid (∀ W : World, W.cell? ⟨p, 19, none⟩ = some (.int .u8 T.writes) → Calls Tryz.prog 138 #[.pointer (some ⟨p, 16, none⟩), .int .u8 T.pass] W fun e w' => e = .returned (.bool (chB T T.pass)) ∧ w' = W) := fun W h => changes_any p W T T.pass h
  unfold passB
  by_cases h0 : T.test = 0
  · rw [if_pos (.inl h0)]
    rw [h0] at h16
    clear HC
    go_enter Tryz.func118, Tryz.ntmps118
    go_wp2_with fail
    go_ret
    exact ⟨rfl, 0, rfl⟩
  · have h0' : (T.test == 0) = false := by simpa using h0
    by_cases hz : T.depth = 0
    · rw [if_pos (.inr hz)]
      rw [hz] at h14
      clear HC
      go_enter Tryz.func118, Tryz.ntmps118
      go_wp2_with fail
      go_ret
      exact ⟨rfl, 0, rfl⟩
    · have hz' : (T.depth == 0) = false := by simpa using hz
      rw [if_neg (by omega)]
      cases cnt
      · cases hw : decide (T.write = 1)
        · rw [hw] at h15
          by_cases hc : T.colours = 0
          · rw [hc] at h24
            go_enter Tryz.func118, Tryz.ntmps118
            go_wp2_with fail
            go_quiet ((go_at_call 138; refine Calls.quiet_of_same (HC.out _ (by simp [h19]))))
            go_wp2_with fail
            go_ret
            exact ⟨ret_bool (by simp [hc]), _, rfl⟩
          · have hc' : (T.colours != 0) = true := by simpa using hc
            go_enter Tryz.func118, Tryz.ntmps118
            go_wp2_with fail
            go_quiet (fail)
            go_wp2_with fail
            go_ret
            exact ⟨ret_bool (by simp [hc]), _, rfl⟩
        · rw [hw] at h15
          go_enter Tryz.func118, Tryz.ntmps118
          go_wp2_with fail
          go_quiet (fail)
          go_wp2_with fail
          go_ret
          exact ⟨ret_bool (by simp), _, rfl⟩
      · go_enter Tryz.func118, Tryz.ntmps118
        go_wp2_with fail
        go_quiet (fail)
        go_wp2_with fail
        go_ret
        exact ⟨ret_bool (by simp), _, rfl⟩

set_option maxHeartbeats 400000 in
theorem canWait_any (g b : Bool) (h26 : w.cell? ⟨p, 26, none⟩ = some (.bool g)) (h27 : w.cell? ⟨p, 27, none⟩ = some (.bool b)) :
    Calls Tryz.prog 129 #[.pointer (some ⟨p, 25, none⟩)] w fun e w' => e = .returned (.bool (!g && !b)) ∧ w' = w := by
  cases g <;> cases b
  all_goals
    go_enter Tryz.func129, Tryz.ntmps129
    go_wp2
    go_ret
    exact ⟨rfl, rfl⟩
end

set_option maxHeartbeats 1000000 in
theorem mayPass_any (k cl cm tl tm : Int) (w : World) (h0 : 0 ≤ k) (h1 : k ≤ 7) :
    Calls Tryz.prog 126 #[.int .u8 k, .agg #[.int .u16 cl, .int .u16 cm], .agg #[.int .u16 tl, .int .u16 tm]] w fun e w' => e = .returned (.bool (mayB k cl cm tl tm)) ∧ Below w.heap.size w w' := by
  have HP : Hid (∀ a b W, Calls Tryz.prog 142 #[.int .u8 k, .int .u16 a, .int .u16 b] W fun e w'' => e = .returned (.bool (testB k a b)) ∧ w'' = W) := fun a b W => passes16_any k a b W h0 h1
  have hk : k = 0 ∨ k = 1 ∨ k = 2 ∨ k = 3 ∨ k = 4 ∨ k = 5 ∨ k = 6 ∨ k = 7 := by omega
  rcases hk with rfl | rfl | rfl | rfl | rfl | rfl | rfl | rfl
  · go_enter Tryz.func126, Tryz.ntmps126
    go_wp2_with fail
    go_ret
    exact ⟨ret_bool (by simp [mayB]), below2⟩
  · go_enter Tryz.func126, Tryz.ntmps126
    go_wp2_with (go_at_call 142; refine (HP.out _ _ _).mono ?_; rintro e w' ⟨rfl, rfl⟩)
    go_ret
    exact ⟨ret_bool (by simp [mayB]), below2⟩
  · by_cases hc : cl ≤ tm
    · go_enter Tryz.func126, Tryz.ntmps126
      go_wp2_with fail
      go_ret
      exact ⟨ret_bool (by simp [mayB, hc]), below2⟩
    · have hc' : decide (cl ≤ tm) = false := decide_eq_false hc
      go_enter Tryz.func126, Tryz.ntmps126
      go_wp2_with fail
      go_ret
      exact ⟨ret_bool (by simp [mayB]; omega), below2⟩
  · go_enter Tryz.func126, Tryz.ntmps126
    go_wp2_with (go_at_call 142; refine (HP.out _ _ _).mono ?_; rintro e w' ⟨rfl, rfl⟩)
    go_ret
    exact ⟨ret_bool (by simp [mayB]), below2⟩
  · go_enter Tryz.func126, Tryz.ntmps126
    go_wp2_with (go_at_call 142; refine (HP.out _ _ _).mono ?_; rintro e w' ⟨rfl, rfl⟩)
    go_ret
    exact ⟨ret_bool (by simp [mayB]), below2⟩
  · by_cases hc : cl = tm
    · subst hc
      go_enter Tryz.func126, Tryz.ntmps126
      go_wp2_with fail
      go_ret
      exact ⟨ret_bool (by by_cases h : cm = tl <;> simp [mayB, h]), below2⟩
    · have hc' : (cl != tm) = true := by simpa using hc
      go_enter Tryz.func126, Tryz.ntmps126
      go_wp2_with fail
      go_ret
      exact ⟨ret_bool (by simp [mayB, hc]), below2⟩
  · go_enter Tryz.func126, Tryz.ntmps126
    go_wp2_with (go_at_call 142; refine (HP.out _ _ _).mono ?_; rintro e w' ⟨rfl, rfl⟩)
    go_ret
    exact ⟨ret_bool (by simp [mayB]), below2⟩
  · go_enter Tryz.func126, Tryz.ntmps126
    go_wp2_with fail
    go_ret
    exact ⟨ret_bool (by simp [mayB]), below2⟩
end Go.Proofs.YthcikinkicpicaaGreatDoor
