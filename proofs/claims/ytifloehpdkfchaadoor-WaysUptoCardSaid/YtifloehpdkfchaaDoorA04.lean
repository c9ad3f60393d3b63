import Derived.Test.YtifloehpdkfchaaDoorA02

namespace Go.Proofs.YtifloehpdkfchaaDoor
open Go.RowKit

section
variable (p : Nat) (w : World)

set_option maxHeartbeats 1000000 in
theorem changed_u8 (v wr k s : Int) (h1 : 0 ≤ s) (h2 : s ≤ 255) (hv : w.cell? ⟨p, 17, none⟩ = some (.int .u8 v)) (hw : w.cell? ⟨p, 19, none⟩ = some (.int .u8 wr)) :
    Calls Tryd.prog 94 #[.pointer (some ⟨p, 16, none⟩), .int .u8 s, .int .u8 k] w fun e w' => e = .returned (.int .u8 (bits .or .u8 (bits .andNot .u8 s wr) (bits .and .u8 (stenNew k v s) wr))) ∧ Below w.heap.size w w' := by
  go_enter Tryd.func94, Tryd.ntmps94
  go_wp2_with fail
  go_region_held (fun w' => w'.cell? ⟨p, 17, none⟩ = some (.int .u8 v) ∧ w'.cell? ⟨p, 19, none⟩ = some (.int .u8 wr)) (go_keep) ((go_at_call 100; refine (made_u8 p _ v k s h1 h2 (by first | assumption | simp_all)).mono ?_; rintro e w' ⟨rfl, rfl⟩))
  all_goals
    go_wp2
    go_ret
    exact ⟨rfl, (Below.refl _ _).drew⟩

set_option maxHeartbeats 1000000 in
theorem spasses_u8 (t v wh s : Int) (h0 : 0 ≤ t) (h7 : t ≤ 7) (ht : w.cell? ⟨p, 16, none⟩ = some (.int .u8 t)) (hv : w.cell? ⟨p, 17, none⟩ = some (.int .u8 v)) (hw : w.cell? ⟨p, 18, none⟩ = some (.int .u8 wh)) :
    Calls Tryd.prog 90 #[.pointer (some ⟨p, 16, none⟩), .int .u8 s] w fun e w' => e = .returned (.bool (testB t (bits .and .u8 v wh) (bits .and .u8 s wh))) ∧ Below w.heap.size w w' := by
  go_enter Tryd.func90, Tryd.ntmps90
  go_wp2_with fail
  go_region_held (fun w' => w'.cell? ⟨p, 16, none⟩ = some (.int .u8 t) ∧ w'.cell? ⟨p, 17, none⟩ = some (.int .u8 v) ∧ w'.cell? ⟨p, 18, none⟩ = some (.int .u8 wh)) (go_keep) ((go_at_call 96; refine (passes8_any t _ _ _ h0 h7).mono ?_; rintro e w' ⟨rfl, rfl⟩))
  all_goals
    go_wp2
    go_ret
    exact ⟨rfl, (Below.refl _ _).drew⟩
end

set_option maxHeartbeats 1000000 in
theorem mayBe_any (a b c e : Int) (w : World) (a0 : 0 ≤ a) (a1 : a ≤ 255) :
    Calls Tryd.prog 72 #[.agg #[.int .u8 a, .int .u8 b, .int .u8 c, .int .u8 e]] w fun r w' => r = .returned (.bool (!wrongB a b c e)) ∧ Below w.heap.size w w' := by
  have ha : a = 0 ∨ a = 1 ∨ a = 2 ∨ a = 3 ∨ a = 4 ∨ a = 5 ∨ a = 6 ∨ a = 7 ∨ a = 8 ∨ 8 < a := by omega
  have hf : Hid (wrongB a b c e = if a = 6 then decide (7 < b) else if a = 7 then decide (7 < c) || decide (7 < e) else if a = 8 then decide (7 < c) else decide (8 < a) || aboveB [b, c, e] 7) := rfl
  rcases ha with rfl | rfl | rfl | rfl | rfl | rfl | rfl | rfl | rfl | ha
  all_goals
    go_enter Tryd.func72, Tryd.ntmps72
    go_wp2
    all_goals
      go_ret
      refine ⟨ret_bool ?_, below1⟩
      rw [hf.out]
      simp only [aboveB]
      rw [Bool.eq_iff_iff]
      first
        | (rw [if_neg (by omega), if_neg (by omega), if_neg (by omega)]; simp; omega)
        | (simp; done)
        | (simp; omega)
end Go.Proofs.YtifloehpdkfchaaDoor

namespace Go.Proofs.YtifloehpdkfchaaDoor
open Go.RowKit

theorem ofInt16_wrap (n : Int) : BitVec.ofInt 16 (IntKind.i16.wrap n) = BitVec.ofInt 16 n := by
  apply BitVec.eq_of_toNat_eq
  rw [BitVec.toNat_ofInt, BitVec.toNat_ofInt]
  congr 1
  simp [IntKind.wrap, IntKind.bits, IntKind.signed]
  split <;> omega

set_option maxRecDepth 100000 in
theorem or_i16 (c e : Int) (c0 : 0 ≤ c) (c1 : c ≤ 255) (e0 : 0 ≤ e) (e1 : e ≤ 255) : bits .or .i16 (IntKind.i16.wrap (c * 256)) e = if 32767 < 256 * c + e then 256 * c + e - 65536 else 256 * c + e := by
  obtain ⟨C, rfl⟩ := Int.eq_ofNat_of_zero_le c0
  obtain ⟨E, rfl⟩ := Int.eq_ofNat_of_zero_le e0
  show IntKind.i16.wrap ((BitVec.ofInt 16 (IntKind.i16.wrap ((C : Int) * 256)) ||| BitVec.ofInt 16 (E : Int)).toNat : Int) = _
  have e2 : (C : Int) * 256 = ((C * 256 : Nat) : Int) := by omega
  rw [ofInt16_wrap, e2, BitVec.toNat_or, BitVec.ofInt_natCast, BitVec.ofInt_natCast, BitVec.toNat_ofNat, BitVec.toNat_ofNat, Nat.mod_eq_of_lt (by omega), Nat.mod_eq_of_lt (by omega)]
  have h8 := Nat.two_pow_add_eq_or_of_lt (i := 8) (b := E) (by omega) C
  have e8 : (2 : Nat) ^ 8 = 256 := by decide
  rw [e8, Nat.mul_comm] at h8
  rw [← h8, i16_signed _ (by omega) (by omega)]
  split <;> split <;> omega

set_option maxRecDepth 100000 in
set_option maxHeartbeats 1000000 in
theorem reckon_any (g : Nat) (a b c e : Int) (r : List Int) (w : World) (_hr : r.length = 8) (hcell : ∀ j, j < 8 → w.cell? ⟨g, j, none⟩ = some (.int .i64 (r.getD j 0)))
    (hb : ∀ j, -2147483648 ≤ r.getD j 0 ∧ r.getD j 0 ≤ 2147483647) (a0 : 0 ≤ a) (a7 : a < 7) (c0 : 0 ≤ c) (c1 : c ≤ 255) (e0 : 0 ≤ e) (e1 : e ≤ 255) (hc7 : a ≠ 6 → c ≤ 7) (he7 : a ≠ 6 → e ≤ 7) :
    Calls Tryd.prog 89 #[.agg #[.int .u8 a, .int .u8 b, .int .u8 c, .int .u8 e], .pointer (some ⟨g, 0, none⟩)] w fun q w' =>
      q = .returned (.int .i64 (within (shVal a c e (reg r c) (reg r e)) (-2147483648) 2147483647)) ∧ Below w.heap.size w w' := by
  have hg : g < w.heap.size := World.block_lt_of_cell? w ⟨g, 0, none⟩ (hcell 0 (by omega))
  by_cases h6 : a = 6
  · subst h6
    go_enter Tryd.func89, Tryd.ntmps89
    go_wp2_with fail
    go_ret
    refine ⟨ret_int ?_, below1⟩
    have ho := or_i16 c e c0 c1 e0 e1
    have hv : shVal 6 c e (reg r c) (reg r e) = if 32767 < 256 * c + e then 256 * c + e - 65536 else 256 * c + e := by simp [shVal]
    rw [hv, ho]
    have hb : -32768 ≤ (if 32767 < 256 * c + e then 256 * c + e - 65536 else 256 * c + e) ∧ (if 32767 < 256 * c + e then 256 * c + e - 65536 else 256 * c + e) ≤ 32767 := by split <;> omega
    generalize (if 32767 < 256 * c + e then 256 * c + e - 65536 else 256 * c + e) = m at *
    rw [w64 (by omega)]
    unfold within
    rw [if_neg (by omega), if_neg (by omega)]
  · have hc := hc7 h6
    have he := he7 h6
    obtain ⟨C, rfl⟩ := Int.eq_ofNat_of_zero_le c0
    obtain ⟨E, rfl⟩ := Int.eq_ofNat_of_zero_le e0
    have k1 := hcell C (by omega)
    have k2 := hcell E (by omega)
    have r1 : reg r (C : Int) = r.getD C 0 := by unfold reg; congr 1; omega
    have r2 : reg r (E : Int) = r.getD E 0 := by unfold reg; congr 1; omega
    rw [r1, r2]
    obtain ⟨p0, p1⟩ := hb C
    obtain ⟨q0, q1⟩ := hb E
    generalize r.getD C 0 = x at *
    generalize r.getD E 0 = y at *
    clear hcell hb r1 r2 hc7 he7
    have hmul := mul_abs_le x y 2147483648 2147483648 (by omega) (by omega) (by omega) (by omega)
    have i1 : (C : Int) < 8 := by omega
    have i2 : (E : Int) < 8 := by omega
    have ha : a = 0 ∨ a = 1 ∨ a = 2 ∨ a = 3 ∨ a = 4 ∨ a = 5 := by omega
    have l1 : (w.alloc (.cells #[.int .u8 a, .int .u8 b, .int .u8 C, .int .u8 E] 152)).cell? ⟨g, C, none⟩ = some (.int .i64 x) := by rw [World.cell?_alloc_past _ _ _ hg]; exact k1
    have l2 : (w.alloc (.cells #[.int .u8 a, .int .u8 b, .int .u8 C, .int .u8 E] 152)).cell? ⟨g, E, none⟩ = some (.int .i64 y) := by rw [World.cell?_alloc_past _ _ _ hg]; exact k2
    have hgn : g ≠ w.heap.size := by omega
    clear h6 a0 a7
    rcases ha with rfl | rfl | rfl | rfl | rfl | rfl
    all_goals
      go_enter Tryd.func89, Tryd.ntmps89
      go_wp2_with fail
      go_quiet (fail)
      go_wp2_with (go_at_call 88; refine (bring_any _ _ _ _ (by omega)).mono ?_; rintro e w' ⟨rfl, rfl⟩)
      all_goals
        go_ret
        refine ⟨ret_int ?_, below1.drewN' nq⟩
        first
          | (congr 1; done)
          | (congr 1; simp [shVal]; done)
          | (congr 1; simp [shVal]; omega)
          | (congr 1; simp [shVal]; split <;> omega)
end Go.Proofs.YtifloehpdkfchaaDoor
