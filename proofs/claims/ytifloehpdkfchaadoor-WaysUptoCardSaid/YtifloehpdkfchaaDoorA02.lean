import Derived.Test.YtifloehpdkfchaaDoorA01

namespace Go.Proofs.YtifloehpdkfchaaDoor
open Go.RowKit

theorem k8 {n : Int} (h : 0 ≤ n ∧ n ≤ 255) : IntKind.u8.wrap n = n := IntWalk.u8_in n h

set_option maxHeartbeats 400000 in
theorem bring_any (n a b : Int) (w : World) (h : a ≤ b) :
    Calls Tryd.prog 88 #[.int .i64 n, .int .i64 a, .int .i64 b] w fun e w' => e = .returned (.int .i64 (within n a b)) ∧ w' = w := by
  go_enter Tryd.func88, Tryd.ntmps88
  go_wp2
  all_goals
    go_ret
    refine ⟨ret_int ?_, rfl⟩
    unfold within
    split <;> (try split) <;> omega

set_option maxHeartbeats 400000 in
theorem tilesFor_any (n : Int) (w : World) (h : 0 ≤ n) (h' : n ≤ 1000) :
    Calls Tryd.prog 48 #[.int .i64 n] w fun e w' => e = .returned (.int .i64 ((n + 3) / 4)) ∧ w' = w := by
  go_enter Tryd.func48, Tryd.ntmps48
  go_wp2
  go_ret
  exact ⟨ret_int (by omega), rfl⟩

set_option maxHeartbeats 400000 in
theorem passes8_any (k a b : Int) (w : World) (h0 : 0 ≤ k) (h1 : k ≤ 7) :
    Calls Tryd.prog 96 #[.int .u8 k, .int .u8 a, .int .u8 b] w fun e w' => e = .returned (.bool (testB k a b)) ∧ w' = w := by
  have hk : k = 0 ∨ k = 1 ∨ k = 2 ∨ k = 3 ∨ k = 4 ∨ k = 5 ∨ k = 6 ∨ k = 7 := by omega
  rcases hk with rfl | rfl | rfl | rfl | rfl | rfl | rfl | rfl
  all_goals
    go_enter Tryd.func96, Tryd.ntmps96
    go_wp2
    go_ret
    refine ⟨ret_bool ?_, rfl⟩
    simp [testB]
    try rfl

set_option maxHeartbeats 400000 in
theorem passes16_any (k a b : Int) (w : World) (h0 : 0 ≤ k) (h1 : k ≤ 7) :
    Calls Tryd.prog 91 #[.int .u8 k, .int .u16 a, .int .u16 b] w fun e w' => e = .returned (.bool (testB k a b)) ∧ w' = w := by
  have hk : k = 0 ∨ k = 1 ∨ k = 2 ∨ k = 3 ∨ k = 4 ∨ k = 5 ∨ k = 6 ∨ k = 7 := by omega
  rcases hk with rfl | rfl | rfl | rfl | rfl | rfl | rfl | rfl
  all_goals
    go_enter Tryd.func91, Tryd.ntmps91
    go_wp2
    go_ret
    refine ⟨ret_bool ?_, rfl⟩
    simp [testB]
    try rfl


end Go.Proofs.YtifloehpdkfchaaDoor

namespace Go.Proofs.YtifloehpdkfchaaDoor
open Go.RowKit
@[reducible] def sideV (a b : Cor) : Value := .agg #[.int .i64 a.x, .int .i64 a.y, .int .i64 b.x, .int .i64 b.y]

set_option maxHeartbeats 400000 in
theorem border_any (a b : Cor) (w : World) :
    Calls Tryd.prog 95 #[sideV a b] w fun e w' => e = .returned (.bool (decide (b.y < a.y) || (decide (b.y = a.y) && decide (a.x < b.x)))) ∧ Below w.heap.size w w' := by
  unfold sideV
  go_enter Tryd.func95, Tryd.ntmps95
  go_wp2
  all_goals
    go_ret
    refine ⟨ret_bool ?_, below1⟩
    simp_all

set_option maxHeartbeats 400000 in
theorem of_any (a b : Cor) (x y : Int) (w : World) (ha : a.Ok) (hb : b.Ok) (hx : -32768 ≤ x) (hx' : x ≤ 32767) (hy : -32768 ≤ y) (hy' : y ≤ 32767) :
    Calls Tryd.prog 75 #[sideV a b, .agg #[.int .i64 x, .int .i64 y]] w fun e w' => e = .returned (.int .i64 (edge a b x y)) ∧ Below w.heap.size w w' := by
  have hw := edge_wrap a b x y ha hb hx hx' hy hy'
  unfold sideV
  go_enter Tryd.func75, Tryd.ntmps75
  go_wp2
  go_ret
  exact ⟨ret_int hw, below2⟩

set_option maxHeartbeats 400000 in
theorem middle_any (x y : Int) (w : World) (h0 : 0 ≤ x) (h1 : x ≤ 1000) (h2 : 0 ≤ y) (h3 : y ≤ 1000) :
    Calls Tryd.prog 86 #[.int .i64 x, .int .i64 y] w fun e w' => e = .returned (.agg #[.int .i64 (16 * x + 8), .int .i64 (16 * y + 8)]) ∧ Below w.heap.size w w' := by
  go_enter Tryd.func86, Tryd.ntmps86
  go_wp2
  refine bodyPost_ret (v := .agg #[.int .i64 (16 * x + 8), .int .i64 (16 * y + 8)]) (by simp [results, Tryd.results86, go_sem]) rfl ?_
  exact ⟨rfl, below1⟩

set_option maxRecDepth 100000 in
theorem or_two (x y : Int) (h0 : 0 ≤ x) (h1 : x ≤ 255) (h2 : 0 ≤ y) (h3 : y ≤ 255) : bits .or .i64 (x * 256) y = 256 * x + y := by
  obtain ⟨X, rfl⟩ := Int.eq_ofNat_of_zero_le h0
  obtain ⟨Y, rfl⟩ := Int.eq_ofNat_of_zero_le h2
  have h := i64_or_nat (X * 256) Y (by omega) (by omega)
  have e : X * 256 ||| Y = X * 256 + Y := by
    have h8 := Nat.two_pow_add_eq_or_of_lt (i := 8) (b := Y) (by omega) X
    have e8 : (2 : Nat) ^ 8 = 256 := by decide
    rw [e8, Nat.mul_comm] at h8
    exact h8.symm
  rw [e] at h
  have e2 : ((X * 256 : Nat) : Int) = (X : Int) * 256 := by omega
  rw [e2] at h
  rw [h]; omega

theorem byte_wrap (s : ByteArray) (i : Nat) (h : i < s.size) : IntKind.i64.wrap (s[i].toNat : Int) = byteAt s i := by
  rw [← byteAt_eq s i h]; exact k64 (by have := byteAt_bd s i; omega)
theorem byte_u8 (s : ByteArray) (i : Nat) (h : i < s.size) : (s[i].toNat : Int) = byteAt s i := (byteAt_eq s i h).symm

set_option maxHeartbeats 400000 in
theorem two_any (s : ByteArray) (w : World) (h : 2 ≤ s.size) :
    Calls Tryd.prog 58 #[.string s] w fun e w' => e = .returned (.int .i64 (256 * byteAt s 0 + byteAt s 1)) ∧ ∃ n, w' = w.drewN n := by
  have e0 := byte_wrap s 0 (by omega)
  have e1 := byte_wrap s 1 (by omega)
  obtain ⟨b00, b01⟩ := byteAt_bd s 0
  obtain ⟨b10, b11⟩ := byteAt_bd s 1
  have ho := or_two _ _ b00 b01 b10 b11
  have y0 : 0 < s.size := by omega
  have y1 : 1 < s.size := by omega
  have z0 : (0 : Int) < (s.size : Int) := by omega
  have z1 : (1 : Int) < (s.size : Int) := by omega
  have hw : wrap64 (byteAt s 0 * 256) = byteAt s 0 * 256 := w64 (by omega)
  go_enter Tryd.func58, Tryd.ntmps58
  go_wp2_with fail
  go_quiet (fail)
  go_wp2
  go_ret
  exact ⟨rfl, nq, rfl⟩

theorem i16_signed (n : Int) (h0 : 0 ≤ n) (h1 : n ≤ 65535) : IntKind.i16.wrap n = if 32767 < n then n - 65536 else n := by
  simp [IntKind.wrap, IntKind.bits, IntKind.signed]
  split <;> split <;> omega

set_option maxHeartbeats 400000 in
theorem signed_any' (s : ByteArray) (w : World) (h : 2 ≤ s.size) :
    Calls Tryd.prog 81 #[.string s] w fun e w' => e = .returned (.int .i64 (if 32767 < 256 * byteAt s 0 + byteAt s 1 then 256 * byteAt s 0 + byteAt s 1 - 65536 else 256 * byteAt s 0 + byteAt s 1)) ∧ ∃ n, w' = w.drewN n := by
  obtain ⟨b00, b01⟩ := byteAt_bd s 0
  obtain ⟨b10, b11⟩ := byteAt_bd s 1
  have h16 := i16_signed (256 * byteAt s 0 + byteAt s 1) (by omega) (by omega)
  have ht := fun w' => two_any s w' h
  have m0 : 0 ≤ 256 * byteAt s 0 + byteAt s 1 := by omega
  have m1 : 256 * byteAt s 0 + byteAt s 1 ≤ 65535 := by omega
  generalize 256 * byteAt s 0 + byteAt s 1 = m at *
  have hm : -32768 ≤ IntKind.i16.wrap m ∧ IntKind.i16.wrap m ≤ 32767 := by rw [h16]; split <;> omega
  rw [← h16]
  have hw : IntKind.i64.wrap (IntKind.i16.wrap m) = IntKind.i16.wrap m := k64 (by omega)
  clear h16
  go_enter Tryd.func81, Tryd.ntmps81
  go_wp2_with fail
  refine (ht w).mono ?_
  rintro e w1 ⟨rfl, n1, rfl⟩
  go_wp2
  go_ret
  exact ⟨rfl, n1, rfl⟩

set_option maxRecDepth 100000 in
theorem u8_xor (s : Int) (h1 : 0 ≤ s) (h2 : s ≤ 255) : bits .xor .u8 IntKind.u8.max s = 255 - s := by
  obtain ⟨S, rfl⟩ := Int.eq_ofNat_of_zero_le h1
  have hS : S < 256 := by omega
  have key : ∀ n : Fin 256, bits .xor .u8 IntKind.u8.max ((n.val : Nat) : Int) = 255 - ((n.val : Nat) : Int) := by decide
  exact key ⟨S, hS⟩
section
variable (p : Nat) (w : World)

set_option maxHeartbeats 400000 in
theorem uses_any (wy way : Int) (h : w.cell? ⟨p, 26, none⟩ = some (.int .i64 wy)) : ∃ b, Calls Tryd.prog 55 #[.pointer (some ⟨p, 14, none⟩), .int .i64 way] w fun e w' => e = .returned (.bool b) ∧ w' = w := by
  refine ⟨(bits .and .i64 wy way != 0), ?_⟩
  go_enter Tryd.func55, Tryd.ntmps55
  go_wp2
  go_ret
  exact ⟨rfl, rfl⟩

set_option maxHeartbeats 400000 in
theorem draws_any (f : Int) (front : Bool) (h : w.cell? ⟨p, 23, none⟩ = some (.int .u8 f)) :
    Calls Tryd.prog 62 #[.pointer (some ⟨p, 14, none⟩), .bool front] w fun e w' => e = .returned (.bool (if f = 1 then front else if f = 2 then !front else true)) ∧ w' = w := by
  go_enter Tryd.func62, Tryd.ntmps62
  go_wp2
  all_goals
    go_ret
    refine ⟨ret_bool ?_, rfl⟩
    simp_all

set_option maxHeartbeats 400000 in
theorem has_any' (x y W H : Int) (h2 : w.cell? ⟨p, 2, none⟩ = some (.int .i64 W)) (h3 : w.cell? ⟨p, 3, none⟩ = some (.int .i64 H)) :
    Calls Tryd.prog 64 #[.pointer (some ⟨p, 2, none⟩), .int .i64 x, .int .i64 y] w fun e w' => e = .returned (.bool (decide (x < W) && decide (y < H))) ∧ w' = w := by
  go_enter Tryd.func64, Tryd.ntmps64
  go_wp2
  all_goals
    go_ret
    refine ⟨ret_bool ?_, rfl⟩
    simp_all <;> omega

set_option maxHeartbeats 400000 in
theorem made_u8 (v k s : Int) (h1 : 0 ≤ s) (h2 : s ≤ 255) (hv : w.cell? ⟨p, 17, none⟩ = some (.int .u8 v)) :
    Calls Tryd.prog 100 #[.pointer (some ⟨p, 16, none⟩), .int .u8 s, .int .u8 k] w fun e w' => e = .returned (.int .u8 (stenNew k v s)) ∧ w' = w := by
  have hx := u8_xor s h1 h2
  have HX : Hid (bits .xor .u8 IntKind.u8.max s = 255 - s) := hx
  clear hx
  go_enter Tryd.func100, Tryd.ntmps100
  go_wp2
  all_goals
    go_ret
    refine ⟨ret_int ?_, rfl⟩
    try rw [HX.out]
    simp only [beq_iff_eq, beq_eq_false_iff_ne, ne_eq] at *
    unfold stenNew
    first
      | (simp_all; done)
      | (simp_all; omega)
      | skip
end
end Go.Proofs.YtifloehpdkfchaaDoor
