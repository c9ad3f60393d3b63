import Derived.Test.YthcikinkicpicaaGreatDoorA01
import Derived.BigRegion

namespace Go.Proofs.YthcikinkicpicaaGreatDoor
open Go.RowKit

theorem k8 {n : Int} (h : 0 ≤ n ∧ n ≤ 255) : IntKind.u8.wrap n = n := IntWalk.u8_in n h

set_option maxHeartbeats 400000 in
theorem bring_any (n a b : Int) (w : World) (h : a ≤ b) :
    Calls Tryz.prog 152 #[.int .i64 n, .int .i64 a, .int .i64 b] w fun e w' => e = .returned (.int .i64 (within n a b)) ∧ w' = w := by
  go_enter Tryz.func152, Tryz.ntmps152
  go_wp2
  all_goals
    go_ret
    refine ⟨ret_int ?_, rfl⟩
    unfold within
    split <;> (try split) <;> omega

set_option maxHeartbeats 400000 in
theorem tilesFor_any (n : Int) (w : World) (h : 0 ≤ n) (h' : n ≤ 1000) :
    Calls Tryz.prog 73 #[.int .i64 n] w fun e w' => e = .returned (.int .i64 ((n + 3) / 4)) ∧ w' = w := by
  go_enter Tryz.func73, Tryz.ntmps73
  go_wp2
  go_ret
  exact ⟨ret_int (by omega), rfl⟩

set_option maxHeartbeats 400000 in
theorem passes8_any (k a b : Int) (w : World) (h0 : 0 ≤ k) (h1 : k ≤ 7) :
    Calls Tryz.prog 154 #[.int .u8 k, .int .u8 a, .int .u8 b] w fun e w' => e = .returned (.bool (testB k a b)) ∧ w' = w := by
  have hk : k = 0 ∨ k = 1 ∨ k = 2 ∨ k = 3 ∨ k = 4 ∨ k = 5 ∨ k = 6 ∨ k = 7 := by omega
  rcases hk with rfl | rfl | rfl | rfl | rfl | rfl | rfl | rfl
  all_goals
    go_enter Tryz.func154, Tryz.ntmps154
    go_wp2
    go_ret
    refine ⟨ret_bool ?_, rfl⟩
    simp [testB]
    try rfl

set_option maxHeartbeats 400000 in
theorem passes16_any (k a b : Int) (w : World) (h0 : 0 ≤ k) (h1 : k ≤ 7) :
    Calls Tryz.prog 142 #[.int .u8 k, .int .u16 a, .int .u16 b] w fun e w' => e = .returned (.bool (testB k a b)) ∧ w' = w := by
  have hk : k = 0 ∨ k = 1 ∨ k = 2 ∨ k = 3 ∨ k = 4 ∨ k = 5 ∨ k = 6 ∨ k = 7 := by omega
  rcases hk with rfl | rfl | rfl | rfl | rfl | rfl | rfl | rfl
  all_goals
    go_enter Tryz.func142, Tryz.ntmps142
    go_wp2
    go_ret
    refine ⟨ret_bool ?_, rfl⟩
    simp [testB]
    try rfl


end Go.Proofs.YthcikinkicpicaaGreatDoor

namespace Go.Proofs.YthcikinkicpicaaGreatDoor
open Go.RowKit
@[reducible] def sideV (a b : Cor) : Value := .agg #[.int .i64 a.x, .int .i64 a.y, .int .i64 b.x, .int .i64 b.y]

set_option maxHeartbeats 400000 in
theorem border_any (a b : Cor) (w : World) :
    Calls Tryz.prog 139 #[sideV a b] w fun e w' => e = .returned (.bool (decide (b.y < a.y) || (decide (b.y = a.y) && decide (a.x < b.x)))) ∧ Below w.heap.size w w' := by
  unfold sideV
  go_enter Tryz.func139, Tryz.ntmps139
  go_wp2
  all_goals
    go_ret
    refine ⟨ret_bool ?_, below1⟩
    simp_all

set_option maxHeartbeats 400000 in
theorem of_any (a b : Cor) (x y : Int) (w : World) (ha : a.Ok) (hb : b.Ok) (hx : -32768 ≤ x) (hx' : x ≤ 32767) (hy : -32768 ≤ y) (hy' : y ≤ 32767) :
    Calls Tryz.prog 115 #[sideV a b, .agg #[.int .i64 x, .int .i64 y]] w fun e w' => e = .returned (.int .i64 (edge a b x y)) ∧ Below w.heap.size w w' := by
  have hw := edge_wrap a b x y ha hb hx hx' hy hy'
  unfold sideV
  go_enter Tryz.func115, Tryz.ntmps115
  go_wp2
  go_ret
  exact ⟨ret_int hw, below2⟩

set_option maxHeartbeats 400000 in
theorem middle_any (x y : Int) (w : World) (h0 : 0 ≤ x) (h1 : x ≤ 1000) (h2 : 0 ≤ y) (h3 : y ≤ 1000) :
    Calls Tryz.prog 121 #[.int .i64 x, .int .i64 y] w fun e w' => e = .returned (.agg #[.int .i64 (16 * x + 8), .int .i64 (16 * y + 8)]) ∧ Below w.heap.size w w' := by
  go_enter Tryz.func121, Tryz.ntmps121
  go_wp2
  refine bodyPost_ret (v := .agg #[.int .i64 (16 * x + 8), .int .i64 (16 * y + 8)]) (by simp [results, Tryz.results121, go_sem]) rfl ?_
  exact ⟨rfl, below1⟩

set_option maxRecDepth 100000 in
theorem or_two (x y : Int) (h0 : 0 ≤ x) (h1 : x ≤ 255) (h2 : 0 ≤ y) (h3 : y ≤ 255) : bits .or .i64 (x * 256) y = 256 * x + y := by
  obtain ⟨X, rfl⟩ := Int.eq_ofNat_of_zero_le h0
  obtain ⟨Y, rfl⟩ := Int.eq_ofNat_of_zero_le h2
  have h := i64_or_nat (X * 256) Y (by omega) (by omega)
  have e : X * 256 ||| Y = X * 256 + Y := by
    have h8 := Nat.two_pow_add_eq_or_of_lt (i := 8) (b := Y) (by omega) X
    have e8 : (2 : Nat) ^ 8 = 256 := by decide
    rw [e8, Nat.mul_comm] at h8
    exact h8.symm
  rw [e] at h
  have e2 : ((X * 256 : Nat) : Int) = (X : Int) * 256 := by omega
  rw [e2] at h
  rw [h]; omega

theorem byte_wrap (s : ByteArray) (i : Nat) (h : i < s.size) : IntKind.i64.wrap (s[i].toNat : Int) = byteAt s i := by
  rw [← byteAt_eq s i h]; exact k64 (by have := byteAt_bd s i; omega)
theorem byte_u8 (s : ByteArray) (i : Nat) (h : i < s.size) : (s[i].toNat : Int) = byteAt s i := (byteAt_eq s i h).symm

set_option maxHeartbeats 400000 in
theorem two_any (s : ByteArray) (w : World) (h : 2 ≤ s.size) :
    Calls Tryz.prog 83 #[.string s] w fun e w' => e = .returned (.int .i64 (256 * byteAt s 0 + byteAt s 1)) ∧ ∃ n, w' = w.drewN n := by
  have e0 := byte_wrap s 0 (by omega)
  have e1 := byte_wrap s 1 (by omega)
  obtain ⟨b00, b01⟩ := byteAt_bd s 0
  obtain ⟨b10, b11⟩ := byteAt_bd s 1
  have ho := or_two _ _ b00 b01 b10 b11
  have y0 : 0 < s.size := by omega
  have y1 : 1 < s.size := by omega
  have z0 : (0 : Int) < (s.size : Int) := by omega
  have z1 : (1 : Int) < (s.size : Int) := by omega
  have hw : wrap64 (byteAt s 0 * 256) = byteAt s 0 * 256 := w64 (by omega)
  go_enter Tryz.func83, Tryz.ntmps83
  go_wp2_with fail
  go_quiet (fail)
  go_wp2
  go_ret
  exact ⟨rfl, nq, rfl⟩

theorem i16_signed (n : Int) (h0 : 0 ≤ n) (h1 : n ≤ 65535) : IntKind.i16.wrap n = if 32767 < n then n - 65536 else n := by
  simp [IntKind.wrap, IntKind.bits, IntKind.signed]
  split <;> split <;> omega

set_option maxHeartbeats 400000 in
theorem signed_any' (s : ByteArray) (w : World) (h : 2 ≤ s.size) :
    Calls Tryz.prog 134 #[.string s] w fun e w' => e = .returned (.int .i64 (if 32767 < 256 * byteAt s 0 + byteAt s 1 then 256 * byteAt s 0 + byteAt s 1 - 65536 else 256 * byteAt s 0 + byteAt s 1)) ∧ ∃ n, w' = w.drewN n := by
  obtain ⟨b00, b01⟩ := byteAt_bd s 0
  obtain ⟨b10, b11⟩ := byteAt_bd s 1
  have h16 := i16_signed (256 * byteAt s 0 + byteAt s 1) (by omega) (by omega)
  have ht := fun w' => two_any s w' h
  have m0 : 0 ≤ 256 * byteAt s 0 + byteAt s 1 := by omega
  have m1 : 256 * byteAt s 0 + byteAt s 1 ≤ 65535 := by omega
  generalize 256 * byteAt s 0 + byteAt s 1 = m at *
  have hm : -32768 ≤ IntKind.i16.wrap m ∧ IntKind.i16.wrap m ≤ 32767 := by rw [h16]; split <;> omega
  rw [← h16]
  have hw : IntKind.i64.wrap (IntKind.i16.wrap m) = IntKind.i16.wrap m := k64 (by omega)
  clear h16
  go_enter Tryz.func134, Tryz.ntmps134
  go_wp2_with fail
  refine (ht w).mono ?_
  rintro e w1 ⟨rfl, n1, rfl⟩
  go_wp2
  go_ret
  exact ⟨rfl, n1, rfl⟩

set_option maxHeartbeats 400000 in
theorem takes_any (a b : Cor) (e : Int) (w : World) : Calls Tryz.prog 120 #[sideV a b, .int .i64 e] w fun r w' => r = .returned (.bool (hasB a b e)) ∧ Below w.heap.size w w' := by
  have HB : Hid (∀ W, Calls Tryz.prog 139 #[sideV a b] W fun e w' => e = .returned (.bool (hasB a b 0)) ∧ Below W.heap.size W w') := fun W => border_any a b W
  obtain ⟨v, hv⟩ : ∃ v, hasB a b 0 = v := ⟨_, rfl⟩
  rw [hv] at HB
  rcases Int.lt_trichotomy e 0 with h | h | h
  · have hr : hasB a b e = false := by unfold hasB; rw [if_neg (by omega)]; simp; omega
    have h1 : ¬ (0 < e) := by omega
    have h2 : (e == 0) = false := by simp; omega
    rw [hr]
    clear hr hv HB
    go_enter Tryz.func120, Tryz.ntmps120
    go_wp2
    go_ret
    exact ⟨rfl, below1⟩
  · subst h
    rw [hv]
    clear hv
    go_enter Tryz.func120, Tryz.ntmps120
    go_wp2_with (go_at_call 139; refine (HB.out _).mono ?_; rintro e w1 ⟨rfl, hb1⟩)
    go_ret
    exact ⟨rfl, below1.trans (hb1.mono (by simp))⟩
  · have hr : hasB a b e = true := by unfold hasB; rw [if_neg (by omega)]; simp; omega
    rw [hr]
    clear hr hv HB
    go_enter Tryz.func120, Tryz.ntmps120
    go_wp2
    go_ret
    exact ⟨rfl, below1⟩

set_option maxRecDepth 100000 in
theorem u8_xor (s : Int) (h1 : 0 ≤ s) (h2 : s ≤ 255) : bits .xor .u8 IntKind.u8.max s = 255 - s := by
  obtain ⟨S, rfl⟩ := Int.eq_ofNat_of_zero_le h1
  have hS : S < 256 := by omega
  have key : ∀ n : Fin 256, bits .xor .u8 IntKind.u8.max ((n.val : Nat) : Int) = 255 - ((n.val : Nat) : Int) := by decide
  exact key ⟨S, hS⟩
section
variable (p : Nat) (w : World)

def useB (wy way : Int) : Bool := bits .and .i64 wy way != 0
set_option maxHeartbeats 400000 in
theorem uses_any (wy way : Int) (h : w.cell? ⟨p, 28, none⟩ = some (.int .i64 wy)) : Calls Tryz.prog 80 #[.pointer (some ⟨p, 14, none⟩), .int .i64 way] w fun e w' => e = .returned (.bool (useB wy way)) ∧ w' = w := by
  go_enter Tryz.func80, Tryz.ntmps80
  go_wp2
  go_ret
  exact ⟨rfl, rfl⟩

set_option maxHeartbeats 400000 in
theorem draws_any (f : Int) (front : Bool) (h : w.cell? ⟨p, 23, none⟩ = some (.int .u8 f)) :
    Calls Tryz.prog 87 #[.pointer (some ⟨p, 14, none⟩), .bool front] w fun e w' => e = .returned (.bool (if f = 1 then front else if f = 2 then !front else true)) ∧ w' = w := by
  go_enter Tryz.func87, Tryz.ntmps87
  go_wp2
  all_goals
    go_ret
    refine ⟨ret_bool ?_, rfl⟩
    simp_all

set_option maxHeartbeats 400000 in
theorem has_any' (x y W H : Int) (h2 : w.cell? ⟨p, 2, none⟩ = some (.int .i64 W)) (h3 : w.cell? ⟨p, 3, none⟩ = some (.int .i64 H)) :
    Calls Tryz.prog 94 #[.pointer (some ⟨p, 2, none⟩), .int .i64 x, .int .i64 y] w fun e w' => e = .returned (.bool (decide (x < W) && decide (y < H))) ∧ w' = w := by
  go_enter Tryz.func94, Tryz.ntmps94
  go_wp2
  all_goals
    go_ret
    refine ⟨ret_bool ?_, rfl⟩
    simp_all <;> omega

set_option maxHeartbeats 400000 in
theorem made_u8 (v k s : Int) (h1 : 0 ≤ s) (h2 : s ≤ 255) (hv : w.cell? ⟨p, 17, none⟩ = some (.int .u8 v)) :
    Calls Tryz.prog 155 #[.pointer (some ⟨p, 16, none⟩), .int .u8 s, .int .u8 k] w fun e w' => e = .returned (.int .u8 (stenNew k v s)) ∧ w' = w := by
  have hx := u8_xor s h1 h2
  have HX : Hid (bits .xor .u8 IntKind.u8.max s = 255 - s) := hx
  clear hx
  go_enter Tryz.func155, Tryz.ntmps155
  go_wp2
  all_goals
    go_ret
    refine ⟨ret_int ?_, rfl⟩
    try rw [HX.out]
    simp only [beq_iff_eq, beq_eq_false_iff_ne, ne_eq] at *
    unfold stenNew
    first
      | (simp_all; done)
      | (simp_all; omega)
      | skip
end
end Go.Proofs.YthcikinkicpicaaGreatDoor

namespace Go.Proofs.YthcikinkicpicaaGreatDoor
open Go.RowKit

@[reducible] def bxV (b : Bx) : Value := .agg #[.int .i64 b.x, .int .i64 b.y, .int .i64 b.c, .int .i64 b.r]

structure Bx.In (b : Bx) : Prop where
  x0 : -100000 ≤ b.x
  x1 : b.x ≤ 100000
  y0 : -100000 ≤ b.y
  y1 : b.y ≤ 100000
  c0 : 0 ≤ b.c
  c1 : b.c ≤ 100000
  r0 : 0 ≤ b.r
  r1 : b.r ≤ 100000

set_option maxRecDepth 100000 in
set_option maxHeartbeats 400000 in
theorem isEmpty_any (b : Bx) (w : World) : Calls Tryz.prog 100 #[bxV b] w fun e w' => e = .returned (.bool (decide (b.c = 0 ∨ b.r = 0))) ∧ Below w.heap.size w w' := by
  obtain ⟨x, y, c, r⟩ := b
  dsimp only
  by_cases hc : c = 0
  · subst hc
    go_enter Tryz.func100, Tryz.ntmps100
    go_wp2
    go_ret
    exact ⟨ret_bool (by simp), below1⟩
  · have h1 : (c == 0) = false := by simpa using hc
    by_cases hr : r = 0
    · subst hr
      go_enter Tryz.func100, Tryz.ntmps100
      go_wp2
      go_ret
      exact ⟨ret_bool (by simp), below1⟩
    · have h2 : (r == 0) = false := by simpa using hr
      go_enter Tryz.func100, Tryz.ntmps100
      go_wp2
      go_ret
      exact ⟨ret_bool (by simp [hc, hr]), below1⟩

set_option maxRecDepth 100000 in
set_option maxHeartbeats 1000000 in
theorem meet_any (b o : Bx) (hb : b.In) (ho : o.In) (w : World) : Calls Tryz.prog 90 #[bxV b, bxV o] w fun e w' => e = .returned (bxV (b.meet o)) ∧ Below w.heap.size w w' := by
  obtain ⟨x, y, c, r⟩ := b
  obtain ⟨x', y', c', r'⟩ := o
  obtain ⟨x0, x1, y0, y1, c0, c1, r0, r1⟩ := hb
  obtain ⟨x0', x1', y0', y1', c0', c1', r0', r1'⟩ := ho
  unfold Bx.meet
  dsimp only at *
  obtain ⟨X, hX⟩ : ∃ X, max x x' = X := ⟨_, rfl⟩
  obtain ⟨Y, hY⟩ : ∃ Y, max y y' = Y := ⟨_, rfl⟩
  obtain ⟨R, hR⟩ : ∃ R, min (x + c) (x' + c') = R := ⟨_, rfl⟩
  obtain ⟨B, hB⟩ : ∃ B, min (y + r) (y' + r') = B := ⟨_, rfl⟩
  rw [hX, hY, hR, hB]
  have hX' : (if x < x' then x' else x) = X := by rw [← hX]; split <;> omega
  have hY' : (if y < y' then y' else y) = Y := by rw [← hY]; split <;> omega
  have hR' : (if x' + c' < x + c then x' + c' else x + c) = R := by rw [← hR]; split <;> omega
  have hB' : (if y' + r' < y + r then y' + r' else y + r) = B := by rw [← hB]; split <;> omega
  have iX : -100000 ≤ X ∧ X ≤ 100000 := by omega
  have iY : -100000 ≤ Y ∧ Y ≤ 100000 := by omega
  have iR : -100000 ≤ R ∧ R ≤ 200000 := by omega
  have iB : -100000 ≤ B ∧ B ≤ 200000 := by omega
  obtain ⟨M, hM⟩ : ∃ M, max 0 (R - X) = M := ⟨_, rfl⟩
  obtain ⟨N, hN⟩ : ∃ N, max 0 (B - Y) = N := ⟨_, rfl⟩
  have hM' : (if 0 < R - X then R - X else 0) = M := by rw [← hM]; split <;> omega
  have hN' : (if 0 < B - Y then B - Y else 0) = N := by rw [← hN]; split <;> omega
  rw [hM, hN]
  clear hX hY hR hB hM hN
  go_enter Tryz.func90, Tryz.ntmps90
  go_wp2_with fail
  go_quiet (fail)
  go_wp2_with fail
  go_quiet (fail)
  go_wp2_with fail
  all_goals
    refine bodyPost_ret (v := bxV ⟨X, Y, M, N⟩) (by simp [results, Tryz.results90, go_sem]; omega) rfl ?_
    refine ⟨rfl, ?_⟩
    repeat (first | with_reducible exact Below.refl _ _ | with_reducible refine Below.drewN' ?_ _ | with_reducible refine Below.drew ?_ | (with_reducible refine Below.alloc ?_ (by first | exact Nat.le_refl _ | (simp; done) | (simp; omega)) _) | (with_reducible refine Below.setCell ?_ (by dsimp only; omega) _))

end Go.Proofs.YthcikinkicpicaaGreatDoor
