import Derived.Test.YthcikinkicpicaaGreatDoorA01
import Derived.Test.YthcikinkicpicaaGreatDoorD01
import Derived.Laws.IdiomStrings

namespace Go.Proofs.YthcikinkicpicaaGreatDoor
open Go.RowKit

theorem and_low (m : Int) (k : Nat) (hk : k ≤ 32) : bits .and .i64 m ((2 ^ k - 1 : Nat) : Int) = m % ((2 ^ k : Nat) : Int) := by
  have hp : 2 ^ k ≤ 2 ^ 32 := Nat.pow_le_pow_right (by omega) hk
  have hp0 : 0 < 2 ^ k := Nat.pow_pos (by omega)
  show IntKind.i64.wrap ((BitVec.ofInt 64 m &&& BitVec.ofInt 64 ((2 ^ k - 1 : Nat) : Int)).toNat : Int) = _
  rw [BitVec.toNat_and, BitVec.ofInt_natCast, BitVec.toNat_ofNat, Nat.mod_eq_of_lt (show 2 ^ k - 1 < 2 ^ 64 by omega), Nat.and_two_pow_sub_one_eq_mod, BitVec.toNat_ofInt]
  have hd : ((2 ^ k : Nat) : Int) ∣ ((2 ^ 64 : Nat) : Int) := by
    refine ⟨((2 ^ (64 - k) : Nat) : Int), ?_⟩
    rw [← Int.natCast_mul, ← Nat.pow_add, show k + (64 - k) = 64 from by omega]
  have h1 : 0 ≤ m % ((2 ^ 64 : Nat) : Int) := Int.emod_nonneg _ (by decide)
  have h2 : (((m % ((2 ^ 64 : Nat) : Int)).toNat % 2 ^ k : Nat) : Int) = m % ((2 ^ k : Nat) : Int) := by
    rw [Int.natCast_emod, Int.toNat_of_nonneg h1, Int.emod_emod_of_dvd _ hd]
  rw [h2]
  have h3 := Int.emod_nonneg m (show ((2 ^ k : Nat) : Int) ≠ 0 by omega)
  have h4 := Int.emod_lt_of_pos m (show 0 < ((2 ^ k : Nat) : Int) by omega)
  exact k64 (by omega)
theorem and255 (m : Int) : bits .and .i64 m 255 = m % 256 := and_low m 8 (by omega)
theorem and65535 (m : Int) : bits .and .i64 m 65535 = m % 65536 := and_low m 16 (by omega)

/-- A number's two bytes. -/
def twoL (n : Int) : List Int := [n / 256 % 256, n % 256]

theorem text2 {P : Program} (src dst e : TypeId) (hs : P.underlying src = some (.slice e)) (he : P.underlying e = some (.int .u8)) (hd : P.underlying dst = some .string) (x y : Int) (x0 : 0 ≤ x) (x1 : x < 256) (y0 : 0 ≤ y) (y1 : y < 256) (w : World) (T : TypeId) :
    (convert src dst (.slice (some ⟨w.heap.size, 0, none⟩) 2 2)).run P (w.alloc (.cells #[.int .u8 x, .int .u8 y] T)) = .ok (.string (textOf [x, y])) (w.alloc (.cells #[.int .u8 x, .int .u8 y] T)) := by
  refine run_convert_bytes_back (P := P) _ src dst e ⟨w.heap.size, 0, none⟩ 2 [UInt8.ofNat x.toNat, UInt8.ofNat y.toNat] hs he hd (fun j hj => ?_)
  have hc := cell_of (heap_alloc_new w (.cells #[.int .u8 x, .int .u8 y] T))
  have hj' : j = 0 ∨ j = 1 := by simp at hj; omega
  rcases hj' with rfl | rfl
  · rw [show (⟨w.heap.size, 0, none⟩ : Addr).add 0 = ⟨w.heap.size, 0, none⟩ from by simp [Addr.add], hc]
    simp
    omega
  · rw [show (⟨w.heap.size, 0, none⟩ : Addr).add 1 = ⟨w.heap.size, 1, none⟩ from by simp [Addr.add], hc]
    simp
    omega

set_option maxRecDepth 100000 in
set_option maxHeartbeats 400000 in
theorem two_in (n : Int) (w : World) (_hn : -9000000000000000000 ≤ n ∧ n ≤ 9000000000000000000) : Calls Tryz.prog 47 #[.int .i64 n] w fun e w' => e = .returned (.string (textOf (twoL n))) ∧ Below w.heap.size w w' := by
  have a1 := and255 n
  have a2 := and255 (n / 256)
  have h1 := Int.emod_nonneg n (show (256 : Int) ≠ 0 by decide)
  have h2 := Int.emod_lt_of_pos n (show (0 : Int) < 256 by decide)
  have h3 := Int.emod_nonneg (n / 256) (show (256 : Int) ≠ 0 by decide)
  have h4 := Int.emod_lt_of_pos (n / 256) (show (0 : Int) < 256 by decide)
  have c1 : IntKind.u8.wrap (n % 256) = n % 256 := by rw [IntKind.wrap_u8]; omega
  have c2 : IntKind.u8.wrap (n / 256 % 256) = n / 256 % 256 := by rw [IntKind.wrap_u8]; omega
  have ht := text2 (P := Tryz.prog) 99 9 5 Tryz.underlying99 Tryz.underlying5 Tryz.underlying9 (n / 256 % 256) (n % 256) h3 h4 h1 h2 w 5
  go_enter Tryz.func47, Tryz.ntmps47
  go_wp2_with fail
  go_ret
  exact ⟨rfl, below1⟩

theorem text3 {P : Program} (src dst e : TypeId) (hs : P.underlying src = some (.slice e)) (he : P.underlying e = some (.int .u8)) (hd : P.underlying dst = some .string) (x y z : Int) (x0 : 0 ≤ x) (x1 : x < 256) (y0 : 0 ≤ y) (y1 : y < 256) (z0 : 0 ≤ z) (z1 : z < 256) (w : World) (T : TypeId) :
    (convert src dst (.slice (some ⟨w.heap.size, 0, none⟩) 3 3)).run P (w.alloc (.cells #[.int .u8 x, .int .u8 y, .int .u8 z] T)) = .ok (.string (textOf [x, y, z])) (w.alloc (.cells #[.int .u8 x, .int .u8 y, .int .u8 z] T)) := by
  refine run_convert_bytes_back (P := P) _ src dst e ⟨w.heap.size, 0, none⟩ 3 [UInt8.ofNat x.toNat, UInt8.ofNat y.toNat, UInt8.ofNat z.toNat] hs he hd (fun j hj => ?_)
  have hc := cell_of (heap_alloc_new w (.cells #[.int .u8 x, .int .u8 y, .int .u8 z] T))
  have hj' : j = 0 ∨ j = 1 ∨ j = 2 := by simp at hj; omega
  rcases hj' with rfl | rfl | rfl
  · rw [show (⟨w.heap.size, 0, none⟩ : Addr).add 0 = ⟨w.heap.size, 0, none⟩ from by simp [Addr.add], hc]
    simp
    omega
  · rw [show (⟨w.heap.size, 0, none⟩ : Addr).add 1 = ⟨w.heap.size, 1, none⟩ from by simp [Addr.add], hc]
    simp
    omega
  · rw [show (⟨w.heap.size, 0, none⟩ : Addr).add 2 = ⟨w.heap.size, 2, none⟩ from by simp [Addr.add], hc]
    simp
    omega

theorem text3h {P : Program} (src dst e : TypeId) (hs : P.underlying src = some (.slice e)) (he : P.underlying e = some (.int .u8)) (hd : P.underlying dst = some .string) (x y z : Int) (x0 : 0 ≤ x) (x1 : x < 256) (y0 : 0 ≤ y) (y1 : y < 256) (z0 : 0 ≤ z) (z1 : z < 256) {w : World} {g : Nat} {T : TypeId} {f : Nat × Nat} (hg : w.heap[g]? = some (.cells #[.int .u8 x, .int .u8 y, .int .u8 z] T f)) :
    (convert src dst (.slice (some ⟨g, 0, none⟩) 3 3)).run P w = .ok (.string (textOf [x, y, z])) w := by
  refine run_convert_bytes_back (P := P) _ src dst e ⟨g, 0, none⟩ 3 [UInt8.ofNat x.toNat, UInt8.ofNat y.toNat, UInt8.ofNat z.toNat] hs he hd (fun j hj => ?_)
  have hc := cell_of hg
  have hj' : j = 0 ∨ j = 1 ∨ j = 2 := by simp at hj; omega
  rcases hj' with rfl | rfl | rfl
  · rw [show (⟨g, 0, none⟩ : Addr).add 0 = ⟨g, 0, none⟩ from by simp [Addr.add], hc]
    simp
    omega
  · rw [show (⟨g, 0, none⟩ : Addr).add 1 = ⟨g, 1, none⟩ from by simp [Addr.add], hc]
    simp
    omega
  · rw [show (⟨g, 0, none⟩ : Addr).add 2 = ⟨g, 2, none⟩ from by simp [Addr.add], hc]
    simp
    omega
theorem rg_of {X w' : World} {cs : Array Value} {T : TypeId} (hb : Below (X.alloc (.cells cs T)).heap.size (X.alloc (.cells cs T)) w') : w'.heap[X.heap.size]? = some (.cells cs T (0, 0)) := (hb.block _ (by simp)).trans (heap_alloc_new _ _)
theorem rg_of2 {X w' : World} {cs : Array Value} {T : TypeId} (hb : Below (X.alloc (.cells cs T)).drew.heap.size (X.alloc (.cells cs T)).drew w') : w'.heap[X.heap.size]? = some (.cells cs T (0, 0)) := (hb.block _ (by show X.heap.size < (X.alloc (.cells cs T)).heap.size; simp)).trans (heap_alloc_new _ _)
theorem rg_next {W w' : World} {g : Nat} {o : Obj} (h : W.heap[g]? = some o) (hb : Below W.heap.size W w') : w'.heap[g]? = some o := (hb.block _ (lt_of_heap h)).trans h

end Go.Proofs.YthcikinkicpicaaGreatDoor

namespace Go.Proofs.YthcikinkicpicaaGreatDoor
open Go.RowKit

/-- A number brought to those of two bytes. -/
def shortI (n : Int) : Int := if 32767 < n % 65536 then n % 65536 - 65536 else n % 65536
theorem shortI_bd (n : Int) : -32768 ≤ shortI n ∧ shortI n ≤ 32767 := by
  unfold shortI
  have h1 := Int.emod_nonneg n (show (65536 : Int) ≠ 0 by decide)
  have h2 := Int.emod_lt_of_pos n (show (0 : Int) < 65536 by decide)
  split <;> omega

set_option maxRecDepth 100000 in
set_option maxHeartbeats 400000 in
theorem short_in (n : Int) (w : World) : Calls Tryz.prog 31 #[.int .i64 n] w fun e w' => e = .returned (.int .i64 (shortI n)) ∧ w' = w := by
  have a1 := and65535 n
  have h1 := Int.emod_nonneg n (show (65536 : Int) ≠ 0 by decide)
  have h2 := Int.emod_lt_of_pos n (show (0 : Int) < 65536 by decide)
  have HS : Hid (shortI n = if 32767 < n % 65536 then n % 65536 - 65536 else n % 65536) := rfl
  generalize hm : n % 65536 = m at *
  by_cases h : 32767 < m
  · have HS2 : Hid (shortI n = m - 65536) := HS.out.trans (if_pos h)
    clear HS
    go_enter Tryz.func31, Tryz.ntmps31
    go_wp2
    go_ret
    exact ⟨ret_int HS2.out.symm, rfl⟩
  · have HS2 : Hid (shortI n = m) := HS.out.trans (if_neg h)
    clear HS
    go_enter Tryz.func31, Tryz.ntmps31
    go_wp2
    go_ret
    exact ⟨ret_int HS2.out.symm, rfl⟩

set_option maxRecDepth 100000 in
set_option maxHeartbeats 400000 in
theorem place_in (x y : Int) (w : World) : Calls Tryz.prog 21 #[.int .i64 x, .int .i64 y] w fun e w' => e = .returned (.agg #[.int .i64 (shortI x), .int .i64 (shortI y), .int .i64 0, .int .i64 0, .int .i64 0, .int .i64 0]) ∧ Below w.heap.size w w' := by
  have HS : Hid (∀ (n : Int) (W : World), Calls Tryz.prog 31 #[.int .i64 n] W fun e w' => e = .returned (.int .i64 (shortI n)) ∧ w' = W) := fun n W => short_in n W
  go_enter Tryz.func21, Tryz.ntmps21
  go_wp2_with (go_at_call 31; refine (HS.out _ _).mono ?_; rintro e w1 ⟨rfl, rfl⟩)
  refine bodyPost_ret (v := .agg #[.int .i64 (shortI x), .int .i64 (shortI y), .int .i64 0, .int .i64 0, .int .i64 0, .int .i64 0]) (by simp [results, Tryz.results21, go_sem]) rfl ⟨rfl, ?_⟩
  repeat (first | with_reducible exact Below.refl _ _ | (with_reducible refine Below.alloc ?_ (Nat.le_refl _) _) | (with_reducible refine Below.setCell ?_ (Nat.le_refl _) _))

set_option maxRecDepth 100000 in
theorem begun_in (w : World) : Calls Tryz.prog 25 #[] w fun e w' => e = .returned (.string (textOf [10, 0])) ∧ w' = w := by
  go_enter Tryz.func25, Tryz.ntmps25
  go_wp2
  go_ret
  exact ⟨rfl, rfl⟩
end Go.Proofs.YthcikinkicpicaaGreatDoor

namespace Go.Proofs.YthcikinkicpicaaGreatDoor
open Go.RowKit

def aliveC : List (Int × List Int) := [(10, [0]), (9, [252, 25, 252, 25, 0, 0, 7, 0, 0, 15, 159, 252, 25, 0, 0, 7, 0, 0, 252, 25, 15, 159, 0, 0, 7, 0, 0]), (11, [0]), (14, [0]), (13, [1, 0, 0])]
theorem alive_run : (runC aliveC 0 st0).out = [{ k := 4, a := 0, b := 64, c := 0 }, { k := 1, a := 7, b := 0, c := 0 }] := by kernel_rfl
end Go.Proofs.YthcikinkicpicaaGreatDoor
