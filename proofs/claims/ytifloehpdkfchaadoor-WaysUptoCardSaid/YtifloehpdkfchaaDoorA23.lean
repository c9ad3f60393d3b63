import Derived.Test.YtifloehpdkfchaaDoorA10

namespace Go.Proofs.YtifloehpdkfchaaDoor
open Go.RowKit

/-- The program's table (its only variable), as its initialiser lays it. -/
def tabL : List Int := [0, 2, 7, 2, 7, 4, 1, 1, 1, 27, 1, 1, 1, 3, 1]
def TabW (w : World) : Prop := ∀ i, i < tabL.length → w.cell? ⟨0, i, none⟩ = some (.int .i64 (tabL.getD i 0))

theorem tab_at (w : World) (h : TabW w) (x : Int) (h0 : 1 ≤ x) (h1 : x < 15) : w.cell? ⟨0, x.toNat, none⟩ = some (.int .i64 (kindLen x)) := by
  have hx : x = 1 ∨ x = 2 ∨ x = 3 ∨ x = 4 ∨ x = 5 ∨ x = 6 ∨ x = 7 ∨ x = 8 ∨ x = 9 ∨ x = 10 ∨ x = 11 ∨ x = 12 ∨ x = 13 ∨ x = 14 := by omega
  rw [h x.toNat (by show x.toNat < 15; omega)]
  rcases hx with rfl | rfl | rfl | rfl | rfl | rfl | rfl | rfl | rfl | rfl | rfl | rfl | rfl | rfl <;> rfl
theorem kindLen_bd (x : Int) (h0 : 1 ≤ x) (h1 : x < 15) : 1 ≤ kindLen x ∧ kindLen x ≤ 27 := by
  have hx : x = 1 ∨ x = 2 ∨ x = 3 ∨ x = 4 ∨ x = 5 ∨ x = 6 ∨ x = 7 ∨ x = 8 ∨ x = 9 ∨ x = 10 ∨ x = 11 ∨ x = 12 ∨ x = 13 ∨ x = 14 := by omega
  rcases hx with rfl | rfl | rfl | rfl | rfl | rfl | rfl | rfl | rfl | rfl | rfl | rfl | rfl | rfl <;> decide
theorem kindLen_none' (x : Int) (h : x < 1 ∨ 15 ≤ x) : kindLen x = -1 := by
  unfold kindLen
  rw [if_neg (by omega), if_neg (by omega), if_neg (by omega), if_neg (by omega), if_neg (by omega), if_neg (by omega), if_neg (by omega), if_neg (by omega), if_neg (by omega), if_neg (by omega), if_neg (by omega), if_neg (by omega), if_neg (by omega), if_neg (by omega)]

theorem args_of (s : ByteArray) (k m : Nat) (h : k + m ≤ s.size) : ArgsOf ((s.extract k s.size).extract 0 m) (argsAt s k m) := by
  refine ⟨by rw [argsAt_len]; simp; omega, fun j hj => ?_, argsAt_ok s k m⟩
  rw [argsAt_len] at hj
  rw [argsAt_get s k m j hj, byteAt_extract _ 0 m j (by omega) (by simp; omega), byteAt_extract s k s.size (0 + j) (by omega) (Nat.le_refl _)]
  congr 1
  omega

section
variable (base : Nat) (p cB zB sB A n : Nat) (s : ByteArray) (k : Nat) (ways : Int) (shV outV : Value) (st : St) (w : World)

/-- What taking a command leaves. -/
def NextPost (e : Ending) (w' : World) : Prop :=
  if lenAt s k < 0 ∨ (s.size : Int) < k + 1 + lenAt s k then e = .returned (.tuple #[.int .i64 0, .string ⟨#[]⟩, .bool false]) ∧ Below w.heap.size w w'
  else ∃ a, e = .returned (.tuple #[.int .i64 (byteAt s k), .string a, .bool true]) ∧ ArgsOf a (argsAt s (k + 1) (lenAt s k).toNat) ∧
    Dr base w' p cB zB sB A n s ((k + 1 + (lenAt s k).toNat : Nat) : Int) ways shV outV st ∧ Low base w w'

set_option maxRecDepth 100000 in
set_option maxHeartbeats 2000000 in
theorem next_in (h : Dr base w p cB zB sB A n s k ways shV outV st) (hk : k < s.size) (hs : s.size ≤ 100000000000) (ht : TabW w) (_hp0 : 0 < p) :
    Calls Tryd.prog 27 #[.pointer (some ⟨p, 0, none⟩)] w (NextPost base p cB zB sB A n s k ways shV outV st w) := by
  have cp := cell_of h.bp
  simp only [xcells] at cp
  have fp := frozen_of h.bp
  have ek := byte_wrap s k hk
  obtain ⟨b0, b1⟩ := byteAt_bd s k
  have htab := tab_at w ht (byteAt s k)
  have hbd := kindLen_bd (byteAt s k)
  have i1 : (k : Int) < (s.size : Int) := by omega
  have wk : IntKind.i64.wrap ((k : Int) + 1) = (k : Int) + 1 := k64 (by omega)
  have HD : Hid (Dr base w p cB zB sB A n s k ways shV outV st) := h
  have hlen : lenAt s k = if byteAt s k = 8 then (if s.size ≤ k + 1 then -2 else 1 + 4 * byteAt s (k + 1)) else kindLen (byteAt s k) := rfl
  have HN : Hid (∀ e w', NextPost base p cB zB sB A n s k ways shV outV st w e w' ↔ NextPost base p cB zB sB A n s k ways shV outV st w e w') := fun _ _ => Iff.rfl
  generalize hx : byteAt s k = x at *
  clear h ht
  by_cases hb : x < 1 ∨ 15 ≤ x
  · have HP : Hid (∀ w', Below w.heap.size w w' → NextPost base p cB zB sB A n s k ways shV outV st w (.returned (.tuple #[.int .i64 0, .string ⟨#[]⟩, .bool false])) w') := by
      intro w' hbw
      unfold NextPost
      rw [if_pos (by rw [hlen, if_neg (by omega), kindLen_none' x hb]; omega)]
      exact ⟨rfl, hbw⟩
    clear htab hbd hlen HN
    go_enter Tryd.func27, Tryd.ntmps27
    go_wp2_with fail
    go_quiet (fail)
    go_wp2_with fail
    all_goals
      refine bodyPost_ret (v := .tuple #[.int .i64 0, .string ⟨#[]⟩, .bool false]) (by simp [results, Tryd.results27, go_sem]) rfl ?_
      exact HP.out _ ((Below.refl _ _).drewN' nq)
  · have hx1 : 1 ≤ x := by omega
    have hx2 : x < 15 := by omega
    have ht := htab hx1 hx2
    obtain ⟨m1, m2⟩ := hbd hx1 hx2
    clear htab hbd HN
    have hsz : (s.extract (k + 1) s.size).size = s.size - (k + 1) := by simp
    have z1 : (k : Int) + 1 ≤ (s.size : Int) := by omega
    have b15 : (x == 0) = false := by simp; omega
    have t1 : ((k : Int) + 1).toNat = k + 1 := by omega
    have t2 : (0 : Int) ≤ (k : Int) + 1 := by omega
    -- what is left when the command is whole, m bytes behind its kind
    have HOK : Hid (∀ m : Nat, lenAt s k = m → k + 1 + m ≤ s.size → ∀ N N' : Nat, NextPost base p cB zB sB A n s k ways shV outV st w (.returned (.tuple #[.int .i64 x, .string ((s.extract (k + 1) s.size).extract 0 m), .bool true])) (((w.drewN N).setCell ⟨p, 1, none⟩ (.int .i64 ((k : Int) + (1 + (m : Int))))).drewN N')) := by
      intro m hm hle N N'
      unfold NextPost
      rw [if_neg (by rw [hm]; omega), hm, hx]
      have e1 : ((m : Int)).toNat = m := rfl
      rw [e1]
      have hk1 : Kept (· = p) w (((w.drewN N).setCell ⟨p, 1, none⟩ (.int .i64 ((k : Int) + (1 + (m : Int))))).drewN N') := (((Kept.refl (· = p) w).drewN N).trans (kept_set1 p _ _)).drewN N'
      have hh := heap_set_same (w := w.drewN N) HD.out.bp 1 (.int .i64 ((k : Int) + (1 + (m : Int))))
      have e2 : (k : Int) + (1 + (m : Int)) = ((k + 1 + m : Nat) : Int) := by omega
      rw [e2] at hh hk1 ⊢
      exact ⟨_, rfl, args_of s (k + 1) m (by omega), HD.out.put (st' := st) (ways' := ways) hh hk1 rfl rfl rfl rfl rfl, HD.out.low hk1⟩
    have HNO : Hid (∀ m : Nat, (lenAt s k = m ∧ s.size < k + 1 + m) ∨ lenAt s k < 0 → ∀ n', NextPost base p cB zB sB A n s k ways shV outV st w (.returned (.tuple #[.int .i64 0, .string ⟨#[]⟩, .bool false])) (w.drewN n')) := by
      intro m hm n'
      unfold NextPost
      rw [if_pos (by omega)]
      exact ⟨rfl, (Below.refl _ _).drewN' n'⟩
    by_cases h8 : x = 8
    · subst h8
      rw [if_pos rfl] at hlen
      clear hb hx
      have hk8 : kindLen 8 = 1 := rfl
      rw [hk8] at ht
      have ht8 : w.cell? ⟨0, 8, none⟩ = some (.int .i64 1) := ht
      clear m1 m2 hk8 ht
      by_cases hr : s.size ≤ k + 1
      · have HP : Hid (∀ n', NextPost base p cB zB sB A n s k ways shV outV st w (.returned (.tuple #[.int .i64 0, .string ⟨#[]⟩, .bool false])) (w.drewN n')) := HNO.out 0 (.inr (by rw [hlen, if_pos hr]; omega))
        have hsz0 : s.size - (k + 1) = 0 := by omega
        rw [hsz0] at hsz
        clear HNO HOK hlen
        go_enter Tryd.func27, Tryd.ntmps27
        go_wp2_with fail
        go_quiet (fail)
        go_wp2_with fail
        go_quiet (fail)
        go_wp2_with fail
        all_goals
          refine bodyPost_ret (v := .tuple #[.int .i64 0, .string ⟨#[]⟩, .bool false]) (by simp [results, Tryd.results27, go_sem]) rfl ?_
          exact HP.out _
      · rw [if_neg hr] at hlen
        obtain ⟨c0, c1⟩ := byteAt_bd s (k + 1)
        have hrz : 0 < (s.extract (k + 1) s.size).size := by omega
        have ec : IntKind.i64.wrap (((s.extract (k + 1) s.size)[0]'hrz).toNat : Int) = byteAt s (k + 1) := by
          rw [byte_wrap _ 0 hrz, byteAt_extract s (k + 1) s.size 0 (by omega) (Nat.le_refl _)]
        generalize hy : byteAt s (k + 1) = y at *
        obtain ⟨Y, rfl⟩ := Int.eq_ofNat_of_zero_le c0
        have w4 : IntKind.i64.wrap ((Y : Int) * 4) = (Y : Int) * 4 := k64 (by omega)
        have w5 : IntKind.i64.wrap (1 + (Y : Int) * 4) = ((1 + Y * 4 : Nat) : Int) := by rw [k64 (by omega)]; omega
        have hlen' : lenAt s k = ((1 + Y * 4 : Nat) : Int) := by rw [hlen]; omega
        have hm2 : 1 + Y * 4 ≤ 2000 := by omega
        generalize 1 + Y * 4 = m at *
        have wm : IntKind.i64.wrap (1 + (m : Int)) = 1 + (m : Int) := k64 (by omega)
        have wkm : IntKind.i64.wrap ((k : Int) + (1 + (m : Int))) = (k : Int) + (1 + (m : Int)) := k64 (by omega)
        have z3 : (0 : Int) < ((s.size - (k + 1) : Nat) : Int) := by omega
        have HLEN : Hid (lenAt s k = (m : Int)) := hlen'
        clear hlen hlen' hy hr
        by_cases hle : k + 1 + m ≤ s.size
        · have HK : Hid (∀ N N' : Nat, NextPost base p cB zB sB A n s k ways shV outV st w (.returned (.tuple #[.int .i64 8, .string ((s.extract (k + 1) s.size).extract 0 m), .bool true])) (((w.drewN N).setCell ⟨p, 1, none⟩ (.int .i64 ((k : Int) + (1 + (m : Int))))).drewN N')) := HOK.out m HLEN.out hle
          have hle' : (m : Int) ≤ ((s.size - (k + 1) : Nat) : Int) := by omega
          clear HNO HOK HLEN
          go_enter Tryd.func27, Tryd.ntmps27
          go_wp2_with fail
          go_quiet (fail)
          go_wp2_with fail
          go_quiet (fail)
          go_wp2_with fail
          go_quiet (fail)
          go_wp2_with fail
          all_goals
            refine bodyPost_ret (v := .tuple #[.int .i64 8, .string ((s.extract (k + 1) s.size).extract 0 m), .bool true]) (by simp [results, Tryd.results27, go_sem]) rfl ?_
            exact HK.out _ _
        · have HP : Hid (∀ n', NextPost base p cB zB sB A n s k ways shV outV st w (.returned (.tuple #[.int .i64 0, .string ⟨#[]⟩, .bool false])) (w.drewN n')) := HNO.out m (.inl ⟨HLEN.out, by omega⟩)
          have hle' : ((s.size - (k + 1) : Nat) : Int) < (m : Int) := by omega
          clear HNO HOK HLEN
          go_enter Tryd.func27, Tryd.ntmps27
          go_wp2_with fail
          go_quiet (fail)
          go_wp2_with fail
          go_quiet (fail)
          go_wp2_with fail
          all_goals
            refine bodyPost_ret (v := .tuple #[.int .i64 0, .string ⟨#[]⟩, .bool false]) (by simp [results, Tryd.results27, go_sem]) rfl ?_
            exact HP.out _
    · rw [if_neg h8] at hlen
      obtain ⟨m, hm⟩ := Int.eq_ofNat_of_zero_le (show 0 ≤ kindLen x by omega)
      rw [hm] at ht m1 m2 hlen
      have b8 : (x == 8) = false := by simpa using h8
      have wm : IntKind.i64.wrap (1 + (m : Int)) = 1 + (m : Int) := k64 (by omega)
      have wkm : IntKind.i64.wrap ((k : Int) + (1 + (m : Int))) = (k : Int) + (1 + (m : Int)) := k64 (by omega)
      have HLEN : Hid (lenAt s k = (m : Int)) := hlen
      clear hm hlen h8 hb hx
      have x0 : 0 ≤ x := by omega
      by_cases hle : k + 1 + m ≤ s.size
      · have HK : Hid (∀ N N' : Nat, NextPost base p cB zB sB A n s k ways shV outV st w (.returned (.tuple #[.int .i64 x, .string ((s.extract (k + 1) s.size).extract 0 m), .bool true])) (((w.drewN N).setCell ⟨p, 1, none⟩ (.int .i64 ((k : Int) + (1 + (m : Int))))).drewN N')) := HOK.out m HLEN.out hle
        have hle' : (m : Int) ≤ ((s.size - (k + 1) : Nat) : Int) := by omega
        clear HNO HOK HLEN
        go_enter Tryd.func27, Tryd.ntmps27
        go_wp2_with fail
        go_quiet (fail)
        go_wp2_with fail
        go_quiet (fail)
        go_wp2_with fail
        go_quiet (fail)
        go_wp2_with fail
        all_goals
          refine bodyPost_ret (v := .tuple #[.int .i64 x, .string ((s.extract (k + 1) s.size).extract 0 m), .bool true]) (by simp [results, Tryd.results27, go_sem]) rfl ?_
          exact HK.out _ _
      · have HP : Hid (∀ n', NextPost base p cB zB sB A n s k ways shV outV st w (.returned (.tuple #[.int .i64 0, .string ⟨#[]⟩, .bool false])) (w.drewN n')) := HNO.out m (.inl ⟨HLEN.out, by omega⟩)
        have hle' : ((s.size - (k + 1) : Nat) : Int) < (m : Int) := by omega
        clear HNO HOK HLEN
        go_enter Tryd.func27, Tryd.ntmps27
        go_wp2_with fail
        go_quiet (fail)
        go_wp2_with fail
        go_quiet (fail)
        go_wp2_with fail
        all_goals
          refine bodyPost_ret (v := .tuple #[.int .i64 0, .string ⟨#[]⟩, .bool false]) (by simp [results, Tryd.results27, go_sem]) rfl ?_
          exact HP.out _
end
end Go.Proofs.YtifloehpdkfchaaDoor
