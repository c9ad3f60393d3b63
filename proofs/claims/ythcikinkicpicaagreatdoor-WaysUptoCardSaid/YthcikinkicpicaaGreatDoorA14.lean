import Derived.Test.YthcikinkicpicaaGreatDoorA06
import Derived.Test.YthcikinkicpicaaGreatDoorA02
import Derived.Shelf.Abstract
import Derived.Shelf.RegionOpen
import Derived.WalkKit
import Derived.TacticsInMore
import Derived.LoopNIn
import Derived.LoopIn
import Derived.Sort.LoopGhostIn
import Derived.Test.YthcikinkicpicaaGreatDoorA01

namespace Go.Proofs.YthcikinkicpicaaGreatDoor
open Go.RowKit Go.Shelf
attribute [local go_sem] Oper.semAt_some

@[reducible] def boxV (x y c r : Int) : Value := .agg #[.int .i64 x, .int .i64 y, .int .i64 c, .int .i64 r]

/-- How many tiles a line of the window meets. -/
def nTiles (x c : Int) : Nat := ((x + c - (x - x % 4) + 3) / 4).toNat

theorem tileRow_snoc (y : Int) : ∀ (n : Nat) (x : Int), tileRow y (n + 1) x = tileRow y n x ++ [(x + 4 * n, y)]
  | 0, x => by simp [tileRow]
  | n + 1, x => by
    rw [tileRow, tileRow_snoc y n (x + 4), tileRow]
    have e : x + 4 + 4 * (n : Int) = x + 4 * ((n + 1 : Nat) : Int) := by omega
    rw [e]; rfl
theorem tilesL_snoc (x : Int) (nx : Nat) : ∀ (n : Nat) (y : Int), tilesL x nx (n + 1) y = tilesL x nx n y ++ tileRow (y + 4 * n) nx x
  | 0, y => by simp [tilesL]
  | n + 1, y => by
    rw [tilesL, tilesL_snoc x nx n (y + 4), tilesL]
    have e : y + 4 + 4 * (n : Int) = y + 4 * ((n + 1 : Nat) : Int) := by omega
    rw [e, List.append_assoc]
theorem tileRow_split (y : Int) (m n : Nat) (x : Int) : tileRow y (m + n) x = tileRow y m x ++ tileRow y n (x + 4 * m) := by
  induction n generalizing x with
  | zero => simp [tileRow]
  | succ n ih =>
    rw [show m + (n + 1) = (m + n) + 1 from rfl, tileRow_snoc, ih, tileRow_snoc, List.append_assoc]
    have e : x + 4 * ((m + n : Nat) : Int) = x + 4 * (m : Int) + 4 * (n : Int) := by omega
    rw [e]
theorem tilesL_split (x : Int) (nx m n : Nat) (y : Int) : tilesL x nx (m + n) y = tilesL x nx m y ++ tilesL x nx n (y + 4 * m) := by
  induction n generalizing y with
  | zero => simp [tilesL]
  | succ n ih =>
    rw [show m + (n + 1) = (m + n) + 1 from rfl, tilesL_snoc, ih, tilesL_snoc, List.append_assoc]
    have e : y + 4 * ((m + n : Nat) : Int) = y + 4 * (m : Int) + 4 * (n : Int) := by omega
    rw [e]

set_option maxRecDepth 100000 in
set_option maxHeartbeats 1000000 in
theorem eachBox (x y c r : Int) (hin : c = 0 ∨ r = 0 ∨ (0 ≤ x ∧ x ≤ 300 ∧ 0 ≤ y ∧ y ≤ 300 ∧ 0 ≤ c ∧ c ≤ 300 ∧ 0 ≤ r ∧ r ≤ 300)) :
    Iter Tryz.prog 67 (fun l => #[boxV x y c r, .func (.yield l) #[] #[]]) (fun t : Int × Int => #[boxV t.1 t.2 4 4]) (if c = 0 ∨ r = 0 then [] else winTiles x y c r) (fun _ => True) := by
  intro l base J W hJ hR hY h0
  have hsz := (hR _ _ h0).1
  have HJ : Hid (∀ pre A B, base ≤ A.heap.size → Below base A B → J pre A → J pre B) := hJ
  have HR : Hid (∀ pre A, J pre A → base ≤ A.heap.size ∧ True) := hR
  have HY : Hid (∀ pre t rest A, (if c = 0 ∨ r = 0 then [] else winTiles x y c r) = pre ++ t :: rest → J pre A → YieldAt Fence.wide 0 Tryz.prog l #[boxV t.1 t.2 4 4] A fun e B => e = .returned (.bool true) ∧ J (pre ++ [t]) B ∧ ∀ k, base ≤ k → k < A.heap.size → B.heap[k]? = A.heap[k]?) := hY
  have HE : Hid (∀ W', Calls Tryz.prog 100 #[boxV x y c r] W' fun e w' => e = .returned (.bool (decide (c = 0 ∨ r = 0))) ∧ Below W'.heap.size W' w') := fun W' => isEmpty_any ⟨x, y, c, r⟩ W'
  have H0 : Hid (∀ ob w1, Below (W.alloc ob).heap.size (W.alloc ob) w1 → J [] w1) := fun ob w1 hb => hJ _ _ _ hsz (((Below.refl _ _).alloc hsz ob).trans (hb.mono (by simp; omega))) h0
  have HBx : Hid (∀ w1, Below (W.alloc (.cells #[.int .i64 x, .int .i64 y, .int .i64 c, .int .i64 r] 66)).heap.size (W.alloc (.cells #[.int .i64 x, .int .i64 y, .int .i64 c, .int .i64 r] 66)) w1 → w1.heap[W.heap.size]? = some (.cells #[.int .i64 x, .int .i64 y, .int .i64 c, .int .i64 r] 66 (0, 0))) := fun w1 hb => (hb.block _ (by simp)).trans (heap_alloc_new _ _)
  clear hJ hR hY h0
  unfold boxV at HE ⊢
  refine callsIn_of_wp Tryz.func67 rfl trivial ?_ rfl
  simp only [Tryz.ntmps67, List.size_toArray, List.length_cons, List.length_nil, Nat.reduceAdd, Nat.reduceSub, Array.replicate_succ, Array.replicate_zero, List.push_toArray, List.append_toArray, List.nil_append, List.cons_append]
  by_cases hz : c = 0 ∨ r = 0
  · rw [if_pos hz]
    rw [decide_eq_true hz] at HE
    clear hz HY hin
    gi_wp2_with fail
    refine ⟨trivial, rfl, ?_⟩
    refine (callsIn_wide.2 (HE.out _)).mono ?_
    rintro e w1 ⟨rfl, hb1⟩
    gi_wp2
    refine bodyPost_ret (v := .tuple #[]) (by simp [results, Tryz.results67, go_sem]) rfl ?_
    exact ⟨⟨_, rfl⟩, H0.out _ _ hb1⟩
  · rw [if_neg hz] at HY ⊢
    rw [decide_eq_false hz] at HE
    obtain ⟨x0, x1, y0, y1, c0, c1, r0, r1⟩ : 0 ≤ x ∧ x ≤ 300 ∧ 0 ≤ y ∧ y ≤ 300 ∧ 0 ≤ c ∧ c ≤ 300 ∧ 0 ≤ r ∧ r ≤ 300 := by omega
    have hc : 0 < c := by omega
    have hr : 0 < r := by omega
    have HX : Hid (winTiles x y c r = tilesL (x - x % 4) ((x + c - (x - x % 4) + 3) / 4).toNat ((y + r - (y - y % 4) + 3) / 4).toNat (y - y % 4)) := rfl
    obtain ⟨nx, hnx⟩ : ∃ nx : Nat, nx = ((x + c - (x - x % 4) + 3) / 4).toNat := ⟨_, rfl⟩
    obtain ⟨ny, hny⟩ : ∃ ny : Nat, ny = ((y + r - (y - y % 4) + 3) / 4).toNat := ⟨_, rfl⟩
    obtain ⟨xa, hxa⟩ : ∃ xa : Int, xa = x - x % 4 := ⟨_, rfl⟩
    obtain ⟨ya, hya⟩ : ∃ ya : Int, ya = y - y % 4 := ⟨_, rfl⟩
    have HXX : winTiles x y c r = tilesL xa nx ny ya := by rw [hnx, hny, hxa, hya]; rfl
    rw [HXX] at HY ⊢
    have a1 : 0 ≤ xa := by omega
    have a2 : 0 ≤ ya := by omega
    have hnx1 : xa + 4 * (nx : Int) ≥ x + c := by omega
    have hnx2 : xa + 4 * (nx : Int) < x + c + 4 := by omega
    have hny1 : ya + 4 * (ny : Int) ≥ y + r := by omega
    have hny2 : ya + 4 * (ny : Int) < y + r + 4 := by omega
    have hxa' : x - x % 4 = xa := hxa.symm
    have hya' : y - y % 4 = ya := hya.symm
    clear HX HXX hnx hny hxa hya hz hin
    gi_wp2_with fail
    refine ⟨trivial, rfl, ?_⟩
    refine (callsIn_wide.2 (HE.out _)).mono ?_
    rintro e w1 ⟨rfl, hb1⟩
    have cb := cell_of (HBx.out w1 hb1)
    have HB : Hid (w1.heap[W.heap.size]? = some (.cells #[.int .i64 x, .int .i64 y, .int .i64 c, .int .i64 r] 66 (0, 0))) := HBx.out w1 hb1
    have H1 : Hid (J [] w1) := H0.out _ _ hb1
    clear HE hb1
    gi_wp2
    clear cb
    gi_loopg [4, 5] ny (fun m i _ wr => ∃ j : Nat, j + m = ny ∧ i = .int .i64 (ya + 4 * j) ∧ Hid (J (tilesL xa nx j ya) wr) ∧ wr.heap[W.heap.size]? = some (.cells #[.int .i64 x, .int .i64 y, .int .i64 c, .int .i64 r] 66 (0, 0)))
    case atStart => exact ⟨0, by omega, by simp, H1, HB.out⟩
    case round =>
      obtain ⟨j, hj, rfl, hJ, hbx⟩ := hrel
      have cb := cell_of hbx
      by_cases hlt : j < ny
      · obtain ⟨n', rfl⟩ : ∃ n', gk = n' + 1 := ⟨gk - 1, by omega⟩
        have g1 : ya + 4 * (j : Int) < y + r := by omega
        have HI : Hid (J (tilesL xa nx j ya ++ tileRow (ya + 4 * j) 0 xa) wr) := by show J _ _; simpa [tileRow] using hJ.out
        clear hJ
        gi_wp2
        gi_loopg [5] nx (fun m i wq => ∃ k : Nat, k + m = nx ∧ i = .int .i64 (xa + 4 * k) ∧ Hid (J (tilesL xa nx j ya ++ tileRow (ya + 4 * j) k xa) wq) ∧ wq.heap[W.heap.size]? = some (.cells #[.int .i64 x, .int .i64 y, .int .i64 c, .int .i64 r] 66 (0, 0)))
        case atStart => exact ⟨0, by omega, by simp, HI, hbx⟩
        case round =>
          obtain ⟨kk, hk, rfl, hJk, hbk⟩ := hrel
          clear HI cb hbx
          have cb := cell_of hbk
          by_cases hlt2 : kk < nx
          · obtain ⟨n2, rfl⟩ : ∃ n2, gk = n2 + 1 := ⟨gk - 1, by omega⟩
            have g2 : xa + 4 * (kk : Int) < x + c := by omega
            obtain ⟨fn, tmps, assign, body, hy, hRd⟩ := HY.out (tilesL xa nx j ya ++ tileRow (ya + 4 * j) kk xa) (xa + 4 * kk, ya + 4 * j) (tileRow (ya + 4 * j) (nx - kk - 1) (xa + 4 * kk + 4) ++ tilesL xa nx (ny - j - 1) (ya + 4 * j + 4)) wr (by
              have e1 : ny = j + (1 + (ny - j - 1)) := by omega
              have e2 : nx = kk + (1 + (nx - kk - 1)) := by omega
              conv => lhs; rw [e1, tilesL_split]
              rw [List.append_assoc]
              congr 1
              rw [Nat.add_comm 1, tilesL]
              conv => lhs; lhs; rw [e2, tileRow_split]
              rw [List.append_assoc]
              congr 1
              rw [Nat.add_comm 1, tileRow]
              simp) hJk.out
            dsimp only at hy
            gi_wp2
            refine ⟨rfl, hRd.mono ?_⟩
            rintro e W3 ⟨rfl, hJ3, hs3⟩
            have hb3 := (hs3 W.heap.size hsz (lt_of_heap hbk)).trans hbk
            have HJ3 : Hid (J (tilesL xa nx j ya ++ tileRow (ya + 4 * j) (kk + 1) xa) W3) := by show J _ _; rw [tileRow_snoc, ← List.append_assoc]; exact hJ3
            clear hJ3 hs3 hbk cb
            gi_wp2
            gi_roundg n2
            case rel => exact ⟨kk + 1, by omega, by go_num, HJ3, hb3⟩
            case measure => omega
          · obtain rfl : gk = 0 := by omega
            obtain rfl : kk = nx := by omega
            have g2 : ¬ (xa + 4 * (kk : Int) < x + c) := by omega
            have HN : Hid (J (tilesL xa kk (j + 1) ya) wr) := by show J _ _; rw [tilesL_snoc]; exact hJk.out
            clear hJk
            gi_wp2
            gi_roundg n'
            case rel => exact ⟨j + 1, by omega, by go_num, HN, hbk⟩
            case measure => omega
      · obtain rfl : gk = 0 := by omega
        obtain rfl : j = ny := by omega
        have g1 : ¬ (ya + 4 * (j : Int) < y + r) := by omega
        gi_wp2
        go_end0
        exact ⟨⟨_, rfl⟩, hJ.out⟩
end Go.Proofs.YthcikinkicpicaaGreatDoor

namespace Go.Proofs.YthcikinkicpicaaGreatDoor
open Go.RowKit Go.Shelf
attribute [local go_sem] Oper.semAt_some

theorem rowL_split (y : Int) (m n : Nat) (x : Int) : rowL y (m + n) x = rowL y m x ++ rowL y n (x + m) := by
  induction n generalizing x with
  | zero => simp [rowL]
  | succ n ih =>
    rw [show m + (n + 1) = (m + n) + 1 from rfl, rowL_snoc, ih, rowL_snoc, List.append_assoc]
    have e : x + ((m + n : Nat) : Int) = x + (m : Int) + (n : Int) := by omega
    rw [e]
theorem rowsL_split (x : Int) (nx m n : Nat) (y : Int) : rowsL x nx (m + n) y = rowsL x nx m y ++ rowsL x nx n (y + m) := by
  induction n generalizing y with
  | zero => simp [rowsL]
  | succ n ih =>
    rw [show m + (n + 1) = (m + n) + 1 from rfl, rowsL_snoc, ih, rowsL_snoc, List.append_assoc]
    have e : y + ((m + n : Nat) : Int) = y + (m : Int) + (n : Int) := by omega
    rw [e]

set_option maxRecDepth 100000 in
set_option maxHeartbeats 1000000 in
theorem eachPx (x y : Int) (nx ny : Nat) (x0 : 0 ≤ x) (x1 : x ≤ 3000) (y0 : 0 ≤ y) (y1 : y ≤ 3000) (c1 : nx ≤ 300) (r1 : ny ≤ 300) :
    IterL Tryz.prog 102 (fun l => #[boxV x y nx ny, .func (.yield l) #[] #[]]) (fun t : Int × Int => #[.int .i64 t.1, .int .i64 t.2]) (rowsL x nx ny y) := by
  intro l base J F W hJ hF hR hY h0
  have hsz := hR _ _ h0
  have HY : Hid (∀ pre t rest A, rowsL x nx ny y = pre ++ t :: rest → J pre A → YieldAt Fence.wide 0 Tryz.prog l #[.int .i64 t.1, .int .i64 t.2] A fun e B => (e = .returned (.bool true) ∧ J (pre ++ [t]) B ∧ ∀ k, base ≤ k → k < A.heap.size → B.heap[k]? = A.heap[k]?) ∨ (e = .returned (.bool false) ∧ F B)) := hY
  have H0 : Hid (∀ ob, J [] (W.alloc ob)) := fun ob => hJ _ _ _ hsz ((Below.refl _ _).alloc hsz ob) h0
  have HB : Hid ((W.alloc (.cells #[.int .i64 x, .int .i64 y, .int .i64 nx, .int .i64 ny] 66)).heap[W.heap.size]? = some (.cells #[.int .i64 x, .int .i64 y, .int .i64 nx, .int .i64 ny] 66 (0, 0))) := heap_alloc_new _ _
  clear hJ hF hR hY h0
  unfold boxV
  refine callsIn_of_wp Tryz.func102 rfl trivial ?_ rfl
  simp only [Tryz.ntmps102, List.size_toArray, List.length_cons, List.length_nil, Nat.reduceAdd, Nat.reduceSub, Array.replicate_succ, Array.replicate_zero, List.push_toArray, List.append_toArray, List.nil_append, List.cons_append]
  gi_wp2
  gi_loopg [4, 5] ny (fun m i _ wr => ∃ j : Nat, j + m = ny ∧ i = .int .i64 (y + j) ∧ Hid (J (rowsL x nx j y) wr) ∧ wr.heap[W.heap.size]? = some (.cells #[.int .i64 x, .int .i64 y, .int .i64 nx, .int .i64 ny] 66 (0, 0)))
  case atStart => exact ⟨0, by omega, by simp, H0.out _, HB.out⟩
  case round =>
    obtain ⟨j, hj, rfl, hJ, hbx⟩ := hrel
    have cb := cell_of hbx
    by_cases hlt : j < ny
    · obtain ⟨n', rfl⟩ : ∃ n', gk = n' + 1 := ⟨gk - 1, by omega⟩
      have g1 : y + (j : Int) < y + ny := by omega
      have HI : Hid (J (rowsL x nx j y ++ rowL (y + j) 0 x) wr) := by show J _ _; simpa [rowL] using hJ.out
      clear hJ
      gi_wp2
      gi_loopg [5] nx (fun m i wq => ∃ k : Nat, k + m = nx ∧ i = .int .i64 (x + k) ∧ Hid (J (rowsL x nx j y ++ rowL (y + j) k x) wq) ∧ wq.heap[W.heap.size]? = some (.cells #[.int .i64 x, .int .i64 y, .int .i64 nx, .int .i64 ny] 66 (0, 0)))
      case atStart => exact ⟨0, by omega, by simp, HI, hbx⟩
      case round =>
        obtain ⟨kk, hk, rfl, hJk, hbk⟩ := hrel
        clear HI cb hbx
        have cb := cell_of hbk
        by_cases hlt2 : kk < nx
        · obtain ⟨n2, rfl⟩ : ∃ n2, gk = n2 + 1 := ⟨gk - 1, by omega⟩
          have g2 : x + (kk : Int) < x + nx := by omega
          obtain ⟨fn, tmps, assign, body, hy, hRd⟩ := HY.out (rowsL x nx j y ++ rowL (y + j) kk x) (x + kk, y + j) (rowL (y + j) (nx - kk - 1) (x + kk + 1) ++ rowsL x nx (ny - j - 1) (y + j + 1)) wr (by
            have e1 : ny = j + (1 + (ny - j - 1)) := by omega
            have e2 : nx = kk + (1 + (nx - kk - 1)) := by omega
            conv => lhs; rw [e1, rowsL_split]
            rw [List.append_assoc]
            congr 1
            rw [Nat.add_comm 1, rowsL]
            conv => lhs; lhs; rw [e2, rowL_split]
            rw [List.append_assoc]
            congr 1
            rw [Nat.add_comm 1, rowL]
            simp) hJk.out
          dsimp only at hy
          gi_wp2
          refine ⟨rfl, hRd.mono ?_⟩
          rintro e W3 (⟨rfl, hJ3, hs3⟩ | ⟨rfl, hF3⟩)
          · have hb3 := (hs3 W.heap.size hsz (lt_of_heap hbk)).trans hbk
            have HJ3 : Hid (J (rowsL x nx j y ++ rowL (y + j) (kk + 1) x) W3) := by show J _ _; rw [rowL_snoc, ← List.append_assoc]; exact hJ3
            clear hJ3 hs3 hbk cb
            gi_wp2
            gi_roundg n2
            case rel => exact ⟨kk + 1, by omega, by go_num, HJ3, hb3⟩
            case measure => omega
          · have HF3 : Hid (F W3) := hF3
            clear hF3 hbk cb
            gi_wp2
            refine bodyPost_ret (v := .tuple #[]) (by simp [results, Tryz.results102, go_sem]) rfl ?_
            exact ⟨⟨_, rfl⟩, .inr HF3.out⟩
        · obtain rfl : gk = 0 := by omega
          obtain rfl : kk = nx := by omega
          have g2 : ¬ (x + (kk : Int) < x + kk) := by omega
          have HN : Hid (J (rowsL x kk (j + 1) y) wr) := by show J _ _; rw [rowsL_snoc]; exact hJk.out
          clear hJk
          gi_wp2
          gi_roundg n'
          case rel => exact ⟨j + 1, by omega, by go_num, HN, hbk⟩
          case measure => omega
    · obtain rfl : gk = 0 := by omega
      obtain rfl : j = ny := by omega
      have g1 : ¬ (y + (j : Int) < y + j) := by omega
      gi_wp2
      go_end0
      exact ⟨⟨_, rfl⟩, .inl hJ.out⟩
end Go.Proofs.YthcikinkicpicaaGreatDoor

namespace Go.Proofs.YthcikinkicpicaaGreatDoor
open Go.RowKit Go.Shelf
attribute [local go_sem] Oper.semAt_some

set_option maxRecDepth 100000 in
set_option maxHeartbeats 1000000 in
theorem eachBoxG (x y c r : Int) (hin : c = 0 ∨ r = 0 ∨ (0 ≤ x ∧ x ≤ 300 ∧ 0 ≤ y ∧ y ≤ 300 ∧ 0 ≤ c ∧ c ≤ 300 ∧ 0 ≤ r ∧ r ≤ 300)) :
    IterG Tryz.prog 67 (fun l => #[boxV x y c r, .func (.yield l) #[] #[]]) (fun t : Int × Int => #[boxV t.1 t.2 4 4]) (if c = 0 ∨ r = 0 then [] else winTiles x y c r) (fun _ => True) := by
  intro l base J W hJ hR hY h0
  have hsz := (hR _ _ h0).1
  have HJ : Hid (∀ pre A B, base ≤ A.heap.size → Below A.heap.size A B → J pre A → J pre B) := hJ
  have HR : Hid (∀ pre A, J pre A → base ≤ A.heap.size ∧ True) := hR
  have HY : Hid (∀ pre t rest A, (if c = 0 ∨ r = 0 then [] else winTiles x y c r) = pre ++ t :: rest → J pre A → YieldAt Fence.wide 0 Tryz.prog l #[boxV t.1 t.2 4 4] A fun e B => e = .returned (.bool true) ∧ J (pre ++ [t]) B ∧ ∀ k, base ≤ k → k < A.heap.size → B.heap[k]? = A.heap[k]?) := hY
  have HE : Hid (∀ W', Calls Tryz.prog 100 #[boxV x y c r] W' fun e w' => e = .returned (.bool (decide (c = 0 ∨ r = 0))) ∧ Below W'.heap.size W' w') := fun W' => isEmpty_any ⟨x, y, c, r⟩ W'
  have H0 : Hid (∀ ob w1, Below (W.alloc ob).heap.size (W.alloc ob) w1 → J [] w1) := fun ob w1 hb => hJ _ _ _ hsz (((Below.refl _ _).alloc (Nat.le_refl _) ob).trans (hb.mono (by simp))) h0
  have HBx : Hid (∀ w1, Below (W.alloc (.cells #[.int .i64 x, .int .i64 y, .int .i64 c, .int .i64 r] 66)).heap.size (W.alloc (.cells #[.int .i64 x, .int .i64 y, .int .i64 c, .int .i64 r] 66)) w1 → w1.heap[W.heap.size]? = some (.cells #[.int .i64 x, .int .i64 y, .int .i64 c, .int .i64 r] 66 (0, 0))) := fun w1 hb => (hb.block _ (by simp)).trans (heap_alloc_new _ _)
  clear hJ hR hY h0
  unfold boxV at HE ⊢
  refine callsIn_of_wp Tryz.func67 rfl trivial ?_ rfl
  simp only [Tryz.ntmps67, List.size_toArray, List.length_cons, List.length_nil, Nat.reduceAdd, Nat.reduceSub, Array.replicate_succ, Array.replicate_zero, List.push_toArray, List.append_toArray, List.nil_append, List.cons_append]
  by_cases hz : c = 0 ∨ r = 0
  · rw [if_pos hz]
    rw [decide_eq_true hz] at HE
    clear hz HY hin
    gi_wp2_with fail
    refine ⟨trivial, rfl, ?_⟩
    refine (callsIn_wide.2 (HE.out _)).mono ?_
    rintro e w1 ⟨rfl, hb1⟩
    gi_wp2
    refine bodyPost_ret (v := .tuple #[]) (by simp [results, Tryz.results67, go_sem]) rfl ?_
    exact ⟨⟨_, rfl⟩, H0.out _ _ hb1⟩
  · rw [if_neg hz] at HY ⊢
    rw [decide_eq_false hz] at HE
    obtain ⟨x0, x1, y0, y1, c0, c1, r0, r1⟩ : 0 ≤ x ∧ x ≤ 300 ∧ 0 ≤ y ∧ y ≤ 300 ∧ 0 ≤ c ∧ c ≤ 300 ∧ 0 ≤ r ∧ r ≤ 300 := by omega
    have hc : 0 < c := by omega
    have hr : 0 < r := by omega
    have HX : Hid (winTiles x y c r = tilesL (x - x % 4) ((x + c - (x - x % 4) + 3) / 4).toNat ((y + r - (y - y % 4) + 3) / 4).toNat (y - y % 4)) := rfl
    obtain ⟨nx, hnx⟩ : ∃ nx : Nat, nx = ((x + c - (x - x % 4) + 3) / 4).toNat := ⟨_, rfl⟩
    obtain ⟨ny, hny⟩ : ∃ ny : Nat, ny = ((y + r - (y - y % 4) + 3) / 4).toNat := ⟨_, rfl⟩
    obtain ⟨xa, hxa⟩ : ∃ xa : Int, xa = x - x % 4 := ⟨_, rfl⟩
    obtain ⟨ya, hya⟩ : ∃ ya : Int, ya = y - y % 4 := ⟨_, rfl⟩
    have HXX : winTiles x y c r = tilesL xa nx ny ya := by rw [hnx, hny, hxa, hya]; rfl
    rw [HXX] at HY ⊢
    have a1 : 0 ≤ xa := by omega
    have a2 : 0 ≤ ya := by omega
    have hnx1 : xa + 4 * (nx : Int) ≥ x + c := by omega
    have hnx2 : xa + 4 * (nx : Int) < x + c + 4 := by omega
    have hny1 : ya + 4 * (ny : Int) ≥ y + r := by omega
    have hny2 : ya + 4 * (ny : Int) < y + r + 4 := by omega
    have hxa' : x - x % 4 = xa := hxa.symm
    have hya' : y - y % 4 = ya := hya.symm
    clear HX HXX hnx hny hxa hya hz hin
    gi_wp2_with fail
    refine ⟨trivial, rfl, ?_⟩
    refine (callsIn_wide.2 (HE.out _)).mono ?_
    rintro e w1 ⟨rfl, hb1⟩
    have cb := cell_of (HBx.out w1 hb1)
    have HB : Hid (w1.heap[W.heap.size]? = some (.cells #[.int .i64 x, .int .i64 y, .int .i64 c, .int .i64 r] 66 (0, 0))) := HBx.out w1 hb1
    have H1 : Hid (J [] w1) := H0.out _ _ hb1
    clear HE hb1
    gi_wp2
    clear cb
    gi_loopg [4, 5] ny (fun m i _ wr => ∃ j : Nat, j + m = ny ∧ i = .int .i64 (ya + 4 * j) ∧ Hid (J (tilesL xa nx j ya) wr) ∧ wr.heap[W.heap.size]? = some (.cells #[.int .i64 x, .int .i64 y, .int .i64 c, .int .i64 r] 66 (0, 0)))
    case atStart => exact ⟨0, by omega, by simp, H1, HB.out⟩
    case round =>
      obtain ⟨j, hj, rfl, hJ, hbx⟩ := hrel
      have cb := cell_of hbx
      by_cases hlt : j < ny
      · obtain ⟨n', rfl⟩ : ∃ n', gk = n' + 1 := ⟨gk - 1, by omega⟩
        have g1 : ya + 4 * (j : Int) < y + r := by omega
        have HI : Hid (J (tilesL xa nx j ya ++ tileRow (ya + 4 * j) 0 xa) wr) := by show J _ _; simpa [tileRow] using hJ.out
        clear hJ
        gi_wp2
        gi_loopg [5] nx (fun m i wq => ∃ k : Nat, k + m = nx ∧ i = .int .i64 (xa + 4 * k) ∧ Hid (J (tilesL xa nx j ya ++ tileRow (ya + 4 * j) k xa) wq) ∧ wq.heap[W.heap.size]? = some (.cells #[.int .i64 x, .int .i64 y, .int .i64 c, .int .i64 r] 66 (0, 0)))
        case atStart => exact ⟨0, by omega, by simp, HI, hbx⟩
        case round =>
          obtain ⟨kk, hk, rfl, hJk, hbk⟩ := hrel
          clear HI cb hbx
          have cb := cell_of hbk
          by_cases hlt2 : kk < nx
          · obtain ⟨n2, rfl⟩ : ∃ n2, gk = n2 + 1 := ⟨gk - 1, by omega⟩
            have g2 : xa + 4 * (kk : Int) < x + c := by omega
            obtain ⟨fn, tmps, assign, body, hy, hRd⟩ := HY.out (tilesL xa nx j ya ++ tileRow (ya + 4 * j) kk xa) (xa + 4 * kk, ya + 4 * j) (tileRow (ya + 4 * j) (nx - kk - 1) (xa + 4 * kk + 4) ++ tilesL xa nx (ny - j - 1) (ya + 4 * j + 4)) wr (by
              have e1 : ny = j + (1 + (ny - j - 1)) := by omega
              have e2 : nx = kk + (1 + (nx - kk - 1)) := by omega
              conv => lhs; rw [e1, tilesL_split]
              rw [List.append_assoc]
              congr 1
              rw [Nat.add_comm 1, tilesL]
              conv => lhs; lhs; rw [e2, tileRow_split]
              rw [List.append_assoc]
              congr 1
              rw [Nat.add_comm 1, tileRow]
              simp) hJk.out
            dsimp only at hy
            gi_wp2
            refine ⟨rfl, hRd.mono ?_⟩
            rintro e W3 ⟨rfl, hJ3, hs3⟩
            have hb3 := (hs3 W.heap.size hsz (lt_of_heap hbk)).trans hbk
            have HJ3 : Hid (J (tilesL xa nx j ya ++ tileRow (ya + 4 * j) (kk + 1) xa) W3) := by show J _ _; rw [tileRow_snoc, ← List.append_assoc]; exact hJ3
            clear hJ3 hs3 hbk cb
            gi_wp2
            gi_roundg n2
            case rel => exact ⟨kk + 1, by omega, by go_num, HJ3, hb3⟩
            case measure => omega
          · obtain rfl : gk = 0 := by omega
            obtain rfl : kk = nx := by omega
            have g2 : ¬ (xa + 4 * (kk : Int) < x + c) := by omega
            have HN : Hid (J (tilesL xa kk (j + 1) ya) wr) := by show J _ _; rw [tilesL_snoc]; exact hJk.out
            clear hJk
            gi_wp2
            gi_roundg n'
            case rel => exact ⟨j + 1, by omega, by go_num, HN, hbk⟩
            case measure => omega
      · obtain rfl : gk = 0 := by omega
        obtain rfl : j = ny := by omega
        have g1 : ¬ (ya + 4 * (j : Int) < y + r) := by omega
        gi_wp2
        go_end0
        exact ⟨⟨_, rfl⟩, hJ.out⟩
end Go.Proofs.YthcikinkicpicaaGreatDoor
