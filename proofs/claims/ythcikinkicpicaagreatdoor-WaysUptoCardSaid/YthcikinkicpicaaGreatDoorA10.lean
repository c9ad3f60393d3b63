import Derived.Test.YthcikinkicpicaaGreatDoorA05
import Derived.Test.YthcikinkicpicaaGreatDoorA04
import Derived.Deep.MidRow

namespace Go.Proofs.YthcikinkicpicaaGreatDoor
open Go.RowKit

/-- The three corners, as one value's cells. -/
def cor18 (a b c : Cor) : List Value :=
  [.int .i64 a.x, .int .i64 a.y, .int .i64 a.r, .int .i64 a.g, .int .i64 a.b, .int .i64 a.d, .int .i64 b.x, .int .i64 b.y, .int .i64 b.r, .int .i64 b.g, .int .i64 b.b, .int .i64 b.d,
    .int .i64 c.x, .int .i64 c.y, .int .i64 c.r, .int .i64 c.g, .int .i64 c.b, .int .i64 c.d]

theorem trc_range {w : World} {q : Nat} {a b c : Cor} {area : Int} {front : Fr} (hq : w.heap[q]? = some (.cells (trc a b c area front) 165 (0, 0))) : w.rangeAt q 0 (cor18 a b c) := by
  intro j v hv
  rw [cell_of hq]
  have hj : j < 18 := by have := (List.getElem?_eq_some_iff.1 hv).1; simpa [cor18] using this
  rw [Nat.zero_add, ← hv]
  have : j = 0 ∨ j = 1 ∨ j = 2 ∨ j = 3 ∨ j = 4 ∨ j = 5 ∨ j = 6 ∨ j = 7 ∨ j = 8 ∨ j = 9 ∨ j = 10 ∨ j = 11 ∨ j = 12 ∨ j = 13 ∨ j = 14 ∨ j = 15 ∨ j = 16 ∨ j = 17 := by omega
  rcases this with rfl | rfl | rfl | rfl | rfl | rfl | rfl | rfl | rfl | rfl | rfl | rfl | rfl | rfl | rfl | rfl | rfl | rfl <;> rfl

theorem idx0 (a b c : Cor) (w : World) : Sem.run Tryz.prog (Instr.index 163 (.agg (cor18 a b c).toArray) (.int .i64 0)) w = .ok (corV a) w := by kernel_rfl
theorem idx1 (a b c : Cor) (w : World) : Sem.run Tryz.prog (Instr.index 163 (.agg (cor18 a b c).toArray) (.int .i64 1)) w = .ok (corV b) w := by kernel_rfl
theorem idx2 (a b c : Cor) (w : World) : Sem.run Tryz.prog (Instr.index 163 (.agg (cor18 a b c).toArray) (.int .i64 2)) w = .ok (corV c) w := by kernel_rfl

theorem Tryz.info3cor : (Tryz.prog.info? 163).map (·.size) = some 18 := by kernel_rfl

set_option maxRecDepth 100000 in
set_option maxHeartbeats 1000000 in
theorem between_any (q : Nat) (a b c : Cor) (area : Int) (front : Fr) (u v w' : Int) (k : Nat) (va vb vc : Int) (w : World) (hq : w.heap[q]? = some (.cells (trc a b c area front) 165 (0, 0)))
    (hk : (k = 0 ∧ va = a.r ∧ vb = b.r ∧ vc = c.r) ∨ (k = 1 ∧ va = a.g ∧ vb = b.g ∧ vc = c.g) ∨ (k = 2 ∧ va = a.b ∧ vb = b.b ∧ vc = c.b) ∨ (k = 3 ∧ va = a.d ∧ vb = b.d ∧ vc = c.d))
    (ha : 0 < area) (ru : 0 ≤ u * va ∧ u * va ≤ 600000000000000) (rv : 0 ≤ v * vb ∧ v * vb ≤ 600000000000000) (rw' : 0 ≤ w' * vc ∧ w' * vc ≤ 600000000000000) :
    Calls Tryz.prog 144 #[.pointer (some ⟨q, 0, none⟩), .agg #[.int .i64 u, .int .i64 v, .int .i64 w'], .int .i64 k] w fun e w2 => e = .returned (.int .i64 ((u * va + v * vb + w' * vc) / area)) ∧ Below w.heap.size w w2 := by
  have lt := lt_of_heap hq
  have HQ : Hid (w.heap[q]? = some (.cells (trc a b c area front) 165 (0, 0))) := hq
  have HR : Hid ((w.alloc (.cells #[.int .i64 u, .int .i64 v, .int .i64 w'] 243)).rangeAt q 0 (cor18 a b c)) := World.rangeAt_alloc (trc_range hq) _
  have HK : Hid ((k = 0 ∧ va = a.r ∧ vb = b.r ∧ vc = c.r) ∨ (k = 1 ∧ va = a.g ∧ vb = b.g ∧ vc = c.g) ∨ (k = 2 ∧ va = a.b ∧ vb = b.b ∧ vc = c.b) ∨ (k = 3 ∧ va = a.d ∧ vb = b.d ∧ vc = c.d)) := hk
  clear hq hk
  have k64u : IntKind.i64.wrap (u * va) = u * va := k64 (by omega)
  have k64v : IntKind.i64.wrap (v * vb) = v * vb := k64 (by omega)
  have k64w : IntKind.i64.wrap (w' * vc) = w' * vc := k64 (by omega)
  have s0 : IntKind.i64.wrap (0 + u * va) = u * va := by rw [Int.zero_add]; exact k64u
  have s1 : IntKind.i64.wrap (u * va + v * vb) = u * va + v * vb := k64 (by omega)
  have s2 : IntKind.i64.wrap (u * va + v * vb + w' * vc) = u * va + v * vb + w' * vc := k64 (by omega)
  have sn : 0 ≤ u * va + v * vb + w' * vc := by omega
  have sm : u * va + v * vb + w' * vc ≤ 1800000000000000 := by omega
  clear ru rv rw'
  rcases HK.out with ⟨rfl, rfl, rfl, rfl⟩ | ⟨rfl, rfl, rfl, rfl⟩ | ⟨rfl, rfl, rfl, rfl⟩ | ⟨rfl, rfl, rfl, rfl⟩
  · clear HK
    go_enter Tryz.func144, Tryz.ntmps144
    go_wp2_with (refine wpList_load_mid rfl 163 (.tmp 12) rfl q 0 rfl (cor18 a b c) _ HR.out Tryz.underlying163 rfl Tryz.info3cor ?_)
    go_loopg [7, 14] 3 (fun m sum i wr => ∃ j : Nat, j + m = 3 ∧ i = .int .i64 j ∧ sum = .int .i64 (if j = 0 then 0 else if j = 1 then u * a.r else if j = 2 then u * a.r + v * b.r else u * a.r + v * b.r + w' * c.r) ∧
      wr.heap[w.heap.size]? = some (.cells #[.int .i64 u, .int .i64 v, .int .i64 w'] 243 (0, 0)) ∧ Below w.heap.size w wr)
    case atStart => exact ⟨0, rfl, rfl, by simp, heap_alloc_new _ _, below1⟩
    case round =>
      obtain ⟨j, hj, rfl, rfl, hp, hbel⟩ := hrel
      have hj' : j = 0 ∨ j = 1 ∨ j = 2 ∨ j = 3 := by omega
      have cq := cell_of hp
      have fp := lt_of_heap hp
      have cA : wr.cell? ⟨q, 18, none⟩ = some (.int .i64 area) := (hbel.cell (p := ⟨q, 18, none⟩) lt).trans (cell_of HQ.out 18)
      have x0 := idx0 a b c
      have x1 := idx1 a b c
      have x2 := idx2 a b c
      simp only [cor18, corV] at x0 x1 x2 ⊢
      have cx : ∀ (ob : Obj) (o : Nat), (wr.alloc ob).cell? ⟨w.heap.size, o, none⟩ = #[Value.int .i64 u, .int .i64 v, .int .i64 w'][o]? := fun ob o => (World.cell?_alloc_past _ _ _ fp).trans (cq o)
      have HP : Hid (∀ (ob : Obj) (n : Nat), ((wr.alloc ob).drewN n).heap[w.heap.size]? = some (.cells #[.int .i64 u, .int .i64 v, .int .i64 w'] 243 (0, 0)) ∧ Below w.heap.size w ((wr.alloc ob).drewN n)) :=
        fun ob n => ⟨(heap_alloc_old fp ob).trans hp, (hbel.alloc (Nat.le_of_lt fp) ob).drewN' n⟩
      have HB : Hid (Below w.heap.size w wr) := hbel
      clear hp hbel HR
      rcases hj' with rfl | rfl | rfl | rfl
      · obtain rfl : gk = 3 := by omega
        go_wp2_with fail
        go_quiet (fail)
        go_wp2_with fail
        go_roundg 2
        case rel => exact ⟨1, by omega, by go_num, by simp, (HP.out _ _).1, (HP.out _ _).2⟩
        case measure => omega
      · obtain rfl : gk = 2 := by omega
        go_wp2_with fail
        go_quiet (fail)
        go_wp2_with fail
        go_roundg 1
        case rel => exact ⟨2, by omega, by go_num, by simp, (HP.out _ _).1, (HP.out _ _).2⟩
        case measure => omega
      · obtain rfl : gk = 1 := by omega
        go_wp2_with fail
        go_quiet (fail)
        go_wp2_with fail
        go_roundg 0
        case rel => exact ⟨3, by omega, by go_num, by simp, (HP.out _ _).1, (HP.out _ _).2⟩
        case measure => omega
      · obtain rfl : gk = 0 := by omega
        go_wp2_with fail
        go_ret
        exact ⟨ret_int (by first | rfl | exact Int.tdiv_eq_ediv_of_nonneg sn), HB.out⟩
  · clear HK
    go_enter Tryz.func144, Tryz.ntmps144
    go_wp2_with (refine wpList_load_mid rfl 163 (.tmp 12) rfl q 0 rfl (cor18 a b c) _ HR.out Tryz.underlying163 rfl Tryz.info3cor ?_)
    go_loopg [7, 14] 3 (fun m sum i wr => ∃ j : Nat, j + m = 3 ∧ i = .int .i64 j ∧ sum = .int .i64 (if j = 0 then 0 else if j = 1 then u * a.g else if j = 2 then u * a.g + v * b.g else u * a.g + v * b.g + w' * c.g) ∧
      wr.heap[w.heap.size]? = some (.cells #[.int .i64 u, .int .i64 v, .int .i64 w'] 243 (0, 0)) ∧ Below w.heap.size w wr)
    case atStart => exact ⟨0, rfl, rfl, by simp, heap_alloc_new _ _, below1⟩
    case round =>
      obtain ⟨j, hj, rfl, rfl, hp, hbel⟩ := hrel
      have hj' : j = 0 ∨ j = 1 ∨ j = 2 ∨ j = 3 := by omega
      have cq := cell_of hp
      have fp := lt_of_heap hp
      have cA : wr.cell? ⟨q, 18, none⟩ = some (.int .i64 area) := (hbel.cell (p := ⟨q, 18, none⟩) lt).trans (cell_of HQ.out 18)
      have x0 := idx0 a b c
      have x1 := idx1 a b c
      have x2 := idx2 a b c
      simp only [cor18, corV] at x0 x1 x2 ⊢
      have cx : ∀ (ob : Obj) (o : Nat), (wr.alloc ob).cell? ⟨w.heap.size, o, none⟩ = #[Value.int .i64 u, .int .i64 v, .int .i64 w'][o]? := fun ob o => (World.cell?_alloc_past _ _ _ fp).trans (cq o)
      have HP : Hid (∀ (ob : Obj) (n : Nat), ((wr.alloc ob).drewN n).heap[w.heap.size]? = some (.cells #[.int .i64 u, .int .i64 v, .int .i64 w'] 243 (0, 0)) ∧ Below w.heap.size w ((wr.alloc ob).drewN n)) :=
        fun ob n => ⟨(heap_alloc_old fp ob).trans hp, (hbel.alloc (Nat.le_of_lt fp) ob).drewN' n⟩
      have HB : Hid (Below w.heap.size w wr) := hbel
      clear hp hbel HR
      rcases hj' with rfl | rfl | rfl | rfl
      · obtain rfl : gk = 3 := by omega
        go_wp2_with fail
        go_quiet (fail)
        go_wp2_with fail
        go_roundg 2
        case rel => exact ⟨1, by omega, by go_num, by simp, (HP.out _ _).1, (HP.out _ _).2⟩
        case measure => omega
      · obtain rfl : gk = 2 := by omega
        go_wp2_with fail
        go_quiet (fail)
        go_wp2_with fail
        go_roundg 1
        case rel => exact ⟨2, by omega, by go_num, by simp, (HP.out _ _).1, (HP.out _ _).2⟩
        case measure => omega
      · obtain rfl : gk = 1 := by omega
        go_wp2_with fail
        go_quiet (fail)
        go_wp2_with fail
        go_roundg 0
        case rel => exact ⟨3, by omega, by go_num, by simp, (HP.out _ _).1, (HP.out _ _).2⟩
        case measure => omega
      · obtain rfl : gk = 0 := by omega
        go_wp2_with fail
        go_ret
        exact ⟨ret_int (by first | rfl | exact Int.tdiv_eq_ediv_of_nonneg sn), HB.out⟩
  · clear HK
    go_enter Tryz.func144, Tryz.ntmps144
    go_wp2_with (refine wpList_load_mid rfl 163 (.tmp 12) rfl q 0 rfl (cor18 a b c) _ HR.out Tryz.underlying163 rfl Tryz.info3cor ?_)
    go_loopg [7, 14] 3 (fun m sum i wr => ∃ j : Nat, j + m = 3 ∧ i = .int .i64 j ∧ sum = .int .i64 (if j = 0 then 0 else if j = 1 then u * a.b else if j = 2 then u * a.b + v * b.b else u * a.b + v * b.b + w' * c.b) ∧
      wr.heap[w.heap.size]? = some (.cells #[.int .i64 u, .int .i64 v, .int .i64 w'] 243 (0, 0)) ∧ Below w.heap.size w wr)
    case atStart => exact ⟨0, rfl, rfl, by simp, heap_alloc_new _ _, below1⟩
    case round =>
      obtain ⟨j, hj, rfl, rfl, hp, hbel⟩ := hrel
      have hj' : j = 0 ∨ j = 1 ∨ j = 2 ∨ j = 3 := by omega
      have cq := cell_of hp
      have fp := lt_of_heap hp
      have cA : wr.cell? ⟨q, 18, none⟩ = some (.int .i64 area) := (hbel.cell (p := ⟨q, 18, none⟩) lt).trans (cell_of HQ.out 18)
      have x0 := idx0 a b c
      have x1 := idx1 a b c
      have x2 := idx2 a b c
      simp only [cor18, corV] at x0 x1 x2 ⊢
      have cx : ∀ (ob : Obj) (o : Nat), (wr.alloc ob).cell? ⟨w.heap.size, o, none⟩ = #[Value.int .i64 u, .int .i64 v, .int .i64 w'][o]? := fun ob o => (World.cell?_alloc_past _ _ _ fp).trans (cq o)
      have HP : Hid (∀ (ob : Obj) (n : Nat), ((wr.alloc ob).drewN n).heap[w.heap.size]? = some (.cells #[.int .i64 u, .int .i64 v, .int .i64 w'] 243 (0, 0)) ∧ Below w.heap.size w ((wr.alloc ob).drewN n)) :=
        fun ob n => ⟨(heap_alloc_old fp ob).trans hp, (hbel.alloc (Nat.le_of_lt fp) ob).drewN' n⟩
      have HB : Hid (Below w.heap.size w wr) := hbel
      clear hp hbel HR
      rcases hj' with rfl | rfl | rfl | rfl
      · obtain rfl : gk = 3 := by omega
        go_wp2_with fail
        go_quiet (fail)
        go_wp2_with fail
        go_roundg 2
        case rel => exact ⟨1, by omega, by go_num, by simp, (HP.out _ _).1, (HP.out _ _).2⟩
        case measure => omega
      · obtain rfl : gk = 2 := by omega
        go_wp2_with fail
        go_quiet (fail)
        go_wp2_with fail
        go_roundg 1
        case rel => exact ⟨2, by omega, by go_num, by simp, (HP.out _ _).1, (HP.out _ _).2⟩
        case measure => omega
      · obtain rfl : gk = 1 := by omega
        go_wp2_with fail
        go_quiet (fail)
        go_wp2_with fail
        go_roundg 0
        case rel => exact ⟨3, by omega, by go_num, by simp, (HP.out _ _).1, (HP.out _ _).2⟩
        case measure => omega
      · obtain rfl : gk = 0 := by omega
        go_wp2_with fail
        go_ret
        exact ⟨ret_int (by first | rfl | exact Int.tdiv_eq_ediv_of_nonneg sn), HB.out⟩
  · clear HK
    go_enter Tryz.func144, Tryz.ntmps144
    go_wp2_with (refine wpList_load_mid rfl 163 (.tmp 12) rfl q 0 rfl (cor18 a b c) _ HR.out Tryz.underlying163 rfl Tryz.info3cor ?_)
    go_loopg [7, 14] 3 (fun m sum i wr => ∃ j : Nat, j + m = 3 ∧ i = .int .i64 j ∧ sum = .int .i64 (if j = 0 then 0 else if j = 1 then u * a.d else if j = 2 then u * a.d + v * b.d else u * a.d + v * b.d + w' * c.d) ∧
      wr.heap[w.heap.size]? = some (.cells #[.int .i64 u, .int .i64 v, .int .i64 w'] 243 (0, 0)) ∧ Below w.heap.size w wr)
    case atStart => exact ⟨0, rfl, rfl, by simp, heap_alloc_new _ _, below1⟩
    case round =>
      obtain ⟨j, hj, rfl, rfl, hp, hbel⟩ := hrel
      have hj' : j = 0 ∨ j = 1 ∨ j = 2 ∨ j = 3 := by omega
      have cq := cell_of hp
      have fp := lt_of_heap hp
      have cA : wr.cell? ⟨q, 18, none⟩ = some (.int .i64 area) := (hbel.cell (p := ⟨q, 18, none⟩) lt).trans (cell_of HQ.out 18)
      have x0 := idx0 a b c
      have x1 := idx1 a b c
      have x2 := idx2 a b c
      simp only [cor18, corV] at x0 x1 x2 ⊢
      have cx : ∀ (ob : Obj) (o : Nat), (wr.alloc ob).cell? ⟨w.heap.size, o, none⟩ = #[Value.int .i64 u, .int .i64 v, .int .i64 w'][o]? := fun ob o => (World.cell?_alloc_past _ _ _ fp).trans (cq o)
      have HP : Hid (∀ (ob : Obj) (n : Nat), ((wr.alloc ob).drewN n).heap[w.heap.size]? = some (.cells #[.int .i64 u, .int .i64 v, .int .i64 w'] 243 (0, 0)) ∧ Below w.heap.size w ((wr.alloc ob).drewN n)) :=
        fun ob n => ⟨(heap_alloc_old fp ob).trans hp, (hbel.alloc (Nat.le_of_lt fp) ob).drewN' n⟩
      have HB : Hid (Below w.heap.size w wr) := hbel
      clear hp hbel HR
      rcases hj' with rfl | rfl | rfl | rfl
      · obtain rfl : gk = 3 := by omega
        go_wp2_with fail
        go_quiet (fail)
        go_wp2_with fail
        go_roundg 2
        case rel => exact ⟨1, by omega, by go_num, by simp, (HP.out _ _).1, (HP.out _ _).2⟩
        case measure => omega
      · obtain rfl : gk = 2 := by omega
        go_wp2_with fail
        go_quiet (fail)
        go_wp2_with fail
        go_roundg 1
        case rel => exact ⟨2, by omega, by go_num, by simp, (HP.out _ _).1, (HP.out _ _).2⟩
        case measure => omega
      · obtain rfl : gk = 1 := by omega
        go_wp2_with fail
        go_quiet (fail)
        go_wp2_with fail
        go_roundg 0
        case rel => exact ⟨3, by omega, by go_num, by simp, (HP.out _ _).1, (HP.out _ _).2⟩
        case measure => omega
      · obtain rfl : gk = 0 := by omega
        go_wp2_with fail
        go_ret
        exact ⟨ret_int (by first | rfl | exact Int.tdiv_eq_ediv_of_nonneg sn), HB.out⟩
end Go.Proofs.YthcikinkicpicaaGreatDoor

namespace Go.Proofs.YthcikinkicpicaaGreatDoor
open Go.RowKit

/-- The lesser and the greater, kept as they stand. -/
def mn (a b : Int) : Int := min a b
def mx (a b : Int) : Int := max a b
@[reducible] def spn64 (a b : Int) : Value := .agg #[.int .i64 a, .int .i64 b]
@[reducible] def spn16 (a b : Int) : Value := .agg #[.int .u16 a, .int .u16 b]

set_option maxRecDepth 100000 in
set_option maxHeartbeats 400000 in
theorem spanOf64 (n : Int) (w : World) : Calls Tryz.prog 135 #[.int .i64 n] w fun e w' => e = .returned (spn64 n n) ∧ Below w.heap.size w w' := by
  go_enter Tryz.func135, Tryz.ntmps135
  go_wp2
  refine bodyPost_ret (v := spn64 n n) (by simp [results, Tryz.results135, go_sem]) rfl ?_
  exact ⟨rfl, below1⟩

set_option maxRecDepth 100000 in
set_option maxHeartbeats 400000 in
theorem spanOf16 (n : Int) (w : World) : Calls Tryz.prog 140 #[.int .u16 n] w fun e w' => e = .returned (spn16 n n) ∧ Below w.heap.size w w' := by
  go_enter Tryz.func140, Tryz.ntmps140
  go_wp2
  refine bodyPost_ret (v := spn16 n n) (by simp [results, Tryz.results140, go_sem]) rfl ?_
  exact ⟨rfl, below1⟩

set_option maxRecDepth 100000 in
set_option maxHeartbeats 400000 in
theorem with64 (a b n : Int) (w : World) : Calls Tryz.prog 136 #[spn64 a b, .int .i64 n] w fun e w' => e = .returned (spn64 (mn a n) (mx b n)) ∧ Below w.heap.size w w' := by
  obtain ⟨lo, hlo⟩ : ∃ lo, mn a n = lo := ⟨_, rfl⟩
  obtain ⟨hi, hhi⟩ : ∃ hi, mx b n = hi := ⟨_, rfl⟩
  rw [hlo, hhi]
  have HL : Hid (min a n = lo) := hlo
  have HH : Hid (max b n = hi) := hhi
  clear hlo hhi
  go_enter Tryz.func136, Tryz.ntmps136
  go_wp2
  all_goals
    have h1 := HL.out
    have h2 := HH.out
    refine bodyPost_ret (v := spn64 lo hi) (by simp [results, Tryz.results136, go_sem]; omega) rfl ?_
    exact ⟨rfl, below2⟩

set_option maxRecDepth 100000 in
set_option maxHeartbeats 400000 in
theorem with16 (a b n : Int) (w : World) : Calls Tryz.prog 141 #[spn16 a b, .int .u16 n] w fun e w' => e = .returned (spn16 (mn a n) (mx b n)) ∧ Below w.heap.size w w' := by
  obtain ⟨lo, hlo⟩ : ∃ lo, mn a n = lo := ⟨_, rfl⟩
  obtain ⟨hi, hhi⟩ : ∃ hi, mx b n = hi := ⟨_, rfl⟩
  rw [hlo, hhi]
  have HL : Hid (min a n = lo) := hlo
  have HH : Hid (max b n = hi) := hhi
  clear hlo hhi
  go_enter Tryz.func141, Tryz.ntmps141
  go_wp2
  all_goals
    have h1 := HL.out
    have h2 := HH.out
    refine bodyPost_ret (v := spn16 lo hi) (by simp [results, Tryz.results141, go_sem]; omega) rfl ?_
    exact ⟨rfl, below2⟩

set_option maxRecDepth 100000 in
set_option maxHeartbeats 400000 in
theorem middlesIn_any (a b : Int) (w : World) (ha : -100000 ≤ a) (ha' : a ≤ 100000) (hb : -100000 ≤ b) (hb' : b ≤ 100000) : Calls Tryz.prog 137 #[spn64 a b] w fun e w' => e = .returned (.tuple #[.int .i64 (mids a b).1, .int .i64 (mids a b).2]) ∧ Below w.heap.size w w' := by
  unfold mids
  obtain ⟨f, hf⟩ : ∃ f, (a + 7) / 16 = f := ⟨_, rfl⟩
  obtain ⟨l, hl⟩ : ∃ l, (b - 8) / 16 = l := ⟨_, rfl⟩
  go_enter Tryz.func137, Tryz.ntmps137
  go_wp2
  all_goals
    refine bodyPost_ret (v := .tuple #[.int .i64 f, .int .i64 (max 0 (l - f + 1))]) (by simp [results, Tryz.results137, go_sem]; omega) rfl ?_
    exact ⟨rfl, below1⟩

set_option maxRecDepth 100000 in
set_option maxHeartbeats 400000 in
theorem spanOf64x (n : Int) (w : World) : Calls Tryz.prog 135 #[.int .i64 n] w fun e w' => e = .returned (spn64 n n) ∧ w' = w.alloc (.cells #[.int .i64 n, .int .i64 n] 235) := by
  go_enter Tryz.func135, Tryz.ntmps135
  go_wp2
  refine bodyPost_ret (v := spn64 n n) (by simp [results, Tryz.results135, go_sem]) rfl ?_
  exact ⟨rfl, rfl⟩

set_option maxRecDepth 100000 in
set_option maxHeartbeats 400000 in
theorem with64x (a b n : Int) (w : World) : Calls Tryz.prog 136 #[spn64 a b, .int .i64 n] w fun e w' => e = .returned (spn64 (mn a n) (mx b n)) ∧ w' = (w.alloc (.cells #[.int .i64 a, .int .i64 b] 235)).alloc (.cells #[.int .i64 (mn a n), .int .i64 (mx b n)] 235) := by
  have e1 : mn a n = if n < a then n else a := by unfold mn; split <;> omega
  have e2 : mx b n = if b < n then n else b := by unfold mx; split <;> omega
  rw [e1, e2]
  by_cases h1 : n < a
  · by_cases h2 : b < n
    · rw [if_pos h1, if_pos h2]
      clear e1 e2
      go_enter Tryz.func136, Tryz.ntmps136
      go_wp2
      refine bodyPost_ret (v := spn64 n n) (by simp [results, Tryz.results136, go_sem]) rfl ?_
      exact ⟨rfl, rfl⟩
    · rw [if_pos h1, if_neg h2]
      clear e1 e2
      go_enter Tryz.func136, Tryz.ntmps136
      go_wp2
      refine bodyPost_ret (v := spn64 n b) (by simp [results, Tryz.results136, go_sem]) rfl ?_
      exact ⟨rfl, rfl⟩
  · by_cases h2 : b < n
    · rw [if_neg h1, if_pos h2]
      clear e1 e2
      go_enter Tryz.func136, Tryz.ntmps136
      go_wp2
      refine bodyPost_ret (v := spn64 a n) (by simp [results, Tryz.results136, go_sem]) rfl ?_
      exact ⟨rfl, rfl⟩
    · rw [if_neg h1, if_neg h2]
      clear e1 e2
      go_enter Tryz.func136, Tryz.ntmps136
      go_wp2
      refine bodyPost_ret (v := spn64 a b) (by simp [results, Tryz.results136, go_sem]) rfl ?_
      exact ⟨rfl, rfl⟩
end Go.Proofs.YthcikinkicpicaaGreatDoor

namespace Go.Proofs.YthcikinkicpicaaGreatDoor
open Go.RowKit

@[reducible] def smpV (x y r g b d : Int) : Value := .agg #[.int .i64 x, .int .i64 y, .int .u8 r, .int .u8 g, .int .u8 b, .int .u16 d]

def SmpPost (a b c : Cor) (area x y : Int) (w : World) (e : Ending) (w' : World) : Prop :=
  ((covB a b c x y = false ∧ ∃ v, e = .returned (.tuple #[v, .bool false]) ∧ v = smpV 0 0 0 0 0 0) ∨
    (covB a b c x y = true ∧ e = .returned (.tuple #[smpV x y (pix a b c area x y).r (pix a b c area x y).g (pix a b c area x y).b (pix a b c area x y).d, .bool true]))) ∧ Below w.heap.size w w'

/-- While a sample's colours are reckoned: S is its block, j of them are there. -/
structure SmpInv (q : Nat) (a b c : Cor) (area : Int) (front : Fr) (x y u v w' r g bl d : Int) (w : World) (P S : Nat) (j : Nat) (wr : World) : Prop where
  hq : wr.heap[q]? = some (.cells (trc a b c area front) 165 (0, 0))
  res : wr.heap[w.heap.size]? = some (.cells #[.int .i64 0, .int .i64 0, .int .u8 0, .int .u8 0, .int .u8 0, .int .u16 0] 226 (0, 0))
  pt : wr.heap[P]? = some (.cells #[.int .i64 u, .int .i64 v, .int .i64 w'] 243 (0, 0))
  sm : wr.heap[S]? = some (.cells #[.int .i64 x, .int .i64 y, .int .u8 (if 0 < j then r else 0), .int .u8 (if 1 < j then g else 0), .int .u8 (if 2 < j then bl else 0), .int .u16 d] 226 (0, 0))
  bel : Below w.heap.size w wr

set_option maxRecDepth 100000 in
set_option maxHeartbeats 1000000 in
theorem sample_any (q : Nat) (a b c : Cor) (area : Int) (front : Fr) (x y : Int) (w : World) (hq : w.heap[q]? = some (.cells (trc a b c area front) 165 (0, 0)))
    (ha : a.Ok) (hb : b.Ok) (hc : c.Ok) (harea : edge a b c.x c.y = area) (hpos : 0 < area) (x0 : 0 ≤ x) (x1 : x < 24) (y0 : 0 ≤ y) (y1 : y < 24) :
    Calls Tryz.prog 128 #[.pointer (some ⟨q, 0, none⟩), .int .i64 x, .int .i64 y] w (SmpPost a b c area x y w) := by
  have lt := lt_of_heap hq
  have hmid := fun w' => middle_any x y w' (by omega) (by omega) (by omega) (by omega)
  have hwt := fun (w' : World) (h : w'.heap[q]? = some (.cells (trc a b c area front) 165 (0, 0))) => weights_any q a b c area front (16 * x + 8) (16 * y + 8) w' h ha hb hc (by omega) (by omega) (by omega) (by omega)
  have HM : Hid (∀ w', Calls Tryz.prog 121 #[.int .i64 x, .int .i64 y] w' fun e w'' => e = .returned (.agg #[.int .i64 (16 * x + 8), .int .i64 (16 * y + 8)]) ∧ Below w'.heap.size w' w'') := hmid
  have HW : Hid (∀ w' : World, w'.heap[q]? = some (.cells (trc a b c area front) 165 (0, 0)) → Calls Tryz.prog 143 #[.pointer (some ⟨q, 0, none⟩), .agg #[.int .i64 (16 * x + 8), .int .i64 (16 * y + 8)]] w' (WtPost a b c (16 * x + 8) (16 * y + 8) w')) := hwt
  have HQ : Hid (w.heap[q]? = some (.cells (trc a b c area front) 165 (0, 0))) := hq
  clear hmid hwt hq
  go_enter Tryz.func128, Tryz.ntmps128
  go_wp2_with fail
  refine (HM.out _).mono ?_
  rintro e w1 ⟨rfl, hb1⟩
  have hr1 : w1.heap[w.heap.size]? = some (.cells #[.int .i64 0, .int .i64 0, .int .u8 0, .int .u8 0, .int .u8 0, .int .u16 0] 226 (0, 0)) := (hb1.block _ (by simp)).trans (heap_alloc_new _ _)
  have bel1 : Below w.heap.size w w1 := below1.trans (hb1.mono (by simp))
  have hq1 : w1.heap[q]? = some (.cells (trc a b c area front) 165 (0, 0)) := (bel1.block _ lt).trans HQ.out
  clear hb1
  go_wp2_with fail
  refine (HW.out _ hq1).mono ?_
  rintro e w2 ⟨⟨p0, p1, p2, cov, rfl, hcov, hp⟩, hb2⟩
  have l1 := lt_of_heap hr1
  have hr2 := (hb2.block _ l1).trans hr1
  have hq2 := (hb2.block _ (lt_of_heap hq1)).trans hq1
  have bel2 : Below w.heap.size w w2 := bel1.trans (hb2.mono bel1.size)
  have hcv : cov = covB a b c x y := hcov
  clear hcov hr1 hq1 bel1 hb2 HM HW HQ
  cases cov
  · clear hp
    have cr := cell_of hr2
    have fr := frozen_of hr2
    have l2 := lt_of_heap hr2
    have HC : Hid (covB a b c x y = false) := hcv.symm
    have HR : Hid (w2.heap[w.heap.size]? = some (.cells #[.int .i64 0, .int .i64 0, .int .u8 0, .int .u8 0, .int .u8 0, .int .u16 0] 226 (0, 0))) := hr2
    clear hcv hr2
    go_wp2_with fail
    have ca : ∀ (W : World) (ob : Obj) (o : Nat), W.heap.size = w2.heap.size → (W.alloc ob).cell? ⟨w.heap.size, o, none⟩ = W.cell? ⟨w.heap.size, o, none⟩ := fun W ob o h => World.cell?_alloc_past _ _ _ (by show w.heap.size < W.heap.size; omega)
    refine bodyPost_ret (v := .tuple #[smpV 0 0 0 0 0 0, .bool false]) (by simp [results, Tryz.results128, go_sem, ca, cr]) rfl ?_
    refine ⟨.inl ⟨HC.out, _, rfl, rfl⟩, ?_⟩
    repeat (first | with_reducible exact bel2 | (with_reducible refine Below.alloc ?_ (by first | exact Nat.le_of_lt l2 | (simp only [hs_set]; omega)) _) | (with_reducible refine Below.setCell ?_ (by first | exact Nat.le_refl _ | (show w.heap.size ≤ w2.heap.size; omega)) _))
  · obtain ⟨rfl, rfl, rfl⟩ := hp rfl
    have hcb : covB a b c x y = true := hcv.symm
    have hok := pix_ok a b c area x y ha hb hc harea hpos hcb
    obtain ⟨n1, n2, n3⟩ := cov_parts hcb
    have b1 := edge_bound b c (16 * x + 8) (16 * y + 8) hb hc (by omega) (by omega) (by omega) (by omega)
    have b2 := edge_bound c a (16 * x + 8) (16 * y + 8) hc ha (by omega) (by omega) (by omega) (by omega)
    have b3 := edge_bound a b (16 * x + 8) (16 * y + 8) ha hb (by omega) (by omega) (by omega) (by omega)
    have hd : pix a b c area x y = mix a b c area (edge b c (16 * x + 8) (16 * y + 8)) (edge c a (16 * x + 8) (16 * y + 8)) (edge a b (16 * x + 8) (16 * y + 8)) := rfl
    generalize edge b c (16 * x + 8) (16 * y + 8) = u at *
    generalize edge c a (16 * x + 8) (16 * y + 8) = v at *
    generalize edge a b (16 * x + 8) (16 * y + 8) = w' at *
    have m0 := mean_room u v w' a.r b.r c.r n1 b1.2 n2 b2.2 n3 b3.2 ha.r0 (by have := ha.r1; omega) hb.r0 (by have := hb.r1; omega) hc.r0 (by have := hc.r1; omega)
    have m1 := mean_room u v w' a.g b.g c.g n1 b1.2 n2 b2.2 n3 b3.2 ha.g0 (by have := ha.g1; omega) hb.g0 (by have := hb.g1; omega) hc.g0 (by have := hc.g1; omega)
    have m2 := mean_room u v w' a.b b.b c.b n1 b1.2 n2 b2.2 n3 b3.2 ha.b0 (by have := ha.b1; omega) hb.b0 (by have := hb.b1; omega) hc.b0 (by have := hc.b1; omega)
    have m3 := mean_room u v w' a.d b.d c.d n1 b1.2 n2 b2.2 n3 b3.2 ha.d0 ha.d1 hb.d0 hb.d1 hc.d0 hc.d1
    have HB0 : Hid (∀ w3 : World, w3.heap[q]? = some (.cells (trc a b c area front) 165 (0, 0)) → Calls Tryz.prog 144 #[.pointer (some ⟨q, 0, none⟩), .agg #[.int .i64 u, .int .i64 v, .int .i64 w'], .int .i64 0] w3 fun e w4 => e = .returned (.int .i64 (pix a b c area x y).r) ∧ Below w3.heap.size w3 w4) := by
      intro w3 h3; rw [hd]; exact between_any q a b c area front u v w' 0 a.r b.r c.r w3 h3 (.inl ⟨rfl, rfl, rfl, rfl⟩) hpos m0.1 m0.2.1 m0.2.2
    have HB1 : Hid (∀ w3 : World, w3.heap[q]? = some (.cells (trc a b c area front) 165 (0, 0)) → Calls Tryz.prog 144 #[.pointer (some ⟨q, 0, none⟩), .agg #[.int .i64 u, .int .i64 v, .int .i64 w'], .int .i64 1] w3 fun e w4 => e = .returned (.int .i64 (pix a b c area x y).g) ∧ Below w3.heap.size w3 w4) := by
      intro w3 h3; rw [hd]; exact between_any q a b c area front u v w' 1 a.g b.g c.g w3 h3 (.inr (.inl ⟨rfl, rfl, rfl, rfl⟩)) hpos m1.1 m1.2.1 m1.2.2
    have HB2 : Hid (∀ w3 : World, w3.heap[q]? = some (.cells (trc a b c area front) 165 (0, 0)) → Calls Tryz.prog 144 #[.pointer (some ⟨q, 0, none⟩), .agg #[.int .i64 u, .int .i64 v, .int .i64 w'], .int .i64 2] w3 fun e w4 => e = .returned (.int .i64 (pix a b c area x y).b) ∧ Below w3.heap.size w3 w4) := by
      intro w3 h3; rw [hd]; exact between_any q a b c area front u v w' 2 a.b b.b c.b w3 h3 (.inr (.inr (.inl ⟨rfl, rfl, rfl, rfl⟩))) hpos m2.1 m2.2.1 m2.2.2
    have HB3 : Hid (∀ w3 : World, w3.heap[q]? = some (.cells (trc a b c area front) 165 (0, 0)) → Calls Tryz.prog 144 #[.pointer (some ⟨q, 0, none⟩), .agg #[.int .i64 u, .int .i64 v, .int .i64 w'], .int .i64 3] w3 fun e w4 => e = .returned (.int .i64 (pix a b c area x y).d) ∧ Below w3.heap.size w3 w4) := by
      intro w3 h3; rw [hd]; exact between_any q a b c area front u v w' 3 a.d b.d c.d w3 h3 (.inr (.inr (.inr ⟨rfl, rfl, rfl, rfl⟩))) hpos m3.1 m3.2.1 m3.2.2
    have HC : Hid (covB a b c x y = true ∧ ∀ w3, Below w.heap.size w w3 → SmpPost a b c area x y w (.returned (.tuple #[smpV x y (pix a b c area x y).r (pix a b c area x y).g (pix a b c area x y).b (pix a b c area x y).d, .bool true])) w3) :=
      ⟨hcb, fun w3 h3 => ⟨.inr ⟨hcb, rfl⟩, h3⟩⟩
    have wr8 : IntKind.u8.wrap (pix a b c area x y).r = (pix a b c area x y).r := k8 ⟨hok.r0, hok.r1⟩
    have wg8 : IntKind.u8.wrap (pix a b c area x y).g = (pix a b c area x y).g := k8 ⟨hok.g0, hok.g1⟩
    have wb8 : IntKind.u8.wrap (pix a b c area x y).b = (pix a b c area x y).b := k8 ⟨hok.b0, hok.b1⟩
    have wd16 : IntKind.u16.wrap (pix a b c area x y).d = (pix a b c area x y).d := IntWalk.u16_in _ ⟨hok.d0, hok.d1⟩
    generalize (pix a b c area x y).r = R at *
    generalize (pix a b c area x y).g = G at *
    generalize (pix a b c area x y).b = B at *
    generalize (pix a b c area x y).d = Z at *
    clear m0 m1 m2 m3 hd hok b1 b2 b3 n1 n2 n3 hcb hcv hp ha hb hc harea
    have l2 := lt_of_heap hr2
    have HQ2 : Hid (∀ ob, (w2.alloc ob).heap[q]? = some (.cells (trc a b c area front) 165 (0, 0))) := fun ob => (heap_alloc_old (by omega) ob).trans hq2
    have HR2 : Hid (w2.heap[w.heap.size]? = some (.cells #[.int .i64 0, .int .i64 0, .int .u8 0, .int .u8 0, .int .u8 0, .int .u16 0] 226 (0, 0))) := hr2
    clear hq2 hr2
    go_wp2_with fail
    refine (HB3.out _ (HQ2.out _)).mono ?_
    rintro e w3 ⟨rfl, hb3⟩
    have hs3 := hb3.size
    have hp3 : w3.heap[w2.heap.size]? = some (.cells #[.int .i64 u, .int .i64 v, .int .i64 w'] 243 (0, 0)) := (hb3.block _ (by simp)).trans (heap_alloc_new _ _)
    have hr3 : w3.heap[w.heap.size]? = some (.cells #[.int .i64 0, .int .i64 0, .int .u8 0, .int .u8 0, .int .u8 0, .int .u16 0] 226 (0, 0)) := (hb3.block _ (by simp; omega)).trans ((heap_alloc_old l2 _).trans HR2.out)
    have hq3 : w3.heap[q]? = some (.cells (trc a b c area front) 165 (0, 0)) := (hb3.block _ (by simp; omega)).trans (HQ2.out _)
    have bel3 : Below w.heap.size w w3 := (bel2.alloc (Nat.le_of_lt l2) _).trans (hb3.mono (by simp; omega))
    have l3 := lt_of_heap hp3
    have HI : Hid (SmpInv q a b c area front x y u v w' R G B Z w w2.heap.size w3.heap.size 0 (w3.alloc (.cells #[.int .i64 x, .int .i64 y, .int .u8 0, .int .u8 0, .int .u8 0, .int .u16 Z] 226))) :=
      ⟨(heap_alloc_old (by omega) _).trans hq3, (heap_alloc_old (by omega) _).trans hr3, (heap_alloc_old l3 _).trans hp3, heap_alloc_new _ _, bel3.alloc (by omega) _⟩
    clear hb3 hp3 hr3 hq3 bel3 hs3
    go_wp2_with fail
    go_loopg [30] 3 (fun m i wr => ∃ j : Nat, j + m = 3 ∧ i = .int .i64 j ∧ SmpInv q a b c area front x y u v w' R G B Z w w2.heap.size w3.heap.size j wr)
    case atStart => exact ⟨0, rfl, rfl, HI.out⟩
    case round =>
      obtain ⟨j, hj, rfl, hI⟩ := hrel
      have hj' : j = 0 ∨ j = 1 ∨ j = 2 ∨ j = 3 := by omega
      clear HI
      rcases hj' with rfl | rfl | rfl | rfl
      · obtain rfl : gk = 3 := by omega
        have cP := cell_of hI.pt
        have HIq : Hid (wr.heap[q]? = some (.cells (trc a b c area front) 165 (0, 0))) := hI.hq
        have HIh : Hid (SmpInv q a b c area front x y u v w' R G B Z w w2.heap.size w3.heap.size 0 wr) := hI
        clear hI
        go_wp2_with fail
        refine (HB0.out _ HIq.out).mono ?_
        rintro e w4 ⟨rfl, hb4⟩
        have hS4 : w4.heap[w3.heap.size]? = some (.cells #[.int .i64 x, .int .i64 y, .int .u8 0, .int .u8 0, .int .u8 0, .int .u16 Z] 226 (0, 0)) := (hb4.block _ (lt_of_heap HIh.out.sm)).trans (by simpa using HIh.out.sm)
        have cS := cell_of hS4
        have fS := frozen_of hS4
        have HN : Hid (SmpInv q a b c area front x y u v w' R G B Z w w2.heap.size w3.heap.size 1 (w4.setCell ⟨w3.heap.size, 2, none⟩ (.int .u8 R))) := by
          have h := HIh.out
          refine ⟨?_, ?_, ?_, ?_, ?_⟩
          · rw [heap_set_ne (by omega)]; exact (hb4.block _ (lt_of_heap h.hq)).trans h.hq
          · rw [heap_set_ne (by omega)]; exact (hb4.block _ (lt_of_heap h.res)).trans h.res
          · rw [heap_set_ne (by omega)]; exact (hb4.block _ (lt_of_heap h.pt)).trans h.pt
          · rw [heap_set_same hS4]; simp
          · exact (h.bel.trans (hb4.mono h.bel.size)).setCell (by show w.heap.size ≤ w3.heap.size; omega) _
        clear hS4 hb4 HIh HIq
        go_wp2_with fail
        go_roundg 2
        case rel => exact ⟨1, by omega, by go_num, HN.out⟩
        case measure => omega
      · obtain rfl : gk = 2 := by omega
        have cP := cell_of hI.pt
        have HIq : Hid (wr.heap[q]? = some (.cells (trc a b c area front) 165 (0, 0))) := hI.hq
        have HIh : Hid (SmpInv q a b c area front x y u v w' R G B Z w w2.heap.size w3.heap.size 1 wr) := hI
        clear hI
        go_wp2_with fail
        refine (HB1.out _ HIq.out).mono ?_
        rintro e w4 ⟨rfl, hb4⟩
        have hS4 : w4.heap[w3.heap.size]? = some (.cells #[.int .i64 x, .int .i64 y, .int .u8 R, .int .u8 0, .int .u8 0, .int .u16 Z] 226 (0, 0)) := (hb4.block _ (lt_of_heap HIh.out.sm)).trans (by simpa using HIh.out.sm)
        have cS := cell_of hS4
        have fS := frozen_of hS4
        have HN : Hid (SmpInv q a b c area front x y u v w' R G B Z w w2.heap.size w3.heap.size 2 (w4.setCell ⟨w3.heap.size, 3, none⟩ (.int .u8 G))) := by
          have h := HIh.out
          refine ⟨?_, ?_, ?_, ?_, ?_⟩
          · rw [heap_set_ne (by omega)]; exact (hb4.block _ (lt_of_heap h.hq)).trans h.hq
          · rw [heap_set_ne (by omega)]; exact (hb4.block _ (lt_of_heap h.res)).trans h.res
          · rw [heap_set_ne (by omega)]; exact (hb4.block _ (lt_of_heap h.pt)).trans h.pt
          · rw [heap_set_same hS4]; simp
          · exact (h.bel.trans (hb4.mono h.bel.size)).setCell (by show w.heap.size ≤ w3.heap.size; omega) _
        clear hS4 hb4 HIh HIq
        go_wp2_with fail
        go_roundg 1
        case rel => exact ⟨2, by omega, by go_num, HN.out⟩
        case measure => omega
      · obtain rfl : gk = 1 := by omega
        have cP := cell_of hI.pt
        have HIq : Hid (wr.heap[q]? = some (.cells (trc a b c area front) 165 (0, 0))) := hI.hq
        have HIh : Hid (SmpInv q a b c area front x y u v w' R G B Z w w2.heap.size w3.heap.size 2 wr) := hI
        clear hI
        go_wp2_with fail
        refine (HB2.out _ HIq.out).mono ?_
        rintro e w4 ⟨rfl, hb4⟩
        have hS4 : w4.heap[w3.heap.size]? = some (.cells #[.int .i64 x, .int .i64 y, .int .u8 R, .int .u8 G, .int .u8 0, .int .u16 Z] 226 (0, 0)) := (hb4.block _ (lt_of_heap HIh.out.sm)).trans (by simpa using HIh.out.sm)
        have cS := cell_of hS4
        have fS := frozen_of hS4
        have HN : Hid (SmpInv q a b c area front x y u v w' R G B Z w w2.heap.size w3.heap.size 3 (w4.setCell ⟨w3.heap.size, 4, none⟩ (.int .u8 B))) := by
          have h := HIh.out
          refine ⟨?_, ?_, ?_, ?_, ?_⟩
          · rw [heap_set_ne (by omega)]; exact (hb4.block _ (lt_of_heap h.hq)).trans h.hq
          · rw [heap_set_ne (by omega)]; exact (hb4.block _ (lt_of_heap h.res)).trans h.res
          · rw [heap_set_ne (by omega)]; exact (hb4.block _ (lt_of_heap h.pt)).trans h.pt
          · rw [heap_set_same hS4]; simp
          · exact (h.bel.trans (hb4.mono h.bel.size)).setCell (by show w.heap.size ≤ w3.heap.size; omega) _
        clear hS4 hb4 HIh HIq
        go_wp2_with fail
        go_roundg 0
        case rel => exact ⟨3, by omega, by go_num, HN.out⟩
        case measure => omega
      · obtain rfl : gk = 0 := by omega
        have cS := cell_of hI.sm
        have cR := cell_of hI.res
        have fR := frozen_of hI.res
        have bel := hI.bel
        simp at cS
        clear hI
        have hne : w3.heap.size ≠ w.heap.size := by omega
        go_wp2_with fail
        refine bodyPost_ret (v := .tuple #[smpV x y R G B Z, .bool true]) (by simp [results, Tryz.results128, go_sem, cR]) rfl ?_
        refine HC.out.2 _ ?_
        repeat (first | with_reducible exact bel | (with_reducible refine Below.setCell ?_ (by exact Nat.le_refl _) _))
end Go.Proofs.YthcikinkicpicaaGreatDoor
