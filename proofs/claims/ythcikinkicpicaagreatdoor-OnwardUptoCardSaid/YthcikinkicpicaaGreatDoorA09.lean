import Derived.Test.YthcikinkicpicaaGreatDoorA37
import Derived.Test.YthcikinkicpicaaGreatDoorA03
import Derived.ChangeKeysEq
import Derived.Shelf.Abstract
import Derived.Shelf.RegionOpen
import Derived.WalkKit
import Derived.TacticsInMore
import Derived.LoopNIn
import Derived.LoopIn

namespace Go.Proofs.YthcikinkicpicaaGreatDoor
open Go.RowKit

set_option maxRecDepth 100000 in
set_option maxHeartbeats 1000000 in
theorem findC (p o tB n A X Y : Nat) (w : World) (ha : w.cell? ⟨p, o, none⟩ = some (.int .i64 A)) (ht : w.cell? ⟨p, o + 1, none⟩ = some (.slice (some ⟨tB, 0, none⟩) n n))
    (x1 : X < 24) (y1 : Y < 24) (a1 : A ≤ 6) (hn : tNo A X Y < n) (hn' : n ≤ 36) :
    Calls Tryz.prog 122 #[.pointer (some ⟨p, o, none⟩), .int .i64 X, .int .i64 Y] w fun e w' =>
      e = .returned (.tuple #[.pointer (some ⟨tB, tNo A X Y * 52, none⟩), .int .i64 (iNo X Y)]) ∧ Below w.heap.size w w' := by
  have hmul : Y / 4 * A ≤ 5 * 6 := Nat.mul_le_mul (by omega) a1
  have e1 : IntKind.i64.wrap ((Y : Int) / 4) = ((Y / 4 : Nat) : Int) := by rw [k64 (by omega)]; omega
  have e2 : IntKind.i64.wrap ((X : Int) / 4) = ((X / 4 : Nat) : Int) := by rw [k64 (by omega)]; omega
  have e3 : IntKind.i64.wrap (((Y / 4 : Nat) : Int) * (A : Int)) = ((Y / 4 * A : Nat) : Int) := by rw [← Int.natCast_mul]; exact k64 (by omega)
  have HL : Hid ((Y : Int) % 4 * 4 + (X : Int) % 4 = ((Y % 4 * 4 + X % 4 : Nat) : Int)) := by show _ = _; omega
  unfold tNo iNo at *
  generalize hqy : Y / 4 = qy at *
  generalize hqx : X / 4 = qx at *
  generalize hm : qy * A = m at *
  have e4 : IntKind.i64.wrap ((m : Int) + (qx : Int)) = ((m + qx : Nat) : Int) := by rw [← Int.natCast_add]; exact k64 (by omega)
  generalize hk : m + qx = k at *
  have i1 : (k : Int) < (n : Int) := by omega
  clear hqy hqx hm hmul hk
  go_enter Tryz.func122, Tryz.ntmps122
  go_wp2_with fail
  go_quiet (fail)
  go_wp2
  refine bodyPost_ret (v := .tuple #[.pointer (some ⟨tB, k * 52, none⟩), .int .i64 ((Y : Int) % 4 * 4 + (X : Int) % 4)]) (by simp [results, Tryz.results122, go_sem]) rfl ?_
  exact ⟨by rw [HL.out], (Below.refl _ _).drewN' nq⟩

set_option maxRecDepth 100000 in
set_option maxHeartbeats 1000000 in
theorem atC (p o tB n A X Y : Nat) (f : Nat → Nat → Col) (w : World) (hS : SurfC w p o tB A n 196 f)
    (x1 : X < 24) (y1 : Y < 24) (a1 : A ≤ 6) (hn : tNo A X Y < n) (hn' : n ≤ 36) :
    Calls Tryz.prog 95 #[.pointer (some ⟨p, o, none⟩), .int .i64 X, .int .i64 Y] w fun e w' =>
      e = .returned (f (tNo A X Y) (iNo X Y)).v ∧ Below w.heap.size w w' := by
  obtain ⟨cur, hb, hc⟩ := hS.blk
  obtain ⟨m, a, c0, c1, hm, hp⟩ := hc.at_ _ hn
  obtain ⟨v, c2, hv⟩ := hp _ (iNo_lt X Y)
  have hi := iNo_lt X Y
  have hpp : p < w.heap.size := World.block_lt_of_cell? w ⟨p, o + 1, none⟩ hS.hT
  have hf := fun (w0 : World) (hb0 : Below w.heap.size w w0) => findC p o tB n A X Y w0 ((hb0.cell (p := ⟨p, o, none⟩) hpp).trans hS.hA) ((hb0.cell (p := ⟨p, o + 1, none⟩) hpp).trans hS.hT) x1 y1 a1 hn hn'
  have hm' := fun h => hm h _ hi
  generalize f (tNo A X Y) (iNo X Y) = r at *
  generalize tNo A X Y = t at *
  generalize iNo X Y = i at *
  have cc := cell_of hb
  have d0 := (cc (t * 52)).trans c0
  have d1 := (cc (t * 52 + 1)).trans c1.1
  have d1b := (cc (t * 52 + 1 + 1)).trans c1.2.1
  have d1c := (cc (t * 52 + 1 + 2)).trans c1.2.2
  have d2 := (cc (t * 52 + 4 + i * 3)).trans c2.1
  have d2b := (cc (t * 52 + 4 + i * 3 + 1)).trans c2.2.1
  have d2c := (cc (t * 52 + 4 + i * 3 + 2)).trans c2.2.2
  clear cc c0 c1 c2 hm hp hS
  have HF : Hid (∀ w0, Below w.heap.size w w0 → Calls Tryz.prog 122 #[.pointer (some ⟨p, o, none⟩), .int .i64 X, .int .i64 Y] w0 fun e w' => e = .returned (.tuple #[.pointer (some ⟨tB, t * 52, none⟩), .int .i64 i]) ∧ Below w0.heap.size w0 w') := hf
  clear hf
  have lt := lt_of_heap hb
  have i1 : (i : Int) < 16 := by omega
  go_enter Tryz.func95, Tryz.ntmps95
  go_wp2_with fail
  refine (HF.out _ ?_).mono ?_
  · exact below1
  rintro e w1 ⟨rfl, hb1⟩
  have hr : w1.heap[w.heap.size]? = some (.cells #[.int .u8 0, .int .u8 0, .int .u8 0] 120 (0, 0)) := (hb1.block _ (by simp)).trans (heap_alloc_new _ _)
  have hb2 : Below w.heap.size w w1 := below1.trans (hb1.mono (by simp))
  have k0 := (hb2.cell (p := ⟨tB, t * 52, none⟩) lt).trans d0
  have k1 := (hb2.cell (p := ⟨tB, t * 52 + 1, none⟩) lt).trans d1
  have k1b := (hb2.cell (p := ⟨tB, t * 52 + 1 + 1, none⟩) lt).trans d1b
  have k1c := (hb2.cell (p := ⟨tB, t * 52 + 1 + 2, none⟩) lt).trans d1c
  have k2 := (hb2.cell (p := ⟨tB, t * 52 + 4 + i * 3, none⟩) lt).trans d2
  have k2b := (hb2.cell (p := ⟨tB, t * 52 + 4 + i * 3 + 1, none⟩) lt).trans d2b
  have k2c := (hb2.cell (p := ⟨tB, t * 52 + 4 + i * 3 + 2, none⟩) lt).trans d2c
  have cr := cell_of hr
  have fr := frozen_of hr
  have hne : tB ≠ w.heap.size := by omega
  clear hb1 hr
  cases m
  · have hv' := hv rfl
    subst hv'
    go_wp2
    refine bodyPost_ret (v := v.v) (by simp [results, Tryz.results95, go_sem, cr]) rfl ?_
    exact ⟨rfl, ((hb2.setCell (Nat.le_refl _) _).setCell (Nat.le_refl _) _).setCell (Nat.le_refl _) _⟩
  · have ha' := hm' rfl
    subst ha'
    go_wp2
    refine bodyPost_ret (v := a.v) (by simp [results, Tryz.results95, go_sem, cr]) rfl ?_
    exact ⟨rfl, ((hb2.setCell (Nat.le_refl _) _).setCell (Nat.le_refl _) _).setCell (Nat.le_refl _) _⟩

set_option maxRecDepth 100000 in
set_option maxHeartbeats 1000000 in
theorem markC (tB n t : Nat) (a : Col) (cur : Array Value) (w : World) (hb : w.heap[tB]? = some (.cells cur 196 (0, 0))) (hsz : cur.size = n * 52) (ht : t < n) :
    Calls Tryz.prog 75 #[.pointer (some ⟨tB, t * 52, none⟩), a.v] w fun e w' =>
      e = .returned (.tuple #[]) ∧ w'.heap[tB]? = some (.cells (set3 (cur.setIfInBounds (t * 52) (.bool true)) (t * 52 + 1) a) 196 (0, 0)) ∧ Kept (· = tB) w w' := by
  have lt := lt_of_heap hb
  have cc := cell_of hb
  have fz := frozen_of hb
  obtain ⟨u0, c0⟩ : ∃ u, w.cell? ⟨tB, t * 52, none⟩ = some u := ⟨_, by rw [cc]; exact Array.getElem?_eq_getElem (by omega)⟩
  obtain ⟨u1, c1⟩ : ∃ u, w.cell? ⟨tB, t * 52 + 1, none⟩ = some u := ⟨_, by rw [cc]; exact Array.getElem?_eq_getElem (by omega)⟩
  obtain ⟨u2, c2⟩ : ∃ u, w.cell? ⟨tB, t * 52 + 1 + 1, none⟩ = some u := ⟨_, by rw [cc]; exact Array.getElem?_eq_getElem (by omega)⟩
  obtain ⟨u3, c3⟩ : ∃ u, w.cell? ⟨tB, t * 52 + 1 + 2, none⟩ = some u := ⟨_, by rw [cc]; exact Array.getElem?_eq_getElem (by omega)⟩
  have hne : tB ≠ w.heap.size := by omega
  clear cc
  unfold Col.v
  go_enter Tryz.func75, Tryz.ntmps75
  go_wp2
  go_end0
  refine ⟨rfl, ?_, (((kept_set1 tB _ _).trans (kept_set1 tB _ _)).trans ((kept_set1 tB _ _).trans (kept_set1 tB _ _))).alloc _⟩
  rw [heap_alloc_old (by simp only [hs_set]; exact lt)]
  exact heap_set_same (heap_set_same (heap_set_same (heap_set_same hb _ _) _ _) _ _) _ _

set_option maxRecDepth 100000 in
set_option maxHeartbeats 1000000 in
theorem fillC (tB n t : Nat) (a : Col) (cur : Array Value) (w : World) (hb : w.heap[tB]? = some (.cells cur 196 (0, 0))) (hsz : cur.size = n * 52) (ht : t < n) :
    Calls Tryz.prog 110 #[.pointer (some ⟨tB, t * 52, none⟩), a.v] w fun e w' =>
      e = .returned (.tuple #[]) ∧ (∃ cur', w'.heap[tB]? = some (.cells cur' 196 (0, 0)) ∧ FillC cur cur' t 16 a) ∧ Kept (· = tB) w w' := by
  have lt := lt_of_heap hb
  have cc := cell_of hb
  have fz := frozen_of hb
  obtain ⟨u0, c0⟩ : ∃ u, w.cell? ⟨tB, t * 52, none⟩ = some u := ⟨_, by rw [cc]; exact Array.getElem?_eq_getElem (by omega)⟩
  have H0 : Hid (FillC cur (cur.setIfInBounds (t * 52) (.bool false)) t 0 a) := FillC.zero _ (by omega)
  have hB : w.heap[tB]? = some (.cells cur 196 (0, 0)) := hb
  have HB : Hid (((w.setCell ⟨tB, t * 52, none⟩ (.bool false)).alloc (.cells #[.int .u8 a.r, .int .u8 a.g, .int .u8 a.b] 120)).heap[tB]? = some (.cells (cur.setIfInBounds (t * 52) (.bool false)) 196 (0, 0))) := by
    show _ = _
    rw [heap_alloc_old (by simp only [hs_set]; exact lt)]; exact heap_set_same hb _ _
  have HX : Hid (((w.setCell ⟨tB, t * 52, none⟩ (.bool false)).alloc (.cells #[.int .u8 a.r, .int .u8 a.g, .int .u8 a.b] 120)).heap[w.heap.size]? = some (.cells #[.int .u8 a.r, .int .u8 a.g, .int .u8 a.b] 120 (0, 0))) := heap_alloc_at (by simp only [hs_set]) _
  have HK : Hid (Kept (· = tB) w ((w.setCell ⟨tB, t * 52, none⟩ (.bool false)).alloc (.cells #[.int .u8 a.r, .int .u8 a.g, .int .u8 a.b] 120))) := (kept_set1 tB _ _).alloc _
  have HS : Hid (t * 52 + 52 ≤ cur.size) := by show _ ≤ _; omega
  have hne : tB ≠ w.heap.size := by omega
  clear cc hb hsz hB
  unfold Col.v
  go_enter Tryz.func110, Tryz.ntmps110
  go_wp2_with fail
  go_loopg [8] 16 (fun m i wr => ∃ k : Nat, k + m = 16 ∧ i = .int .i64 k ∧ wr.heap[w.heap.size]? = some (.cells #[.int .u8 a.r, .int .u8 a.g, .int .u8 a.b] 120 (0, 0)) ∧ (∃ cur', wr.heap[tB]? = some (.cells cur' 196 (0, 0)) ∧ FillC cur cur' t k a) ∧ Kept (· = tB) w wr)
  case atStart => exact ⟨0, rfl, rfl, HX.out, ⟨_, HB.out, H0.out⟩, HK.out⟩
  case round =>
    obtain ⟨k, hk, rfl, hbox, ⟨cur', hb', hF⟩, hkept⟩ := hrel
    have hS := HS.out
    by_cases hlt : k < 16
    · obtain ⟨n', rfl⟩ : ∃ n', gk = n' + 1 := ⟨gk - 1, by omega⟩
      have fz' := frozen_of hb'
      have cb := cell_of hbox
      obtain ⟨u1, c1⟩ : ∃ u, wr.cell? ⟨tB, t * 52 + 4 + k * 3, none⟩ = some u := ⟨_, by rw [cell_of hb']; exact Array.getElem?_eq_getElem (by rw [hF.sz]; omega)⟩
      obtain ⟨u2, c2⟩ : ∃ u, wr.cell? ⟨tB, t * 52 + 4 + k * 3 + 1, none⟩ = some u := ⟨_, by rw [cell_of hb']; exact Array.getElem?_eq_getElem (by rw [hF.sz]; omega)⟩
      obtain ⟨u3, c3⟩ : ∃ u, wr.cell? ⟨tB, t * 52 + 4 + k * 3 + 2, none⟩ = some u := ⟨_, by rw [cell_of hb']; exact Array.getElem?_eq_getElem (by rw [hF.sz]; omega)⟩
      have i1 : (k : Int) < 16 := by omega
      have HR : Hid (((((wr.setCell ⟨tB, t * 52 + 4 + k * 3, none⟩ (.int .u8 a.r)).setCell ⟨tB, t * 52 + 4 + k * 3 + 1, none⟩ (.int .u8 a.g)).setCell ⟨tB, t * 52 + 4 + k * 3 + 2, none⟩ (.int .u8 a.b))).heap[w.heap.size]? = some (.cells #[.int .u8 a.r, .int .u8 a.g, .int .u8 a.b] 120 (0, 0)) ∧
        ((((wr.setCell ⟨tB, t * 52 + 4 + k * 3, none⟩ (.int .u8 a.r)).setCell ⟨tB, t * 52 + 4 + k * 3 + 1, none⟩ (.int .u8 a.g)).setCell ⟨tB, t * 52 + 4 + k * 3 + 2, none⟩ (.int .u8 a.b))).heap[tB]? = some (.cells (set3 cur' (t * 52 + 4 + k * 3) a) 196 (0, 0)) ∧
        Kept (· = tB) w (((wr.setCell ⟨tB, t * 52 + 4 + k * 3, none⟩ (.int .u8 a.r)).setCell ⟨tB, t * 52 + 4 + k * 3 + 1, none⟩ (.int .u8 a.g)).setCell ⟨tB, t * 52 + 4 + k * 3 + 2, none⟩ (.int .u8 a.b))) := by
        refine ⟨?_, heap_set_same (heap_set_same (heap_set_same hb' _ _) _ _) _ _, hkept.trans ((kept_set1 tB _ _).trans ((kept_set1 tB _ _).trans (kept_set1 tB _ _)))⟩
        rw [heap_set_ne (by omega), heap_set_ne (by omega), heap_set_ne (by omega)]; exact hbox
      have HF : Hid (FillC cur (set3 cur' (t * 52 + 4 + k * 3) a) t (k + 1) a) := hF.succ (by omega)
      clear hF hb' hbox hkept
      go_wp2_with fail
      go_region
      all_goals
        go_wp2_with fail
        go_roundg n'
        case rel =>
          go_light
          exact ⟨k + 1, by omega, by go_num, HR.out.1, ⟨_, HR.out.2.1, HF.out⟩, HR.out.2.2.drew⟩
        case measure => omega
    · have hg0 : gk = 0 := by omega
      subst hg0
      have hk16 : k = 16 := by omega
      subst hk16
      go_wp2_with fail
      go_end0
      exact ⟨rfl, ⟨cur', hb', hF⟩, hkept⟩
end Go.Proofs.YthcikinkicpicaaGreatDoor

namespace Go.Proofs.YthcikinkicpicaaGreatDoor
open Go.RowKit

theorem Tryz.infoU8 : (Tryz.prog.info? 5).isSome = true := by kernel_rfl
theorem Tryz.cellsU8 : Tryz.prog.cellsOf 5 = 1 := by kernel_rfl
theorem Tryz.plainU8 : Tryz.prog.plainKey 5 = true := by kernel_rfl

theorem col_eq (a b : Col) (w : World) : Sem.run Tryz.prog (Op.equalIn 10000 120 a.v b.v) w = .ok (a.r == b.r && (a.g == b.g && a.b == b.b)) w := by
  obtain ⟨i, hi⟩ := Option.isSome_iff_exists.1 Tryz.infoU8
  have hp := Tryz.plainU8
  have hu := Tryz.underlying5
  have p0 : ∀ c : Col, (part 5 #[.int .u8 c.r, .int .u8 c.g, .int .u8 c.b] 0).run Tryz.prog w = .ok (.int .u8 c.r) w := fun c => run_part_plain _ hp rfl
  have p1 : ∀ c : Col, (part 5 #[.int .u8 c.r, .int .u8 c.g, .int .u8 c.b] 1).run Tryz.prog w = .ok (.int .u8 c.g) w := fun c => run_part_plain _ hp rfl
  have p2 : ∀ c : Col, (part 5 #[.int .u8 c.r, .int .u8 c.g, .int .u8 c.b] 2).run Tryz.prog w = .ok (.int .u8 c.b) w := fun c => run_part_plain _ hp rfl
  have q : ∀ x y : Int, (Op.equalIn 9999 5 (.int .u8 x) (.int .u8 y)).run Tryz.prog w = .ok (x == y) w := fun x y => run_equalIn_int w 9998 _ _ _ x y hu
  show Sem.run Tryz.prog (Op.equalIn (9999 + 1) 120 (.agg _) (.agg _)) w = _
  rw [run_equalIn_array w 9999 _ _ Tryz.underlying120 hi, Tryz.cellsU8]
  have hr : List.range 3 = [0, 1, 2] := rfl
  rw [hr]
  cases h1 : (a.r == b.r) <;> cases h2 : (a.g == b.g) <;> cases h3 : (a.b == b.b) <;> simp [Op.eqItems, Sem.run_bind, p0, p1, p2, q, h1, h2, h3]

theorem col_ne {a b : Col} (h : a ≠ b) : (a.r == b.r && (a.g == b.g && a.b == b.b)) = false := by
  rw [Bool.eq_false_iff]
  intro h'
  simp at h'
  apply h
  cases a; cases b
  simp_all


theorem put3_heap {w1 : World} {tB j : Nat} {cur : Array Value} {T : TypeId} (v : Col) (h : w1.heap[tB]? = some (.cells cur T (0, 0))) :
    (((w1.setCell ⟨tB, j, none⟩ (.int .u8 v.r)).setCell ⟨tB, j + 1, none⟩ (.int .u8 v.g)).setCell ⟨tB, j + 2, none⟩ (.int .u8 v.b)).heap[tB]? = some (.cells (set3 cur j v) T (0, 0)) :=
  heap_set_same (heap_set_same (heap_set_same h _ _) _ _) _ _
theorem put3_kept {w1 : World} {tB j : Nat} (v : Col) : Kept (· = tB) w1 (((w1.setCell ⟨tB, j, none⟩ (.int .u8 v.r)).setCell ⟨tB, j + 1, none⟩ (.int .u8 v.g)).setCell ⟨tB, j + 2, none⟩ (.int .u8 v.b)) :=
  (kept_set1 tB _ _).trans ((kept_set1 tB _ _).trans (kept_set1 tB _ _))

set_option maxRecDepth 100000 in
set_option maxHeartbeats 1000000 in
theorem setC (p o tB n A X Y : Nat) (f : Nat → Nat → Col) (v : Col) (w : World) (hS : SurfC w p o tB A n 196 f)
    (x1 : X < 24) (y1 : Y < 24) (a1 : A ≤ 6) (hn : tNo A X Y < n) (hn' : n ≤ 36) :
    Calls Tryz.prog 150 #[.pointer (some ⟨p, o, none⟩), .int .i64 X, .int .i64 Y, v.v] w fun e w' =>
      e = .returned (.tuple #[]) ∧ (∃ cur', w'.heap[tB]? = some (.cells cur' 196 (0, 0)) ∧ TilesC cur' n (updC f (tNo A X Y) (iNo X Y) v)) ∧ Kept (· = tB) w w' := by
  obtain ⟨cur, hb, hc⟩ := hS.blk
  obtain ⟨m, a, c0, c1, hm, hp⟩ := hc.at_ _ hn
  obtain ⟨v0, c2, hv⟩ := hp _ (iNo_lt X Y)
  have hi := iNo_lt X Y
  have hpp : p < w.heap.size := World.block_lt_of_cell? w ⟨p, o + 1, none⟩ hS.hT
  have hf := fun (w0 : World) (hb0 : Below w.heap.size w w0) => findC p o tB n A X Y w0 ((hb0.cell (p := ⟨p, o, none⟩) hpp).trans hS.hA) ((hb0.cell (p := ⟨p, o + 1, none⟩) hpp).trans hS.hT) x1 y1 a1 hn hn'
  generalize tNo A X Y = t at *
  generalize iNo X Y = i at *
  have hsz := hc.sz
  have lt := lt_of_heap hb
  have HF : Hid (∀ w0, Below w.heap.size w w0 → Calls Tryz.prog 122 #[.pointer (some ⟨p, o, none⟩), .int .i64 X, .int .i64 Y] w0 fun e w' => e = .returned (.tuple #[.pointer (some ⟨tB, t * 52, none⟩), .int .i64 i]) ∧ Below w0.heap.size w0 w') := hf
  clear hf hS hp
  have i1 : (i : Int) < 16 := by omega
  unfold Col.v
  go_enter Tryz.func150, Tryz.ntmps150
  go_wp2_with fail
  refine (HF.out _ below1).mono ?_
  rintro e w1 ⟨rfl, hb1⟩
  have hbox : w1.heap[w.heap.size]? = some (.cells #[.int .u8 v.r, .int .u8 v.g, .int .u8 v.b] 120 (0, 0)) := (hb1.block _ (by simp)).trans (heap_alloc_new _ _)
  have hb2 : Below w.heap.size w w1 := below1.trans (hb1.mono (by simp))
  have hbk : w1.heap[tB]? = some (.cells cur 196 (0, 0)) := (hb2.block tB lt).trans hb
  have hK1 : Kept (· = tB) w w1 := (Kept.refl _ w).below hb2
  have k0 := (cell_of hbk (t * 52)).trans c0
  have k1 := (cell_of hbk (t * 52 + 1)).trans c1.1
  have k1b := (cell_of hbk (t * 52 + 1 + 1)).trans c1.2.1
  have k1c := (cell_of hbk (t * 52 + 1 + 2)).trans c1.2.2
  have k2 := (cell_of hbk (t * 52 + 4 + i * 3)).trans c2.1
  have k2b := (cell_of hbk (t * 52 + 4 + i * 3 + 1)).trans c2.2.1
  have k2c := (cell_of hbk (t * 52 + 4 + i * 3 + 2)).trans c2.2.2
  have fz := frozen_of hbk
  have cb := cell_of hbox
  have hne : tB ≠ w.heap.size := by omega
  have HB : Hid (w1.heap[tB]? = some (.cells cur 196 (0, 0))) := hbk
  have HX : Hid (w1.heap[w.heap.size]? = some (.cells #[.int .u8 v.r, .int .u8 v.g, .int .u8 v.b] 120 (0, 0))) := hbox
  have HC0 : Hid (cur[t * 52]? = some (.bool m)) := c0
  clear hb hbk hb1 hb2 hbox c0 c1 c2 hv
  cases m
  · clear hm
    go_wp2_with fail
    go_region
    all_goals
      go_wp2_with fail
      go_end0
      exact ⟨rfl, ⟨_, put3_heap v HB.out, hc.put hn hi HC0.out v⟩, (hK1.trans (put3_kept v)).drew⟩
  · have HM : Hid (∀ i, i < 16 → a = f t i) := hm rfl
    clear hm
    by_cases hav : a = v
    · subst hav
      have heq := col_eq a a
      have hs : (a.r == a.r && (a.g == a.g && a.b == a.b)) = true := by simp
      rw [hs] at heq
      clear hs
      simp only [Col.v] at heq
      go_wp2_with fail
      go_region
      all_goals
        go_wp2_with fail
        refine bodyPost_ret (v := .tuple #[]) (by simp [results, Tryz.results150, go_sem]) rfl ?_
        refine ⟨rfl, ⟨cur, HB.out, hc.congr (fun t' ht' i' hi' => ?_)⟩, hK1.drew⟩
        unfold updC
        split
        · next h => obtain ⟨rfl, rfl⟩ := h; exact HM.out _ hi
        · rfl
    · have heq := col_eq a v
      rw [col_ne hav] at heq
      simp only [Col.v] at heq
      have HL : Hid (∀ w2, Kept (· = tB) w1 w2 → w2.heap[tB]? = some (.cells cur 196 (0, 0)) → Calls Tryz.prog 110 #[.pointer (some ⟨tB, t * 52, none⟩), .agg #[.int .u8 a.r, .int .u8 a.g, .int .u8 a.b]] w2 fun e w' =>
        e = .returned (.tuple #[]) ∧ (∃ cur', w'.heap[tB]? = some (.cells cur' 196 (0, 0)) ∧ FillC cur cur' t 16 a) ∧ Kept (· = tB) w2 w') := fun w2 _ hb2 => fillC tB n t a cur w2 hb2 hsz hn
      go_wp2_with fail
      go_region
      all_goals
        go_wp2_with fail
        refine (HL.out _ (Kept.refl _ _).drew HB.out).mono ?_
        rintro e w2 ⟨rfl, ⟨cur', hb2, hF⟩, hK2⟩
        have hT2 := (hF.tiles hc hn).1
        have c02 := (hF.tiles hc hn).2
        have fz2 := frozen_of hb2
        have hbx : w2.heap[w.heap.size]? = some (.cells #[.int .u8 v.r, .int .u8 v.g, .int .u8 v.b] 120 (0, 0)) := (hK2.block _ (lt_of_heap HX.out) (fun e => hne e.symm)).trans HX.out
        have cb2 := cell_of hbx
        obtain ⟨u1, e1⟩ : ∃ u, w2.cell? ⟨tB, t * 52 + 4 + i * 3, none⟩ = some u := ⟨_, by rw [cell_of hb2]; exact Array.getElem?_eq_getElem (by rw [hF.sz]; omega)⟩
        obtain ⟨u2, e2⟩ : ∃ u, w2.cell? ⟨tB, t * 52 + 4 + i * 3 + 1, none⟩ = some u := ⟨_, by rw [cell_of hb2]; exact Array.getElem?_eq_getElem (by rw [hF.sz]; omega)⟩
        obtain ⟨u3, e3⟩ : ∃ u, w2.cell? ⟨tB, t * 52 + 4 + i * 3 + 2, none⟩ = some u := ⟨_, by rw [cell_of hb2]; exact Array.getElem?_eq_getElem (by rw [hF.sz]; omega)⟩
        have HB2 : Hid (w2.heap[tB]? = some (.cells cur' 196 (0, 0))) := hb2
        have HT2 : Hid (TilesC cur' n (fun t' i => if t' = t then a else f t' i)) := hT2
        have HK2 : Hid (Kept (· = tB) w w2) := (hK1.trans ((Kept.refl _ w1).drew)).trans hK2
        clear hb2 hbx hF hT2 hK2
        go_wp2_with fail
        go_region
        all_goals
          go_wp2_with fail
          go_end0
          refine ⟨rfl, ⟨_, put3_heap v HB2.out, (HT2.out.put hn hi c02 v).congr (fun t' ht' i' hi' => ?_)⟩, (HK2.out.trans (put3_kept v)).drew⟩
          unfold updC
          split
          · rfl
          · show f t' i' = (if t' = t then a else f t' i')
            split
            · next h => subst h; exact (HM.out _ hi').symm
            · rfl
end Go.Proofs.YthcikinkicpicaaGreatDoor

namespace Go.Proofs.YthcikinkicpicaaGreatDoor
open Go.RowKit Go.Shelf
attribute [local go_sem] Oper.semAt_some

set_option maxRecDepth 100000 in
set_option maxHeartbeats 1000000 in
theorem eachC (p o tB n : Nat) (hn : n ≤ 36) : Iter Tryz.prog 74 (fun l => #[.pointer (some ⟨p, o, none⟩), .func (.yield l) #[] #[]]) (fun t : Nat => #[.pointer (some ⟨tB, t * 52, none⟩)]) (List.range n)
    (fun W => W.cell? ⟨p, o + 1, none⟩ = some (.slice (some ⟨tB, 0, none⟩) n n)) := by
  intro l base J W hJ hR hY h0
  have hR0 := (hR _ _ h0).2
  refine callsIn_of_wp Tryz.func74 rfl trivial ?_ rfl
  simp only [Tryz.ntmps74, List.size_toArray, List.length_cons, List.length_nil, Nat.reduceAdd, Nat.reduceSub, Array.replicate_succ, Array.replicate_zero, List.push_toArray, List.append_toArray, List.nil_append, List.cons_append]
  have HJ : Hid (∀ pre A B, base ≤ A.heap.size → Below base A B → J pre A → J pre B) := hJ
  have HR : Hid (∀ pre A, J pre A → base ≤ A.heap.size ∧ A.cell? ⟨p, o + 1, none⟩ = some (.slice (some ⟨tB, 0, none⟩) n n)) := hR
  have HY : Hid (∀ pre x rest A, List.range n = pre ++ x :: rest → J pre A → YieldAt Fence.wide 0 Tryz.prog l #[.pointer (some ⟨tB, x * 52, none⟩)] A fun e B => e = .returned (.bool true) ∧ J (pre ++ [x]) B ∧ ∀ k, base ≤ k → k < A.heap.size → B.heap[k]? = A.heap[k]?) := hY
  have H0 : Hid (J [] W) := h0
  clear hJ hR hY h0
  gi_wp2
  gi_loopw [10] (fun i wr => ∃ k : Nat, k ≤ n ∧ i = .int .i64 k ∧ Hid (J (List.range k) wr)) (fun i wr => n - (intOf i).toNat)
  case atStart => exact ⟨0, Nat.zero_le _, rfl, H0.out⟩
  case round =>
    obtain ⟨k, hk, rfl, hJk⟩ := hrel
    have hRk := (HR.out _ _ hJk.out).2
    by_cases hlt : k < n
    · obtain ⟨fn, tmps, assign, body, hy, hRd⟩ := HY.out (List.range k) k ((List.range (n - k - 1)).map (k + 1 + ·)) wr (by
        have e : n = k + (1 + (n - k - 1)) := by omega
        conv => lhs; rw [e, List.range_add, List.range_add]
        simp [List.map_map, Function.comp_def, Nat.add_assoc]) hJk.out
      have i1 : (k : Int) < (n : Int) := by omega
      gi_wp2
      refine ⟨rfl, hRd.mono ?_⟩
      rintro e W3 ⟨rfl, hJ3, _⟩
      have HJ3 : Hid (J (List.range (k + 1)) W3) := by show J _ _; rw [List.range_succ]; exact hJ3
      clear hJ3
      gi_wp2
      go_roundw
      case rel => exact ⟨k + 1, by omega, by go_num, HJ3⟩
      case measure => go_light; simp [intOf]; omega
    · have hkn : k = n := by omega
      subst hkn
      gi_wp2
      go_end0
      exact ⟨⟨_, rfl⟩, hJk.out⟩

/-- What holds while a surface is cleared. -/
structure ClrC (w : World) (p o tB n : Nat) (v : Col) (by_ : Bool) (f : Nat → Nat → Col) (m : Nat) (W : World) : Prop where
  b1 : W.heap[w.heap.size]? = some (.cells #[.int .u8 v.r, .int .u8 v.g, .int .u8 v.b] 120 (0, 0))
  b2 : W.heap[w.heap.size + 1]? = some (.cells #[.bool by_] 4 (0, 0))
  hd : W.cell? ⟨p, o + 1, none⟩ = some (.slice (some ⟨tB, 0, none⟩) n n)
  kp : Kept (· = tB) w W
  tl : ∃ cur, W.heap[tB]? = some (.cells cur 196 (0, 0)) ∧ TilesC cur n (fun t i => if t < m then v else f t i)

set_option maxRecDepth 100000 in
set_option maxHeartbeats 1000000 in
theorem clearC (p o tB n A : Nat) (f : Nat → Nat → Col) (v : Col) (by_ : Bool) (w : World) (hS : SurfC w p o tB A n 196 f) (hne : tB ≠ p) (hn : n ≤ 36) :
    Calls Tryz.prog 81 #[.pointer (some ⟨p, o, none⟩), v.v, .bool by_] w fun e w' =>
      e = .returned (.tuple #[]) ∧ (∃ cur', w'.heap[tB]? = some (.cells cur' 196 (0, 0)) ∧ TilesC cur' n (fun _ _ => v)) ∧ Kept (· = tB) w w' := by
  obtain ⟨cur, hb, hc⟩ := hS.blk
  have lt := lt_of_heap hb
  have hp : p < w.heap.size := World.block_lt_of_cell? w ⟨p, o + 1, none⟩ hS.hT
  unfold Col.v
  refine (callsIn_wide (n := 0)).1 ?_
  refine callsIn_of_wp_marks Tryz.func81 rfl trivial ?_ rfl
  simp only [Tryz.ntmps81, List.size_toArray, List.length_cons, List.length_nil, Nat.reduceAdd, Nat.reduceSub, Array.replicate_succ, Array.replicate_zero, List.push_toArray, List.append_toArray, List.nil_append, List.cons_append]
  gi_wp2
  have hI0 : ClrC w p o tB n v by_ f 0 ((w.alloc (.cells #[.int .u8 v.r, .int .u8 v.g, .int .u8 v.b] 120)).alloc (.cells #[.bool by_] 4)) := by
    refine ⟨?_, ?_, ?_, ?_, cur, ?_, ?_⟩
    · rw [heap_alloc_old (by simp)]; exact heap_alloc_new _ _
    · exact heap_alloc_at (by simp) _
    · rw [World.cell?_alloc_past _ _ _ (by simp; omega), World.cell?_alloc_past _ _ _ hp]; exact hS.hT
    · exact ((Kept.refl _ w).alloc _).alloc _
    · rw [heap_alloc_old (by simp; omega), heap_alloc_old (by omega)]; exact hb
    · simpa using hc
  refine range_law (gf := 74) (r := .pointer (some ⟨p, o, none⟩)) rfl (enters_of Tryz.func74 (by kernel_rfl) rfl) (eachC p o tB n hn) (fun _ => rfl)
    (fun pre W => w.heap.size + 2 ≤ W.heap.size ∧ ClrC w p o tB n v by_ f pre.length W) ?hI ?hR ⟨by simp, hI0⟩
    (fun t => { tmps := #[.pointer (some ⟨p, o, none⟩), .agg #[.int .u8 v.r, .int .u8 v.g, .int .u8 v.b], .bool by_, undef, .pointer (some ⟨w.heap.size, 0, none⟩), .pointer (some ⟨w.heap.size + 1, 0, none⟩), .pointer (some ⟨tB, t * 52, none⟩), .pointer (some ⟨p, o, none⟩),
      .func (.func 74) #[.pointer (some ⟨p, o, none⟩)] #[], .pointer (some ⟨tB, t * 52, none⟩), undef, undef, undef, undef, undef, undef, undef, undef, undef, undef, undef, undef, undef, undef, undef, undef, undef, undef, undef], defers := [] }) ?assign ?body ?done
  case hI =>
    rintro pre A' B hsz hbl ⟨hs, hi⟩
    simp only [World.size_alloc] at hsz hbl
    obtain ⟨b1, b2, hd, kp, cur1, hb1, hT1⟩ := hi
    exact ⟨Nat.le_trans hs hbl.size, (hbl.block _ (by omega)).trans b1, (hbl.block _ (by omega)).trans b2, (hbl.cell (p := ⟨p, o + 1, none⟩) (by show p < _; omega)).trans hd,
      ⟨hbl.os.trans kp.os, hbl.tape.trans kp.tape, hbl.output.trans kp.output, Nat.le_trans kp.size hbl.size, fun k hk hs' => (hbl.block k (by omega)).trans (kp.block k hk hs')⟩, cur1, (hbl.block _ (by omega)).trans hb1, hT1⟩
  case hR =>
    rintro pre A' ⟨hs, hi⟩
    exact ⟨by simpa using hs, hi.hd⟩
  case assign =>
    intro l x W K hK
    gi_wp2
    exact hK
  case body =>
    rintro l pre x rest W hx ⟨hs, hi⟩
    obtain ⟨rfl, hxn, hpre⟩ := range_split hx
    obtain ⟨b1, b2, hd, kp, cur1, hb1, hT1⟩ := hi
    generalize pre.length = t at *
    obtain ⟨m, a, c0, c1, hm, hp'⟩ := hT1.at_ t hxn
    have k0 := (cell_of hb1 (t * 52)).trans c0
    have k1 := (cell_of hb1 (t * 52 + 1)).trans c1.1
    have k1b := (cell_of hb1 (t * 52 + 1 + 1)).trans c1.2.1
    have k1c := (cell_of hb1 (t * 52 + 1 + 2)).trans c1.2.2
    clear c1
    have g1 := cell_of b1
    have g2 := cell_of b2
    have HT : Hid (TilesC cur1 n (fun t' i => if t' < t then v else f t' i)) := hT1
    have HM : Hid (m = true → ∀ i, i < 16 → a = if t < t then v else f t i) := hm
    clear hm hp' hT1 hI0
    have hmx : Tryz.prog.follows .mixedOrders = true := by kernel_rfl
    have HE : Hid (∀ W', (∃ cur', W'.heap[tB]? = some (.cells cur' 196 (0, 0)) ∧ TilesC cur' n (fun t' i => if t' = t then v else if t' < t then v else f t' i)) → Kept (· = tB) W W' →
        (w.heap.size + 1 + 1 ≤ W'.heap.size ∧ ClrC w p o tB n v by_ f (t + 1) W') ∧ ∀ k, w.heap.size + 1 + 1 ≤ k → k < W.heap.size → W'.heap[k]? = W.heap[k]?) := by
      rintro W' ⟨cur', hb', hT'⟩ hk'
      refine ⟨⟨Nat.le_trans hs hk'.size, ⟨(hk'.block _ (by omega) (by omega)).trans b1, (hk'.block _ (by omega) (by omega)).trans b2, (World.cell?_of_block (a := ⟨p, o + 1, none⟩) (hk'.block p (by omega) (fun e => hne e.symm))).trans hd,
        kp.trans hk', cur', hb', hT'.congr (fun t' ht' i hi => ?_)⟩⟩, fun k hk1 hk2 => hk'.block k hk2 (by omega)⟩
      by_cases e1 : t' = t
      · rw [if_pos e1, if_pos (by omega)]
      · rw [if_neg e1]
        by_cases e2 : t' < t
        · rw [if_pos e2, if_pos (by omega)]
        · rw [if_neg e2, if_neg (by omega)]
    have HB : Hid (W.heap[tB]? = some (.cells cur1 196 (0, 0))) := hb1
    have HZ : Hid (cur1.size = n * 52) := HT.out.sz
    have hl : (pre ++ [t]).length = t + 1 := by rw [hpre]; simp
    rw [hl]
    clear hb1 b1 b2 kp hd hl hx hpre hb hc hS cur
    by_cases hma : m = true ∧ a = v
    · obtain ⟨rfl, rfl⟩ := hma
      have heq := col_eq a a
      have hsv : (a.r == a.r && (a.g == a.g && a.b == a.b)) = true := by simp
      rw [hsv] at heq
      clear hsv
      simp only [Col.v] at heq
      have HM' : Hid (∀ i, i < 16 → a = f t i) := fun i hi => by have := HM.out rfl i hi; rwa [if_neg (Nat.lt_irrefl t)] at this
      clear HM
      have HF := HE.out W.drew ⟨cur1, HB.out, HT.out.congr (fun t' ht' i hi => by
        by_cases e2 : t' = t
        · subst e2; rw [if_pos rfl, if_neg (Nat.lt_irrefl _)]; exact HM'.out i hi
        · rw [if_neg e2])⟩ (Kept.refl _ W).drew
      have HF' : Hid ((w.heap.size + 1 + 1 ≤ W.drew.heap.size ∧ ClrC w p o tB n a by_ f (t + 1) W.drew) ∧ ∀ k, w.heap.size + 1 + 1 ≤ k → k < W.heap.size → W.drew.heap[k]? = W.heap[k]?) := HF
      clear HF
      gi_wp2_with fail
      gi_region_o
      all_goals gi_wp2
      all_goals first | exact ⟨HF'.out.1.2, HF'.out.2⟩ | exact ⟨HF'.out.1, HF'.out.2⟩
    · have HC : Hid (∀ W0, Kept (· = tB) W W0 → W0.heap[tB]? = some (.cells cur1 196 (0, 0)) → Calls Tryz.prog 75 #[.pointer (some ⟨tB, t * 52, none⟩), .agg #[.int .u8 v.r, .int .u8 v.g, .int .u8 v.b]] W0 fun e w' => e = .returned (.tuple #[]) ∧
          (w.heap.size + 1 + 1 ≤ w'.heap.size ∧ ClrC w p o tB n v by_ f (t + 1) w') ∧ ∀ k, w.heap.size + 1 + 1 ≤ k → k < W.heap.size → w'.heap[k]? = W.heap[k]?) := by
        intro W0 hk0 hb0
        refine (markC tB n t v cur1 W0 hb0 HZ.out hxn).mono ?_
        rintro e w' ⟨rfl, hb', hk'⟩
        exact ⟨rfl, HE.out w' ⟨_, hb', HT.out.mark hxn v⟩ (hk0.trans hk')⟩
      have HD : Hid (∀ W0, Kept (· = tB) W W0 → W0.heap[tB]? = some (.cells cur1 196 (0, 0)) → Calls Tryz.prog 110 #[.pointer (some ⟨tB, t * 52, none⟩), .agg #[.int .u8 v.r, .int .u8 v.g, .int .u8 v.b]] W0 fun e w' => e = .returned (.tuple #[]) ∧
          (w.heap.size + 1 + 1 ≤ w'.heap.size ∧ ClrC w p o tB n v by_ f (t + 1) w') ∧ ∀ k, w.heap.size + 1 + 1 ≤ k → k < W.heap.size → w'.heap[k]? = W.heap[k]?) := by
        intro W0 hk0 hb0
        refine (fillC tB n t v cur1 W0 hb0 HZ.out hxn).mono ?_
        rintro e w' ⟨rfl, ⟨cur', hb', hF⟩, hk'⟩
        exact ⟨rfl, HE.out w' ⟨_, hb', (hF.tiles HT.out hxn).1⟩ (hk0.trans hk')⟩
      clear HE HM HT HZ
      cases m
      · clear hma
        cases by_
        · gi_wp2_with fail
          gi_region_o
          all_goals
            gi_wp2_with fail
            refine ⟨trivial, rfl, ?_⟩
            refine (CallsIn.inRound l (callsIn_wide.2 (HD.out _ (Kept.refl _ W).drew HB.out))).mono ?_
            rintro e w' ⟨rfl, hf1, hf2⟩
            gi_wp2
            first | exact hf2 | exact ⟨rfl, hf1, hf2⟩ | exact ⟨hf1, hf2⟩ | exact ⟨hf1.2, hf2⟩
        · gi_wp2_with fail
          gi_region_o
          all_goals
            gi_wp2_with fail
            refine ⟨trivial, rfl, ?_⟩
            refine (CallsIn.inRound l (callsIn_wide.2 (HC.out _ (Kept.refl _ W).drew HB.out))).mono ?_
            rintro e w' ⟨rfl, hf1, hf2⟩
            gi_wp2
            first | exact hf2 | exact ⟨rfl, hf1, hf2⟩ | exact ⟨hf1, hf2⟩ | exact ⟨hf1.2, hf2⟩
      · have heq := col_eq a v
        rw [col_ne (fun h => hma ⟨rfl, h⟩)] at heq
        simp only [Col.v] at heq
        clear hma
        cases by_
        · gi_wp2_with fail
          gi_region_o
          all_goals
            gi_wp2_with fail
            refine ⟨trivial, rfl, ?_⟩
            refine (CallsIn.inRound l (callsIn_wide.2 (HD.out _ (Kept.refl _ W).drew HB.out))).mono ?_
            rintro e w' ⟨rfl, hf1, hf2⟩
            gi_wp2
            first | exact hf2 | exact ⟨rfl, hf1, hf2⟩ | exact ⟨hf1, hf2⟩ | exact ⟨hf1.2, hf2⟩
        · gi_wp2_with fail
          gi_region_o
          all_goals
            gi_wp2_with fail
            refine ⟨trivial, rfl, ?_⟩
            refine (CallsIn.inRound l (callsIn_wide.2 (HC.out _ (Kept.refl _ W).drew HB.out))).mono ?_
            rintro e w' ⟨rfl, hf1, hf2⟩
            gi_wp2
            first | exact hf2 | exact ⟨rfl, hf1, hf2⟩ | exact ⟨hf1, hf2⟩ | exact ⟨hf1.2, hf2⟩
  case done =>
    rintro D W hD ⟨hs, hi⟩ hK
    gi_wp2
    refine ⟨by simp, .inl ⟨_, _, rfl, run_takeDeferred hK, ?_⟩⟩
    have hD' : w.heap.size + 2 ≤ D := by simpa using hD
    refine ⟨_, results_none rfl _ _ _, rfl, ?_, ?_⟩
    · obtain ⟨cur', hb', hT'⟩ := hi.tl
      refine ⟨cur', (World.putObj_heap_other (by omega)).trans hb', hT'.congr (fun t' ht' i _ => ?_)⟩
      rw [List.length_range, if_pos ht']
    · have kp := hi.kp
      exact ⟨kp.os, kp.tape, kp.output, by rw [World.putObj_size]; exact kp.size, fun k hk hs' => (World.putObj_heap_other (by omega)).trans (kp.block k hk hs')⟩
end Go.Proofs.YthcikinkicpicaaGreatDoor

namespace Go.Proofs.YthcikinkicpicaaGreatDoor
open Go.RowKit Go.Shelf
attribute [local go_sem] Oper.semAt_some

def col0 : Col := { r := 0, g := 0, b := 0 }

theorem Tryz.infoTileC : (Tryz.prog.info? 196).map (fun i => (i.zero, i.size, i.bytes)) = some (some (.agg #[.bool false, .int .u8 0, .int .u8 0, .int .u8 0, .int .u8 0, .int .u8 0, .int .u8 0, .int .u8 0, .int .u8 0, .int .u8 0, .int .u8 0, .int .u8 0, .int .u8 0, .int .u8 0, .int .u8 0, .int .u8 0, .int .u8 0, .int .u8 0, .int .u8 0, .int .u8 0, .int .u8 0, .int .u8 0, .int .u8 0, .int .u8 0, .int .u8 0, .int .u8 0, .int .u8 0, .int .u8 0, .int .u8 0, .int .u8 0, .int .u8 0, .int .u8 0, .int .u8 0, .int .u8 0, .int .u8 0, .int .u8 0, .int .u8 0, .int .u8 0, .int .u8 0, .int .u8 0, .int .u8 0, .int .u8 0, .int .u8 0, .int .u8 0, .int .u8 0, .int .u8 0, .int .u8 0, .int .u8 0, .int .u8 0, .int .u8 0, .int .u8 0, .int .u8 0]), 52, 52) := by kernel_rfl

theorem madeC (n : Nat) : TilesC (madeCells #[Value.bool false, .int .u8 0, .int .u8 0, .int .u8 0, .int .u8 0, .int .u8 0, .int .u8 0, .int .u8 0, .int .u8 0, .int .u8 0, .int .u8 0, .int .u8 0, .int .u8 0, .int .u8 0, .int .u8 0, .int .u8 0, .int .u8 0, .int .u8 0, .int .u8 0, .int .u8 0, .int .u8 0, .int .u8 0, .int .u8 0, .int .u8 0, .int .u8 0, .int .u8 0, .int .u8 0, .int .u8 0, .int .u8 0, .int .u8 0, .int .u8 0, .int .u8 0, .int .u8 0, .int .u8 0, .int .u8 0, .int .u8 0, .int .u8 0, .int .u8 0, .int .u8 0, .int .u8 0, .int .u8 0, .int .u8 0, .int .u8 0, .int .u8 0, .int .u8 0, .int .u8 0, .int .u8 0, .int .u8 0, .int .u8 0, .int .u8 0, .int .u8 0, .int .u8 0] (n * 52)) n (fun _ _ => col0) := by
  have key : ∀ t r : Nat, t < n → r < 52 → (madeCells #[Value.bool false, .int .u8 0, .int .u8 0, .int .u8 0, .int .u8 0, .int .u8 0, .int .u8 0, .int .u8 0, .int .u8 0, .int .u8 0, .int .u8 0, .int .u8 0, .int .u8 0, .int .u8 0, .int .u8 0, .int .u8 0, .int .u8 0, .int .u8 0, .int .u8 0, .int .u8 0, .int .u8 0, .int .u8 0, .int .u8 0, .int .u8 0, .int .u8 0, .int .u8 0, .int .u8 0, .int .u8 0, .int .u8 0, .int .u8 0, .int .u8 0, .int .u8 0, .int .u8 0, .int .u8 0, .int .u8 0, .int .u8 0, .int .u8 0, .int .u8 0, .int .u8 0, .int .u8 0, .int .u8 0, .int .u8 0, .int .u8 0, .int .u8 0, .int .u8 0, .int .u8 0, .int .u8 0, .int .u8 0, .int .u8 0, .int .u8 0, .int .u8 0, .int .u8 0] (n * 52))[t * 52 + r]? = some (#[Value.bool false, .int .u8 0, .int .u8 0, .int .u8 0, .int .u8 0, .int .u8 0, .int .u8 0, .int .u8 0, .int .u8 0, .int .u8 0, .int .u8 0, .int .u8 0, .int .u8 0, .int .u8 0, .int .u8 0, .int .u8 0, .int .u8 0, .int .u8 0, .int .u8 0, .int .u8 0, .int .u8 0, .int .u8 0, .int .u8 0, .int .u8 0, .int .u8 0, .int .u8 0, .int .u8 0, .int .u8 0, .int .u8 0, .int .u8 0, .int .u8 0, .int .u8 0, .int .u8 0, .int .u8 0, .int .u8 0, .int .u8 0, .int .u8 0, .int .u8 0, .int .u8 0, .int .u8 0, .int .u8 0, .int .u8 0, .int .u8 0, .int .u8 0, .int .u8 0, .int .u8 0, .int .u8 0, .int .u8 0, .int .u8 0, .int .u8 0, .int .u8 0, .int .u8 0][r]!) := by
    intro t r ht hr
    rw [made_at _ _ _ (by omega)]
    have e : (t * 52 + r) % 52 = r := by omega
    show some (#[Value.bool false, .int .u8 0, .int .u8 0, .int .u8 0, .int .u8 0, .int .u8 0, .int .u8 0, .int .u8 0, .int .u8 0, .int .u8 0, .int .u8 0, .int .u8 0, .int .u8 0, .int .u8 0, .int .u8 0, .int .u8 0, .int .u8 0, .int .u8 0, .int .u8 0, .int .u8 0, .int .u8 0, .int .u8 0, .int .u8 0, .int .u8 0, .int .u8 0, .int .u8 0, .int .u8 0, .int .u8 0, .int .u8 0, .int .u8 0, .int .u8 0, .int .u8 0, .int .u8 0, .int .u8 0, .int .u8 0, .int .u8 0, .int .u8 0, .int .u8 0, .int .u8 0, .int .u8 0, .int .u8 0, .int .u8 0, .int .u8 0, .int .u8 0, .int .u8 0, .int .u8 0, .int .u8 0, .int .u8 0, .int .u8 0, .int .u8 0, .int .u8 0, .int .u8 0][(t * 52 + r) % 52]!) = _
    rw [e]
  refine ⟨by simp [madeCells], fun t ht => ⟨false, col0, key t 0 ht (by omega), ⟨key t 1 ht (by omega), key t 2 ht (by omega), key t 3 ht (by omega)⟩, by simp, fun i hi => ⟨col0, ?_, fun _ => rfl⟩⟩⟩
  have h0 := key t (4 + i * 3) ht (by omega)
  have h1 := key t (4 + i * 3 + 1) ht (by omega)
  have h2 := key t (4 + i * 3 + 2) ht (by omega)
  have e0 : t * 52 + (4 + i * 3) = t * 52 + 4 + i * 3 := by omega
  have e1 : t * 52 + (4 + i * 3 + 1) = t * 52 + 4 + i * 3 + 1 := by omega
  have e2 : t * 52 + (4 + i * 3 + 2) = t * 52 + 4 + i * 3 + 2 := by omega
  rw [e0] at h0
  rw [e1] at h1
  rw [e2] at h2
  have hi' : i = 0 ∨ i = 1 ∨ i = 2 ∨ i = 3 ∨ i = 4 ∨ i = 5 ∨ i = 6 ∨ i = 7 ∨ i = 8 ∨ i = 9 ∨ i = 10 ∨ i = 11 ∨ i = 12 ∨ i = 13 ∨ i = 14 ∨ i = 15 := by omega
  refine ⟨h0.trans ?_, h1.trans ?_, h2.trans ?_⟩ <;> (rcases hi' with rfl | rfl | rfl | rfl | rfl | rfl | rfl | rfl | rfl | rfl | rfl | rfl | rfl | rfl | rfl | rfl <;> rfl)

/-- What holds while a new surface's tiles are marked. -/
structure NewC (w : World) (S A n : Nat) (v : Col) (m : Nat) (W : World) : Prop where
  b0 : W.heap[w.heap.size]? = some (.cells #[.int .u8 v.r, .int .u8 v.g, .int .u8 v.b] 120 (0, 0))
  b1 : W.heap[w.heap.size + 1]? = some (.cells #[.int .i64 0, .slice none 0 0] 69 (0, 0))
  b3 : W.heap[S]? = some (.cells #[.int .i64 A, .slice (some ⟨w.heap.size + 1 + 1, 0, none⟩) n n] 69 (0, 0))
  bel : Below w.heap.size w W
  tl : ∃ cur, W.heap[w.heap.size + 1 + 1]? = some (.cells cur 196 (0, 0)) ∧ TilesC cur n (fun t _i => if t < m then v else col0)

set_option maxRecDepth 100000 in
set_option maxHeartbeats 1000000 in
theorem newC (c r : Nat) (v : Col) (w : World) (hc : c ≤ 24) (hr : r ≤ 24) :
    Calls Tryz.prog 48 #[.int .i64 c, .int .i64 r, v.v] w fun e w' =>
      e = .returned (.agg #[.int .i64 ((c + 3) / 4 : Nat), .slice (some ⟨w.heap.size + 2, 0, none⟩) ((c + 3) / 4 * ((r + 3) / 4)) ((c + 3) / 4 * ((r + 3) / 4))]) ∧
      (∃ cur', w'.heap[w.heap.size + 2]? = some (.cells cur' 196 (0, 0)) ∧ TilesC cur' ((c + 3) / 4 * ((r + 3) / 4)) (fun _ _ => v)) ∧ Below w.heap.size w w' := by
  have hmul : (c + 3) / 4 * ((r + 3) / 4) ≤ 6 * 6 := Nat.mul_le_mul (by omega) (by omega)
  have t1 := fun w' => tilesFor_any (c : Int) w' (by omega) (by omega)
  have t2 := fun w' => tilesFor_any (r : Int) w' (by omega) (by omega)
  have e1 : ((c : Int) + 3) / 4 = (((c + 3) / 4 : Nat) : Int) := by omega
  have e2 : ((r : Int) + 3) / 4 = (((r + 3) / 4 : Nat) : Int) := by omega
  rw [e1] at t1
  rw [e2] at t2
  generalize (c + 3) / 4 = A at *
  generalize (r + 3) / 4 = D at *
  have hwr : wrap64 ((A : Int) * (D : Int)) = ((A * D : Nat) : Int) := by rw [← Int.natCast_mul]; exact w64 (by omega)
  generalize A * D = n at *
  have T1 : Hid (∀ w', Calls Tryz.prog 73 #[.int .i64 c] w' fun e w'' => e = .returned (.int .i64 A) ∧ w'' = w') := t1
  have T2 : Hid (∀ w', Calls Tryz.prog 73 #[.int .i64 r] w' fun e w'' => e = .returned (.int .i64 D) ∧ w'' = w') := t2
  clear t1 t2 e1 e2
  obtain ⟨i0, hi, hz0, hz1, hz2⟩ := info_parts Tryz.infoTileC
  unfold Col.v
  refine (callsIn_wide (n := 0)).1 ?_
  refine callsIn_of_wp_marks Tryz.func48 rfl trivial ?_ rfl
  simp only [Tryz.ntmps48, List.size_toArray, List.length_cons, List.length_nil, Nat.reduceAdd, Nat.reduceSub, Array.replicate_succ, Array.replicate_zero, List.push_toArray, List.append_toArray, List.nil_append, List.cons_append]
  gi_wp2_with fail
  refine ⟨trivial, rfl, (callsIn_wide.2 (T1.out _)).mono ?_⟩
  rintro e w' ⟨rfl, rfl⟩
  gi_wp2_with fail
  refine ⟨trivial, rfl, (callsIn_wide.2 (T2.out _)).mono ?_⟩
  rintro e w' ⟨rfl, rfl⟩
  gi_wp2_with (gi_at_make; refine make_all _ rfl (.tmp 18) (.tmp 18) 67 rfl 0 196 i0 _ 52 Tryz.underlying67 hi hz0 hz1 .i64 .i64 _ _ n rfl rfl hwr hwr (by rw [hz2]; omega) (by unfold maxLen; omega) (Nat.zero_le _) ?_; intro w1 hown hgrow)
  have hs1 : w.heap.size + 1 + 1 < w1.heap.size := by
    have h1 := owned_blk hown
    simp only [World.size_alloc] at h1
    exact lt_of_heap h1
  have hT : w1.heap[w.heap.size + 1 + 1]? = some (.cells (madeCells #[Value.bool false, .int .u8 0, .int .u8 0, .int .u8 0, .int .u8 0, .int .u8 0, .int .u8 0, .int .u8 0, .int .u8 0, .int .u8 0, .int .u8 0, .int .u8 0, .int .u8 0, .int .u8 0, .int .u8 0, .int .u8 0, .int .u8 0, .int .u8 0, .int .u8 0, .int .u8 0, .int .u8 0, .int .u8 0, .int .u8 0, .int .u8 0, .int .u8 0, .int .u8 0, .int .u8 0, .int .u8 0, .int .u8 0, .int .u8 0, .int .u8 0, .int .u8 0, .int .u8 0, .int .u8 0, .int .u8 0, .int .u8 0, .int .u8 0, .int .u8 0, .int .u8 0, .int .u8 0, .int .u8 0, .int .u8 0, .int .u8 0, .int .u8 0, .int .u8 0, .int .u8 0, .int .u8 0, .int .u8 0, .int .u8 0, .int .u8 0, .int .u8 0, .int .u8 0] (n * 52)) 196 (0, 0)) := by
    have h1 := owned_blk hown
    simp only [World.size_alloc, Value.cells] at h1
    simpa using h1
  have hw1 : Below (w.heap.size + 1 + 1) ((w.alloc (.cells #[.int .u8 v.r, .int .u8 v.g, .int .u8 v.b] 120)).alloc (.cells #[.int .i64 0, .slice none 0 0] 69)) w1 :=
    ⟨hgrow.os, hgrow.tape, hgrow.output, hgrow.size, fun k hk => hgrow.block k (by simp; omega) (by simp)⟩
  have hI0 : NewC w w1.heap.size A n v 0 (w1.alloc (.cells #[.int .i64 A, .slice (some ⟨w.heap.size + 1 + 1, 0, none⟩) n n] 69)) := by
    refine ⟨?_, ?_, heap_alloc_new _ _, ?_, _, ?_, by simpa using madeC n⟩
    · rw [heap_alloc_old (by omega), hw1.block _ (by omega), heap_alloc_old (by simp)]; exact heap_alloc_new _ _
    · rw [heap_alloc_old (by omega), hw1.block _ (by omega)]; exact heap_alloc_at (by simp) _
    · exact (below2.trans (hw1.mono (by omega))).alloc (by omega) _
    · rw [heap_alloc_old hs1]; exact hT
  clear hown hgrow hT hw1
  refine range_law (gf := 74) (r := .pointer (some ⟨w1.heap.size, 0, none⟩)) rfl (enters_of Tryz.func74 (by kernel_rfl) rfl) (eachC w1.heap.size 0 (w.heap.size + 1 + 1) n (by omega)) (fun _ => rfl)
    (fun pre W => w1.heap.size + 1 ≤ W.heap.size ∧ NewC w w1.heap.size A n v pre.length W) ?hI ?hR ⟨by simp, hI0⟩
    (fun t => { tmps := #[.int .i64 c, .int .i64 r, .agg #[.int .u8 v.r, .int .u8 v.g, .int .u8 v.b], undef, undef, .pointer (some ⟨w.heap.size, 0, none⟩), .pointer (some ⟨w.heap.size + 1, 0, none⟩), .int .i64 A, .int .i64 D, .pointer (some ⟨w1.heap.size, 0, none⟩), .pointer (some ⟨w.heap.size + 1 + 1, t * 52, none⟩),
      .int .i64 c, .int .i64 A, .int .i64 r, .int .i64 D, .int .i64 A, .int .i64 A, .int .i64 D, .int .i64 n, .slice (some ⟨w.heap.size + 1 + 1, 0, none⟩) n n, .agg #[.int .i64 A, .slice (some ⟨w.heap.size + 1 + 1, 0, none⟩) n n],
      .func (.func 74) #[.pointer (some ⟨w1.heap.size, 0, none⟩)] #[], .pointer (some ⟨w.heap.size + 1 + 1, t * 52, none⟩), undef, undef, undef, undef], defers := [] }) ?assign ?body ?done
  case hI =>
    rintro pre A' B hsz hbl ⟨hs, hi⟩
    simp only [World.size_alloc] at hsz hbl
    obtain ⟨b0, b1, b3, bel, cur1, hb1, hT1⟩ := hi
    exact ⟨Nat.le_trans hs hbl.size, (hbl.block _ (by omega)).trans b0, (hbl.block _ (by omega)).trans b1, (hbl.block _ (by omega)).trans b3, bel.trans (hbl.mono (by omega)), cur1, (hbl.block _ (by omega)).trans hb1, hT1⟩
  case hR =>
    rintro pre A' ⟨hs, hi⟩
    exact ⟨by simpa using hs, cell_of hi.b3 1⟩
  case assign =>
    intro l x W K hK
    gi_wp2
    exact hK
  case body =>
    rintro l pre x rest W hx ⟨hs, hi⟩
    obtain ⟨rfl, hxn, hpre⟩ := range_split hx
    have hl : (pre ++ [pre.length]).length = pre.length + 1 := by simp
    rw [hl]
    generalize pre.length = t at *
    obtain ⟨b0, b1, b3, bel, cur1, hb1, hT1⟩ := hi
    have g0 := cell_of b0
    have HC : Hid (Calls Tryz.prog 75 #[.pointer (some ⟨w.heap.size + 1 + 1, t * 52, none⟩), .agg #[.int .u8 v.r, .int .u8 v.g, .int .u8 v.b]] W fun e w' => e = .returned (.tuple #[]) ∧
        (w1.heap.size + 1 ≤ w'.heap.size ∧ NewC w w1.heap.size A n v (t + 1) w') ∧ ∀ k, w1.heap.size + 1 ≤ k → k < W.heap.size → w'.heap[k]? = W.heap[k]?) := by
      refine (markC (w.heap.size + 1 + 1) n t v cur1 W hb1 hT1.sz hxn).mono ?_
      rintro e w' ⟨rfl, hb', hk'⟩
      refine ⟨rfl, ⟨Nat.le_trans hs hk'.size, ⟨(hk'.block _ (by omega) (by omega)).trans b0, (hk'.block _ (by omega) (by omega)).trans b1, (hk'.block _ (by omega) (by omega)).trans b3,
        bel.trans ⟨hk'.os, hk'.tape, hk'.output, hk'.size, fun k hk => hk'.block k (by omega) (by omega)⟩, _, hb', (hT1.mark hxn v).congr (fun t' ht' i hi => ?_)⟩⟩, fun k hk1 hk2 => hk'.block k hk2 (by omega)⟩
      by_cases e1 : t' = t
      · rw [if_pos e1, if_pos (by omega)]
      · rw [if_neg e1]
        by_cases e2 : t' < t
        · rw [if_pos e2, if_pos (by omega)]
        · rw [if_neg e2, if_neg (by omega)]
    clear b0 b1 b3 bel hb1 hT1 hI0
    gi_wp2_with fail
    refine ⟨trivial, rfl, ?_⟩
    refine (CallsIn.inRound l (callsIn_wide.2 HC.out)).mono ?_
    rintro e w' ⟨rfl, hf1, hf2⟩
    gi_wp2
    first | exact hf2 | exact ⟨rfl, hf1, hf2⟩ | exact ⟨hf1, hf2⟩ | exact ⟨hf1.2, hf2⟩
  case done =>
    rintro D' W hD ⟨hs, hi⟩ hK
    have hD' : w1.heap.size + 1 ≤ D' := by simpa using hD
    obtain ⟨b0, b1, b3, bel, cur1, hb1, hT1⟩ := hi
    have g1 := cell_of b1
    have f1 := frozen_of b1
    have g3 := cell_of b3
    have hn1 : w1.heap.size ≠ w.heap.size + 1 := by omega
    gi_wp2
    have hK' : ((W.setCell ⟨w.heap.size + 1, 0, none⟩ (.int .i64 A)).setCell ⟨w.heap.size + 1, 1, none⟩ (.slice (some ⟨w.heap.size + 1 + 1, 0, none⟩) n n)).heap[D']? = some (.deferred (some [])) := by rw [heap_set_ne (by omega), heap_set_ne (by omega)]; exact hK
    refine ⟨by simp, .inl ⟨_, _, rfl, run_takeDeferred hK', ?_⟩⟩
    have hr1 : (((W.setCell ⟨w.heap.size + 1, 0, none⟩ (.int .i64 A)).setCell ⟨w.heap.size + 1, 1, none⟩ (.slice (some ⟨w.heap.size + 1 + 1, 0, none⟩) n n)).putObj D' (.deferred none)).heap[w.heap.size + 1]? = some (.cells #[.int .i64 A, .slice (some ⟨w.heap.size + 1 + 1, 0, none⟩) n n] 69 (0, 0)) :=
      (World.putObj_heap_other (by omega)).trans (heap_set_same (heap_set_same b1 _ _) _ _)
    have cr := cell_of hr1
    refine ⟨.agg #[.int .i64 A, .slice (some ⟨w.heap.size + 1 + 1, 0, none⟩) n n], by simp [results, Tryz.results48, go_sem, cr], rfl, ⟨cur1, ?_, hT1.congr (fun t' ht' i _ => by rw [List.length_range, if_pos ht'])⟩, ?_⟩
    · rw [World.putObj_heap_other (by omega), heap_set_ne (by omega), heap_set_ne (by omega)]; exact hb1
    · exact ((bel.setCell (p := ⟨w.heap.size + 1, 0, none⟩) (by show w.heap.size ≤ w.heap.size + 1; omega) _).setCell (p := ⟨w.heap.size + 1, 1, none⟩) (by show w.heap.size ≤ w.heap.size + 1; omega) _).trans (below_put (by omega) _)

end Go.Proofs.YthcikinkicpicaaGreatDoor
