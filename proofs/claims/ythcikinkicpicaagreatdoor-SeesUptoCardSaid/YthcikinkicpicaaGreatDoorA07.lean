import Derived.Test.YthcikinkicpicaaGreatDoorA37
import Derived.Shelf.Abstract
import Derived.Shelf.RegionOpen
import Derived.WalkKit
import Derived.TacticsInMore
import Derived.LoopNIn
import Derived.LoopIn

namespace Go.Proofs.YthcikinkicpicaaGreatDoor
open Go.RowKit

set_option maxRecDepth 100000 in
set_option maxHeartbeats 1000000 in
theorem find8 (p o tB n A X Y : Nat) (w : World) (ha : w.cell? ⟨p, o, none⟩ = some (.int .i64 A)) (ht : w.cell? ⟨p, o + 1, none⟩ = some (.slice (some ⟨tB, 0, none⟩) n n))
    (x1 : X < 24) (y1 : Y < 24) (a1 : A ≤ 6) (hn : tNo A X Y < n) (hn' : n ≤ 36) :
    Calls Tryz.prog 124 #[.pointer (some ⟨p, o, none⟩), .int .i64 X, .int .i64 Y] w fun e w' =>
      e = .returned (.tuple #[.pointer (some ⟨tB, tNo A X Y * 18, none⟩), .int .i64 (iNo X Y)]) ∧ Below w.heap.size w w' := by
  have hmul : Y / 4 * A ≤ 5 * 6 := Nat.mul_le_mul (by omega) a1
  have e1 : IntKind.i64.wrap ((Y : Int) / 4) = ((Y / 4 : Nat) : Int) := by rw [k64 (by omega)]; omega
  have e2 : IntKind.i64.wrap ((X : Int) / 4) = ((X / 4 : Nat) : Int) := by rw [k64 (by omega)]; omega
  have e3 : IntKind.i64.wrap (((Y / 4 : Nat) : Int) * (A : Int)) = ((Y / 4 * A : Nat) : Int) := by rw [← Int.natCast_mul]; exact k64 (by omega)
  have HL : Hid ((Y : Int) % 4 * 4 + (X : Int) % 4 = ((Y % 4 * 4 + X % 4 : Nat) : Int)) := by show _ = _; omega
  unfold tNo iNo at *
  generalize hqy : Y / 4 = qy at *
  generalize hqx : X / 4 = qx at *
  generalize hm : qy * A = m at *
  have e4 : IntKind.i64.wrap ((m : Int) + (qx : Int)) = ((m + qx : Nat) : Int) := by rw [← Int.natCast_add]; exact k64 (by omega)
  generalize hk : m + qx = k at *
  have i1 : (k : Int) < (n : Int) := by omega
  clear hqy hqx hm hmul hk
  go_enter Tryz.func124, Tryz.ntmps124
  go_wp2_with fail
  go_quiet (fail)
  go_wp2
  refine bodyPost_ret (v := .tuple #[.pointer (some ⟨tB, k * 18, none⟩), .int .i64 ((Y : Int) % 4 * 4 + (X : Int) % 4)]) (by simp [results, Tryz.results124, go_sem]) rfl ?_
  exact ⟨by rw [HL.out], (Below.refl _ _).drewN' nq⟩

set_option maxRecDepth 100000 in
set_option maxHeartbeats 1000000 in
theorem at8 (p o tB n A X Y : Nat) (f : Nat → Nat → Int) (w : World) (hS : SurfU w p o tB A n .u8 206 f)
    (x1 : X < 24) (y1 : Y < 24) (a1 : A ≤ 6) (hn : tNo A X Y < n) (hn' : n ≤ 36) :
    Calls Tryz.prog 98 #[.pointer (some ⟨p, o, none⟩), .int .i64 X, .int .i64 Y] w fun e w' =>
      e = .returned (.int .u8 (f (tNo A X Y) (iNo X Y))) ∧ Below w.heap.size w w' := by
  obtain ⟨cur, hb, hc⟩ := hS.blk
  obtain ⟨m, a, c0, c1, hm, hp⟩ := hc.at_ _ hn
  obtain ⟨v, c2, hv⟩ := hp _ (iNo_lt X Y)
  have hi := iNo_lt X Y
  have hf := find8 p o tB n A X Y w hS.hA hS.hT x1 y1 a1 hn hn'
  have hm' := fun h => hm h _ hi
  generalize f (tNo A X Y) (iNo X Y) = r at *
  generalize tNo A X Y = t at *
  generalize iNo X Y = i at *
  have cc := cell_of hb
  have d0 := (cc (t * 18)).trans c0
  have d1 := (cc (t * 18 + 1)).trans c1
  have d2 := (cc (t * 18 + 2 + i)).trans c2
  clear cc c0 c1 c2 hm hp hS
  have HF : Hid (Calls Tryz.prog 124 #[.pointer (some ⟨p, o, none⟩), .int .i64 X, .int .i64 Y] w fun e w' => e = .returned (.tuple #[.pointer (some ⟨tB, t * 18, none⟩), .int .i64 i]) ∧ Below w.heap.size w w') := hf
  clear hf
  have lt := lt_of_heap hb
  have i1 : (i : Int) < 16 := by omega
  go_enter Tryz.func98, Tryz.ntmps98
  go_wp2_with fail
  refine HF.out.mono ?_
  rintro e w1 ⟨rfl, hb1⟩
  have k0 := (hb1.cell (p := ⟨tB, t * 18, none⟩) lt).trans d0
  have k1 := (hb1.cell (p := ⟨tB, t * 18 + 1, none⟩) lt).trans d1
  have k2 := (hb1.cell (p := ⟨tB, t * 18 + 2 + i, none⟩) lt).trans d2
  cases m
  · have hv' := hv rfl
    subst hv'
    go_wp2
    go_ret
    exact ⟨rfl, hb1⟩
  · have ha' := hm' rfl
    subst ha'
    go_wp2
    go_ret
    exact ⟨rfl, hb1⟩

set_option maxHeartbeats 1000000 in
theorem mark8 (tB n t : Nat) (a : Int) (cur : Array Value) (w : World) (hb : w.heap[tB]? = some (.cells cur 206 (0, 0))) (hsz : cur.size = n * 18) (ht : t < n) :
    Calls Tryz.prog 79 #[.pointer (some ⟨tB, t * 18, none⟩), .int .u8 a] w fun e w' =>
      e = .returned (.tuple #[]) ∧ w'.heap[tB]? = some (.cells ((cur.setIfInBounds (t * 18) (.bool true)).setIfInBounds (t * 18 + 1) (.int .u8 a)) 206 (0, 0)) ∧ Kept (· = tB) w w' := by
  have cc := cell_of hb
  have fz := frozen_of hb
  have c0 : ∃ u, w.cell? ⟨tB, t * 18, none⟩ = some u := ⟨_, by rw [cc]; exact Array.getElem?_eq_getElem (by omega)⟩
  have c1 : ∃ u, w.cell? ⟨tB, t * 18 + 1, none⟩ = some u := ⟨_, by rw [cc]; exact Array.getElem?_eq_getElem (by omega)⟩
  obtain ⟨u0, c0⟩ := c0
  obtain ⟨u1, c1⟩ := c1
  clear cc
  go_enter Tryz.func79, Tryz.ntmps79
  go_wp2
  go_end0
  exact ⟨rfl, heap_set_same (heap_set_same hb _ _) _ _, (kept_set1 tB _ _).trans (kept_set1 tB _ _)⟩

set_option maxRecDepth 100000 in
set_option maxHeartbeats 1000000 in
theorem fill8 (tB n t : Nat) (a : Int) (cur : Array Value) (w : World) (hb : w.heap[tB]? = some (.cells cur 206 (0, 0))) (hsz : cur.size = n * 18) (ht : t < n) :
    Calls Tryz.prog 112 #[.pointer (some ⟨tB, t * 18, none⟩), .int .u8 a] w fun e w' =>
      e = .returned (.tuple #[]) ∧ (∃ cur', w'.heap[tB]? = some (.cells cur' 206 (0, 0)) ∧ FillIs cur cur' t 16 (.int .u8 a)) ∧ Kept (· = tB) w w' := by
  have cc := cell_of hb
  have fz := frozen_of hb
  obtain ⟨u0, c0⟩ : ∃ u, w.cell? ⟨tB, t * 18, none⟩ = some u := ⟨_, by rw [cc]; exact Array.getElem?_eq_getElem (by omega)⟩
  have H0 : Hid (FillIs cur (cur.setIfInBounds (t * 18) (.bool false)) t 0 (.int .u8 a)) := FillIs.zero _ (by omega)
  have HB : Hid ((w.setCell ⟨tB, t * 18, none⟩ (.bool false)).heap[tB]? = some (.cells (cur.setIfInBounds (t * 18) (.bool false)) 206 (0, 0))) := heap_set_same hb _ _
  have HK : Hid (Kept (· = tB) w (w.setCell ⟨tB, t * 18, none⟩ (.bool false))) := kept_set1 tB _ _
  have HS : Hid (t * 18 + 18 ≤ cur.size) := by show _ ≤ _; omega
  clear cc hb hsz
  go_enter Tryz.func112, Tryz.ntmps112
  go_wp2_with fail
  go_loopg [8] 16 (fun m i wr => ∃ k : Nat, k + m = 16 ∧ i = .int .i64 k ∧ (∃ cur', wr.heap[tB]? = some (.cells cur' 206 (0, 0)) ∧ FillIs cur cur' t k (.int .u8 a)) ∧ Kept (· = tB) w wr)
  case atStart => exact ⟨0, rfl, rfl, ⟨_, HB.out, H0.out⟩, HK.out⟩
  case round =>
    obtain ⟨k, hk, rfl, ⟨cur', hb', hF⟩, hkept⟩ := hrel
    have hS := HS.out
    by_cases hlt : k < 16
    · obtain ⟨n', rfl⟩ : ∃ n', gk = n' + 1 := ⟨gk - 1, by omega⟩
      have fz' := frozen_of hb'
      obtain ⟨u1, c1⟩ : ∃ u, wr.cell? ⟨tB, t * 18 + 2 + k, none⟩ = some u := ⟨_, by rw [cell_of hb']; exact Array.getElem?_eq_getElem (by rw [hF.sz]; omega)⟩
      have i1 : (k : Int) < 16 := by omega
      go_wp2_with fail
      go_roundg n'
      case rel =>
        go_light
        exact ⟨k + 1, by omega, by go_num, ⟨_, heap_set_same hb' _ _, hF.succ (by omega)⟩, hkept.set (.inl rfl) _ _⟩
      case measure => omega
    · have hg0 : gk = 0 := by omega
      subst hg0
      have hk16 : k = 16 := by omega
      subst hk16
      go_wp2_with fail
      go_end0
      exact ⟨rfl, ⟨cur', hb', hF⟩, hkept⟩

set_option maxRecDepth 100000 in
set_option maxHeartbeats 1000000 in
theorem set8 (p o tB n A X Y : Nat) (f : Nat → Nat → Int) (v : Int) (w : World) (hS : SurfU w p o tB A n .u8 206 f)
    (x1 : X < 24) (y1 : Y < 24) (a1 : A ≤ 6) (hn : tNo A X Y < n) (hn' : n ≤ 36) :
    Calls Tryz.prog 147 #[.pointer (some ⟨p, o, none⟩), .int .i64 X, .int .i64 Y, .int .u8 v] w fun e w' =>
      e = .returned (.tuple #[]) ∧ (∃ cur', w'.heap[tB]? = some (.cells cur' 206 (0, 0)) ∧ TilesU cur' .u8 n (upd f (tNo A X Y) (iNo X Y) v)) ∧ Kept (· = tB) w w' := by
  obtain ⟨cur, hb, hc⟩ := hS.blk
  obtain ⟨m, a, c0, c1, hm, hp⟩ := hc.at_ _ hn
  obtain ⟨v0, c2, hv⟩ := hp _ (iNo_lt X Y)
  have hi := iNo_lt X Y
  have hf := find8 p o tB n A X Y w hS.hA hS.hT x1 y1 a1 hn hn'
  generalize tNo A X Y = t at *
  generalize iNo X Y = i at *
  have hsz := hc.sz
  have lt := lt_of_heap hb
  have HF : Hid (Calls Tryz.prog 124 #[.pointer (some ⟨p, o, none⟩), .int .i64 X, .int .i64 Y] w fun e w' => e = .returned (.tuple #[.pointer (some ⟨tB, t * 18, none⟩), .int .i64 i]) ∧ Below w.heap.size w w') := hf
  clear hf hS hp
  have i1 : (i : Int) < 16 := by omega
  go_enter Tryz.func147, Tryz.ntmps147
  go_wp2_with fail
  refine HF.out.mono ?_
  rintro e w1 ⟨rfl, hb1⟩
  have hbk : w1.heap[tB]? = some (.cells cur 206 (0, 0)) := (hb1.block tB lt).trans hb
  have hK1 : Kept (· = tB) w w1 := (Kept.refl _ w).below hb1
  have k0 := (cell_of hbk (t * 18)).trans c0
  have k1 := (cell_of hbk (t * 18 + 1)).trans c1
  have k2 := (cell_of hbk (t * 18 + 2 + i)).trans c2
  have fz := frozen_of hbk
  have HB : Hid (w1.heap[tB]? = some (.cells cur 206 (0, 0))) := hbk
  clear hb hbk
  cases m
  · go_wp2_with fail
    go_end0
    exact ⟨rfl, ⟨_, heap_set_same HB.out _ _, hc.put hn hi c0 v⟩, hK1.set (.inl rfl) _ _⟩
  · have HM : Hid (∀ i, i < 16 → a = f t i) := hm rfl
    clear hm
    by_cases hav : a = v
    · subst hav
      go_wp2_with fail
      refine bodyPost_ret (v := .tuple #[]) (by simp [results, Tryz.results147, go_sem]) rfl ?_
      refine ⟨rfl, ⟨cur, HB.out, hc.congr (fun t' ht' i' hi' => ?_)⟩, hK1⟩
      unfold upd
      split
      · next h => obtain ⟨rfl, rfl⟩ := h; exact HM.out _ hi
      · rfl
    · have hne : (a == v) = false := by simpa using hav
      have hfill := fill8 tB n t a cur w1 HB.out hsz hn
      have HL : Hid (Calls Tryz.prog 112 #[.pointer (some ⟨tB, t * 18, none⟩), .int .u8 a] w1 fun e w' =>
        e = .returned (.tuple #[]) ∧ (∃ cur', w'.heap[tB]? = some (.cells cur' 206 (0, 0)) ∧ FillIs cur cur' t 16 (.int .u8 a)) ∧ Kept (· = tB) w1 w') := hfill
      clear hfill
      go_wp2_with fail
      refine HL.out.mono ?_
      rintro e w2 ⟨rfl, ⟨cur', hb2, hF⟩, hK2⟩
      obtain ⟨hT2, c02⟩ := hF.tiles hc hn
      have fz2 := frozen_of hb2
      obtain ⟨u1, k3⟩ : ∃ u, w2.cell? ⟨tB, t * 18 + 2 + i, none⟩ = some u := ⟨_, by rw [cell_of hb2]; exact Array.getElem?_eq_getElem (by rw [hF.sz]; omega)⟩
      go_wp2_with fail
      go_end0
      refine ⟨rfl, ⟨_, heap_set_same hb2 _ _, (hT2.put hn hi c02 v).congr (fun t' ht' i' hi' => ?_)⟩, (hK1.trans hK2).set (.inl rfl) _ _⟩
      unfold upd
      split
      · rfl
      · show f t' i' = (if t' = t then a else f t' i')
        split
        · next h => subst h; exact (HM.out _ hi').symm
        · rfl
end Go.Proofs.YthcikinkicpicaaGreatDoor

namespace Go.Proofs.YthcikinkicpicaaGreatDoor
open Go.RowKit Go.Shelf
attribute [local go_sem] Oper.semAt_some

set_option maxRecDepth 100000 in
set_option maxHeartbeats 1000000 in
theorem each8 (p o tB n : Nat) (hn : n ≤ 36) : Iter Tryz.prog 78 (fun l => #[.pointer (some ⟨p, o, none⟩), .func (.yield l) #[] #[]]) (fun t : Nat => #[.pointer (some ⟨tB, t * 18, none⟩)]) (List.range n)
    (fun W => W.cell? ⟨p, o + 1, none⟩ = some (.slice (some ⟨tB, 0, none⟩) n n)) := by
  intro l base J W hJ hR hY h0
  have hR0 := (hR _ _ h0).2
  refine callsIn_of_wp Tryz.func78 rfl trivial ?_ rfl
  simp only [Tryz.ntmps78, List.size_toArray, List.length_cons, List.length_nil, Nat.reduceAdd, Nat.reduceSub, Array.replicate_succ, Array.replicate_zero, List.push_toArray, List.append_toArray, List.nil_append, List.cons_append]
  have HJ : Hid (∀ pre A B, base ≤ A.heap.size → Below base A B → J pre A → J pre B) := hJ
  have HR : Hid (∀ pre A, J pre A → base ≤ A.heap.size ∧ A.cell? ⟨p, o + 1, none⟩ = some (.slice (some ⟨tB, 0, none⟩) n n)) := hR
  have HY : Hid (∀ pre x rest A, List.range n = pre ++ x :: rest → J pre A → YieldAt Fence.wide 0 Tryz.prog l #[.pointer (some ⟨tB, x * 18, none⟩)] A fun e B => e = .returned (.bool true) ∧ J (pre ++ [x]) B ∧ ∀ k, base ≤ k → k < A.heap.size → B.heap[k]? = A.heap[k]?) := hY
  have H0 : Hid (J [] W) := h0
  clear hJ hR hY h0
  gi_wp2
  gi_loopw [10] (fun i wr => ∃ k : Nat, k ≤ n ∧ i = .int .i64 k ∧ Hid (J (List.range k) wr)) (fun i wr => n - (intOf i).toNat)
  case atStart => exact ⟨0, Nat.zero_le _, rfl, H0.out⟩
  case round =>
    obtain ⟨k, hk, rfl, hJk⟩ := hrel
    have hRk := (HR.out _ _ hJk.out).2
    by_cases hlt : k < n
    · obtain ⟨fn, tmps, assign, body, hy, hRd⟩ := HY.out (List.range k) k ((List.range (n - k - 1)).map (k + 1 + ·)) wr (by
        have e : n = k + (1 + (n - k - 1)) := by omega
        conv => lhs; rw [e, List.range_add, List.range_add]
        simp [List.map_map, Function.comp_def, Nat.add_assoc]) hJk.out
      have i1 : (k : Int) < (n : Int) := by omega
      gi_wp2
      refine ⟨rfl, hRd.mono ?_⟩
      rintro e W3 ⟨rfl, hJ3, _⟩
      have HJ3 : Hid (J (List.range (k + 1)) W3) := by show J _ _; rw [List.range_succ]; exact hJ3
      clear hJ3
      gi_wp2
      go_roundw
      case rel => exact ⟨k + 1, by omega, by go_num, HJ3⟩
      case measure => go_light; simp [intOf]; omega
    · have hkn : k = n := by omega
      subst hkn
      gi_wp2
      go_end0
      exact ⟨⟨_, rfl⟩, hJk.out⟩

/-- What holds while a surface is cleared. -/
structure ClrU (w : World) (p o tB n : Nat) (v : Int) (by_ : Bool) (f : Nat → Nat → Int) (m : Nat) (W : World) : Prop where
  b1 : W.heap[w.heap.size]? = some (.cells #[.int .u8 v] 5 (0, 0))
  b2 : W.heap[w.heap.size + 1]? = some (.cells #[.bool by_] 4 (0, 0))
  hd : W.cell? ⟨p, o + 1, none⟩ = some (.slice (some ⟨tB, 0, none⟩) n n)
  kp : Kept (· = tB) w W
  tl : ∃ cur, W.heap[tB]? = some (.cells cur 206 (0, 0)) ∧ TilesU cur .u8 n (fun t i => if t < m then v else f t i)

set_option maxRecDepth 100000 in
set_option maxHeartbeats 1000000 in
theorem clear8 (p o tB n A : Nat) (f : Nat → Nat → Int) (v : Int) (by_ : Bool) (w : World) (hS : SurfU w p o tB A n .u8 206 f) (hne : tB ≠ p) (hn : n ≤ 36) :
    Calls Tryz.prog 84 #[.pointer (some ⟨p, o, none⟩), .int .u8 v, .bool by_] w fun e w' =>
      e = .returned (.tuple #[]) ∧ (∃ cur', w'.heap[tB]? = some (.cells cur' 206 (0, 0)) ∧ TilesU cur' .u8 n (fun _ _ => v)) ∧ Kept (· = tB) w w' := by
  obtain ⟨cur, hb, hc⟩ := hS.blk
  have lt := lt_of_heap hb
  have hp : p < w.heap.size := World.block_lt_of_cell? w ⟨p, o + 1, none⟩ hS.hT
  refine (callsIn_wide (n := 0)).1 ?_
  refine callsIn_of_wp_marks Tryz.func84 rfl trivial ?_ rfl
  simp only [Tryz.ntmps84, List.size_toArray, List.length_cons, List.length_nil, Nat.reduceAdd, Nat.reduceSub, Array.replicate_succ, Array.replicate_zero, List.push_toArray, List.append_toArray, List.nil_append, List.cons_append]
  gi_wp2
  have hI0 : ClrU w p o tB n v by_ f 0 ((w.alloc (.cells #[.int .u8 v] 5)).alloc (.cells #[.bool by_] 4)) := by
    refine ⟨?_, ?_, ?_, ?_, cur, ?_, ?_⟩
    · rw [heap_alloc_old (by simp)]; exact heap_alloc_new _ _
    · exact heap_alloc_at (by simp) _
    · rw [World.cell?_alloc_past _ _ _ (by simp; omega), World.cell?_alloc_past _ _ _ hp]; exact hS.hT
    · exact ((Kept.refl _ w).alloc _).alloc _
    · rw [heap_alloc_old (by simp; omega), heap_alloc_old (by omega)]; exact hb
    · simpa using hc
  refine range_law (gf := 78) (r := .pointer (some ⟨p, o, none⟩)) rfl (enters_of Tryz.func78 (by kernel_rfl) rfl) (each8 p o tB n hn) (fun _ => rfl)
    (fun pre W => w.heap.size + 2 ≤ W.heap.size ∧ ClrU w p o tB n v by_ f pre.length W) ?hI ?hR ⟨by simp, hI0⟩
    (fun t => { tmps := #[.pointer (some ⟨p, o, none⟩), .int .u8 v, .bool by_, undef, .pointer (some ⟨w.heap.size, 0, none⟩), .pointer (some ⟨w.heap.size + 1, 0, none⟩), .pointer (some ⟨tB, t * 18, none⟩), .pointer (some ⟨p, o, none⟩),
      .func (.func 78) #[.pointer (some ⟨p, o, none⟩)] #[], .pointer (some ⟨tB, t * 18, none⟩), undef, undef, undef, undef, undef, undef, undef, undef, undef, undef, undef, undef, undef, undef, undef, undef, undef, undef, undef], defers := [] }) ?assign ?body ?done
  case hI =>
    rintro pre A' B hsz hbl ⟨hs, hi⟩
    simp only [World.size_alloc] at hsz hbl
    obtain ⟨b1, b2, hd, kp, cur1, hb1, hT1⟩ := hi
    exact ⟨Nat.le_trans hs hbl.size, (hbl.block _ (by omega)).trans b1, (hbl.block _ (by omega)).trans b2, (hbl.cell (p := ⟨p, o + 1, none⟩) (by show p < _; omega)).trans hd,
      ⟨hbl.os.trans kp.os, hbl.tape.trans kp.tape, hbl.output.trans kp.output, Nat.le_trans kp.size hbl.size, fun k hk hs' => (hbl.block k (by omega)).trans (kp.block k hk hs')⟩, cur1, (hbl.block _ (by omega)).trans hb1, hT1⟩
  case hR =>
    rintro pre A' ⟨hs, hi⟩
    exact ⟨by simpa using hs, hi.hd⟩
  case assign =>
    intro l x W K hK
    gi_wp2
    exact hK
  case body =>
    rintro l pre x rest W hx ⟨hs, hi⟩
    obtain ⟨rfl, hxn, hpre⟩ := range_split hx
    obtain ⟨b1, b2, hd, kp, cur1, hb1, hT1⟩ := hi
    generalize pre.length = t at *
    obtain ⟨m, a, c0, c1, hm, hp'⟩ := hT1.at_ t hxn
    have k0 := (cell_of hb1 (t * 18)).trans c0
    have k1 := (cell_of hb1 (t * 18 + 1)).trans c1
    have g1 := cell_of b1
    have g2 := cell_of b2
    have HT : Hid (TilesU cur1 .u8 n (fun t' i => if t' < t then v else f t' i)) := hT1
    have HM : Hid (m = true → ∀ i, i < 16 → a = if t < t then v else f t i) := hm
    clear hm hp' hT1 hI0
    have hmx : Tryz.prog.follows .mixedOrders = true := by kernel_rfl
    have HE : Hid (∀ W', (∃ cur', W'.heap[tB]? = some (.cells cur' 206 (0, 0)) ∧ TilesU cur' .u8 n (fun t' i => if t' = t then v else if t' < t then v else f t' i)) → Kept (· = tB) W W' →
        (w.heap.size + 1 + 1 ≤ W'.heap.size ∧ ClrU w p o tB n v by_ f (t + 1) W') ∧ ∀ k, w.heap.size + 1 + 1 ≤ k → k < W.heap.size → W'.heap[k]? = W.heap[k]?) := by
      rintro W' ⟨cur', hb', hT'⟩ hk'
      refine ⟨⟨Nat.le_trans hs hk'.size, ⟨(hk'.block _ (by omega) (by omega)).trans b1, (hk'.block _ (by omega) (by omega)).trans b2, (World.cell?_of_block (a := ⟨p, o + 1, none⟩) (hk'.block p (by omega) (fun e => hne e.symm))).trans hd,
        kp.trans hk', cur', hb', hT'.congr (fun t' ht' i hi => ?_)⟩⟩, fun k hk1 hk2 => hk'.block k hk2 (by omega)⟩
      by_cases e1 : t' = t
      · rw [if_pos e1, if_pos (by omega)]
      · rw [if_neg e1]
        by_cases e2 : t' < t
        · rw [if_pos e2, if_pos (by omega)]
        · rw [if_neg e2, if_neg (by omega)]
    have HB : Hid (W.heap[tB]? = some (.cells cur1 206 (0, 0))) := hb1
    have HZ : Hid (cur1.size = n * 18) := HT.out.sz
    have hl : (pre ++ [t]).length = t + 1 := by rw [hpre]; simp
    rw [hl]
    clear hb1 b1 b2 kp hd hl hx hpre hb hc hS cur
    by_cases hma : m = true ∧ a = v
    · obtain ⟨rfl, rfl⟩ := hma
      have HM' : Hid (∀ i, i < 16 → a = f t i) := fun i hi => by have := HM.out rfl i hi; rwa [if_neg (Nat.lt_irrefl t)] at this
      clear HM
      have HF := HE.out W.drew ⟨cur1, HB.out, HT.out.congr (fun t' ht' i hi => by
        by_cases e2 : t' = t
        · subst e2; rw [if_pos rfl, if_neg (Nat.lt_irrefl _)]; exact HM'.out i hi
        · rw [if_neg e2])⟩ (Kept.refl _ W).drew
      have HF' : Hid ((w.heap.size + 1 + 1 ≤ W.drew.heap.size ∧ ClrU w p o tB n a by_ f (t + 1) W.drew) ∧ ∀ k, w.heap.size + 1 + 1 ≤ k → k < W.heap.size → W.drew.heap[k]? = W.heap[k]?) := HF
      clear HF
      gi_wp2_with fail
      gi_region_o
      all_goals gi_wp2
      all_goals first | exact ⟨HF'.out.1.2, HF'.out.2⟩ | exact ⟨HF'.out.1, HF'.out.2⟩
    · have HC : Hid (∀ W0, Kept (· = tB) W W0 → W0.heap[tB]? = some (.cells cur1 206 (0, 0)) → Calls Tryz.prog 79 #[.pointer (some ⟨tB, t * 18, none⟩), .int .u8 v] W0 fun e w' => e = .returned (.tuple #[]) ∧
          (w.heap.size + 1 + 1 ≤ w'.heap.size ∧ ClrU w p o tB n v by_ f (t + 1) w') ∧ ∀ k, w.heap.size + 1 + 1 ≤ k → k < W.heap.size → w'.heap[k]? = W.heap[k]?) := by
        intro W0 hk0 hb0
        refine (mark8 tB n t v cur1 W0 hb0 HZ.out hxn).mono ?_
        rintro e w' ⟨rfl, hb', hk'⟩
        exact ⟨rfl, HE.out w' ⟨_, hb', HT.out.mark hxn v⟩ (hk0.trans hk')⟩
      have HD : Hid (∀ W0, Kept (· = tB) W W0 → W0.heap[tB]? = some (.cells cur1 206 (0, 0)) → Calls Tryz.prog 112 #[.pointer (some ⟨tB, t * 18, none⟩), .int .u8 v] W0 fun e w' => e = .returned (.tuple #[]) ∧
          (w.heap.size + 1 + 1 ≤ w'.heap.size ∧ ClrU w p o tB n v by_ f (t + 1) w') ∧ ∀ k, w.heap.size + 1 + 1 ≤ k → k < W.heap.size → w'.heap[k]? = W.heap[k]?) := by
        intro W0 hk0 hb0
        refine (fill8 tB n t v cur1 W0 hb0 HZ.out hxn).mono ?_
        rintro e w' ⟨rfl, ⟨cur', hb', hF⟩, hk'⟩
        exact ⟨rfl, HE.out w' ⟨_, hb', (hF.tiles HT.out hxn).1⟩ (hk0.trans hk')⟩
      clear HE HM HT HZ
      cases m
      · clear hma
        cases by_
        · gi_wp2_with fail
          gi_region_o
          all_goals
            gi_wp2_with fail
            refine ⟨trivial, rfl, ?_⟩
            refine (CallsIn.inRound l (callsIn_wide.2 (HD.out _ (Kept.refl _ W).drew HB.out))).mono ?_
            rintro e w' ⟨rfl, hf1, hf2⟩
            gi_wp2
            first | exact hf2 | exact ⟨rfl, hf1, hf2⟩ | exact ⟨hf1, hf2⟩ | exact ⟨hf1.2, hf2⟩
        · gi_wp2_with fail
          gi_region_o
          all_goals
            gi_wp2_with fail
            refine ⟨trivial, rfl, ?_⟩
            refine (CallsIn.inRound l (callsIn_wide.2 (HC.out _ (Kept.refl _ W).drew HB.out))).mono ?_
            rintro e w' ⟨rfl, hf1, hf2⟩
            gi_wp2
            first | exact hf2 | exact ⟨rfl, hf1, hf2⟩ | exact ⟨hf1, hf2⟩ | exact ⟨hf1.2, hf2⟩
      · have hav : (a == v) = false := by simpa using hma
        clear hma
        cases by_
        · gi_wp2_with fail
          gi_region_o
          all_goals
            gi_wp2_with fail
            refine ⟨trivial, rfl, ?_⟩
            refine (CallsIn.inRound l (callsIn_wide.2 (HD.out _ (Kept.refl _ W).drew HB.out))).mono ?_
            rintro e w' ⟨rfl, hf1, hf2⟩
            gi_wp2
            first | exact hf2 | exact ⟨rfl, hf1, hf2⟩ | exact ⟨hf1, hf2⟩ | exact ⟨hf1.2, hf2⟩
        · gi_wp2_with fail
          gi_region_o
          all_goals
            gi_wp2_with fail
            refine ⟨trivial, rfl, ?_⟩
            refine (CallsIn.inRound l (callsIn_wide.2 (HC.out _ (Kept.refl _ W).drew HB.out))).mono ?_
            rintro e w' ⟨rfl, hf1, hf2⟩
            gi_wp2
            first | exact hf2 | exact ⟨rfl, hf1, hf2⟩ | exact ⟨hf1, hf2⟩ | exact ⟨hf1.2, hf2⟩
  case done =>
    rintro D W hD ⟨hs, hi⟩ hK
    gi_wp2
    refine ⟨by simp, .inl ⟨_, _, rfl, run_takeDeferred hK, ?_⟩⟩
    have hD' : w.heap.size + 2 ≤ D := by simpa using hD
    refine ⟨_, results_none rfl _ _ _, rfl, ?_, ?_⟩
    · obtain ⟨cur', hb', hT'⟩ := hi.tl
      refine ⟨cur', (World.putObj_heap_other (by omega)).trans hb', hT'.congr (fun t' ht' i _ => ?_)⟩
      rw [List.length_range, if_pos ht']
    · have kp := hi.kp
      exact ⟨kp.os, kp.tape, kp.output, by rw [World.putObj_size]; exact kp.size, fun k hk hs' => (World.putObj_heap_other (by omega)).trans (kp.block k hk hs')⟩
end Go.Proofs.YthcikinkicpicaaGreatDoor

namespace Go.Proofs.YthcikinkicpicaaGreatDoor
open Go.RowKit Go.Shelf
attribute [local go_sem] Oper.semAt_some

theorem Tryz.infoTile8 : (Tryz.prog.info? 206).map (fun i => (i.zero, i.size, i.bytes)) = some (some (.agg #[.bool false, .int .u8 0, .int .u8 0, .int .u8 0, .int .u8 0, .int .u8 0, .int .u8 0, .int .u8 0, .int .u8 0, .int .u8 0, .int .u8 0, .int .u8 0, .int .u8 0, .int .u8 0, .int .u8 0, .int .u8 0, .int .u8 0, .int .u8 0]), 18, 18) := by kernel_rfl

theorem made8 (n : Nat) : TilesU (madeCells #[Value.bool false, .int .u8 0, .int .u8 0, .int .u8 0, .int .u8 0, .int .u8 0, .int .u8 0, .int .u8 0, .int .u8 0, .int .u8 0, .int .u8 0, .int .u8 0, .int .u8 0, .int .u8 0, .int .u8 0, .int .u8 0, .int .u8 0, .int .u8 0] (n * 18)) .u8 n (fun _ _ => 0) := by
  have key : ∀ t r : Nat, t < n → r < 18 → (madeCells #[Value.bool false, .int .u8 0, .int .u8 0, .int .u8 0, .int .u8 0, .int .u8 0, .int .u8 0, .int .u8 0, .int .u8 0, .int .u8 0, .int .u8 0, .int .u8 0, .int .u8 0, .int .u8 0, .int .u8 0, .int .u8 0, .int .u8 0, .int .u8 0] (n * 18))[t * 18 + r]? = some (#[Value.bool false, .int .u8 0, .int .u8 0, .int .u8 0, .int .u8 0, .int .u8 0, .int .u8 0, .int .u8 0, .int .u8 0, .int .u8 0, .int .u8 0, .int .u8 0, .int .u8 0, .int .u8 0, .int .u8 0, .int .u8 0, .int .u8 0, .int .u8 0][r]!) := by
    intro t r ht hr
    rw [made_at _ _ _ (by omega)]
    have e : (t * 18 + r) % 18 = r := by omega
    show some (#[Value.bool false, .int .u8 0, .int .u8 0, .int .u8 0, .int .u8 0, .int .u8 0, .int .u8 0, .int .u8 0, .int .u8 0, .int .u8 0, .int .u8 0, .int .u8 0, .int .u8 0, .int .u8 0, .int .u8 0, .int .u8 0, .int .u8 0, .int .u8 0][(t * 18 + r) % 18]!) = _
    rw [e]
  refine ⟨by simp [madeCells], fun t ht => ⟨false, 0, key t 0 ht (by omega), key t 1 ht (by omega), by simp, fun i hi => ⟨0, ?_, fun _ => rfl⟩⟩⟩
  have h := key t (2 + i) ht (by omega)
  rw [← Nat.add_assoc] at h
  rw [h]
  have hi' : i = 0 ∨ i = 1 ∨ i = 2 ∨ i = 3 ∨ i = 4 ∨ i = 5 ∨ i = 6 ∨ i = 7 ∨ i = 8 ∨ i = 9 ∨ i = 10 ∨ i = 11 ∨ i = 12 ∨ i = 13 ∨ i = 14 ∨ i = 15 := by omega
  rcases hi' with rfl | rfl | rfl | rfl | rfl | rfl | rfl | rfl | rfl | rfl | rfl | rfl | rfl | rfl | rfl | rfl <;> rfl

/-- What holds while a new surface's tiles are marked. -/
structure NewU8 (w : World) (S A n : Nat) (v : Int) (m : Nat) (W : World) : Prop where
  b0 : W.heap[w.heap.size]? = some (.cells #[.int .u8 v] 5 (0, 0))
  b1 : W.heap[w.heap.size + 1]? = some (.cells #[.int .i64 0, .slice none 0 0] 75 (0, 0))
  b3 : W.heap[S]? = some (.cells #[.int .i64 A, .slice (some ⟨w.heap.size + 1 + 1, 0, none⟩) n n] 75 (0, 0))
  bel : Below w.heap.size w W
  tl : ∃ cur, W.heap[w.heap.size + 1 + 1]? = some (.cells cur 206 (0, 0)) ∧ TilesU cur .u8 n (fun t _i => if t < m then v else 0)

set_option maxRecDepth 100000 in
set_option maxHeartbeats 1000000 in
theorem new8 (c r : Nat) (v : Int) (w : World) (hc : c ≤ 24) (hr : r ≤ 24) :
    Calls Tryz.prog 50 #[.int .i64 c, .int .i64 r, .int .u8 v] w fun e w' =>
      e = .returned (.agg #[.int .i64 ((c + 3) / 4 : Nat), .slice (some ⟨w.heap.size + 2, 0, none⟩) ((c + 3) / 4 * ((r + 3) / 4)) ((c + 3) / 4 * ((r + 3) / 4))]) ∧
      (∃ cur', w'.heap[w.heap.size + 2]? = some (.cells cur' 206 (0, 0)) ∧ TilesU cur' .u8 ((c + 3) / 4 * ((r + 3) / 4)) (fun _ _ => v)) ∧ Below w.heap.size w w' := by
  have hmul : (c + 3) / 4 * ((r + 3) / 4) ≤ 6 * 6 := Nat.mul_le_mul (by omega) (by omega)
  have t1 := fun w' => tilesFor_any (c : Int) w' (by omega) (by omega)
  have t2 := fun w' => tilesFor_any (r : Int) w' (by omega) (by omega)
  have e1 : ((c : Int) + 3) / 4 = (((c + 3) / 4 : Nat) : Int) := by omega
  have e2 : ((r : Int) + 3) / 4 = (((r + 3) / 4 : Nat) : Int) := by omega
  rw [e1] at t1
  rw [e2] at t2
  generalize (c + 3) / 4 = A at *
  generalize (r + 3) / 4 = D at *
  have hwr : wrap64 ((A : Int) * (D : Int)) = ((A * D : Nat) : Int) := by rw [← Int.natCast_mul]; exact w64 (by omega)
  generalize A * D = n at *
  have T1 : Hid (∀ w', Calls Tryz.prog 73 #[.int .i64 c] w' fun e w'' => e = .returned (.int .i64 A) ∧ w'' = w') := t1
  have T2 : Hid (∀ w', Calls Tryz.prog 73 #[.int .i64 r] w' fun e w'' => e = .returned (.int .i64 D) ∧ w'' = w') := t2
  clear t1 t2 e1 e2
  obtain ⟨i0, hi, hz0, hz1, hz2⟩ := info_parts Tryz.infoTile8
  refine (callsIn_wide (n := 0)).1 ?_
  refine callsIn_of_wp_marks Tryz.func50 rfl trivial ?_ rfl
  simp only [Tryz.ntmps50, List.size_toArray, List.length_cons, List.length_nil, Nat.reduceAdd, Nat.reduceSub, Array.replicate_succ, Array.replicate_zero, List.push_toArray, List.append_toArray, List.nil_append, List.cons_append]
  gi_wp2_with fail
  refine ⟨trivial, rfl, (callsIn_wide.2 (T1.out _)).mono ?_⟩
  rintro e w' ⟨rfl, rfl⟩
  gi_wp2_with fail
  refine ⟨trivial, rfl, (callsIn_wide.2 (T2.out _)).mono ?_⟩
  rintro e w' ⟨rfl, rfl⟩
  gi_wp2_with (gi_at_make; refine make_all _ rfl (.tmp 18) (.tmp 18) 73 rfl 0 206 i0 _ 18 Tryz.underlying73 hi hz0 hz1 .i64 .i64 _ _ n rfl rfl hwr hwr (by rw [hz2]; omega) (by unfold maxLen; omega) (Nat.zero_le _) ?_; intro w1 hown hgrow)
  have hs1 : w.heap.size + 1 + 1 < w1.heap.size := by
    have h1 := owned_blk hown
    simp only [World.size_alloc] at h1
    exact lt_of_heap h1
  have hT : w1.heap[w.heap.size + 1 + 1]? = some (.cells (madeCells #[Value.bool false, .int .u8 0, .int .u8 0, .int .u8 0, .int .u8 0, .int .u8 0, .int .u8 0, .int .u8 0, .int .u8 0, .int .u8 0, .int .u8 0, .int .u8 0, .int .u8 0, .int .u8 0, .int .u8 0, .int .u8 0, .int .u8 0, .int .u8 0] (n * 18)) 206 (0, 0)) := by
    have h1 := owned_blk hown
    simp only [World.size_alloc, Value.cells] at h1
    simpa using h1
  have hw1 : Below (w.heap.size + 1 + 1) ((w.alloc (.cells #[.int .u8 v] 5)).alloc (.cells #[.int .i64 0, .slice none 0 0] 75)) w1 :=
    ⟨hgrow.os, hgrow.tape, hgrow.output, hgrow.size, fun k hk => hgrow.block k (by simp; omega) (by simp)⟩
  have hI0 : NewU8 w w1.heap.size A n v 0 (w1.alloc (.cells #[.int .i64 A, .slice (some ⟨w.heap.size + 1 + 1, 0, none⟩) n n] 75)) := by
    refine ⟨?_, ?_, heap_alloc_new _ _, ?_, _, ?_, by simpa using made8 n⟩
    · rw [heap_alloc_old (by omega), hw1.block _ (by omega), heap_alloc_old (by simp)]; exact heap_alloc_new _ _
    · rw [heap_alloc_old (by omega), hw1.block _ (by omega)]; exact heap_alloc_at (by simp) _
    · exact (below2.trans (hw1.mono (by omega))).alloc (by omega) _
    · rw [heap_alloc_old hs1]; exact hT
  clear hown hgrow hT hw1
  refine range_law (gf := 78) (r := .pointer (some ⟨w1.heap.size, 0, none⟩)) rfl (enters_of Tryz.func78 (by kernel_rfl) rfl) (each8 w1.heap.size 0 (w.heap.size + 1 + 1) n (by omega)) (fun _ => rfl)
    (fun pre W => w1.heap.size + 1 ≤ W.heap.size ∧ NewU8 w w1.heap.size A n v pre.length W) ?hI ?hR ⟨by simp, hI0⟩
    (fun t => { tmps := #[.int .i64 c, .int .i64 r, .int .u8 v, undef, undef, .pointer (some ⟨w.heap.size, 0, none⟩), .pointer (some ⟨w.heap.size + 1, 0, none⟩), .int .i64 A, .int .i64 D, .pointer (some ⟨w1.heap.size, 0, none⟩), .pointer (some ⟨w.heap.size + 1 + 1, t * 18, none⟩),
      .int .i64 c, .int .i64 A, .int .i64 r, .int .i64 D, .int .i64 A, .int .i64 A, .int .i64 D, .int .i64 n, .slice (some ⟨w.heap.size + 1 + 1, 0, none⟩) n n, .agg #[.int .i64 A, .slice (some ⟨w.heap.size + 1 + 1, 0, none⟩) n n],
      .func (.func 78) #[.pointer (some ⟨w1.heap.size, 0, none⟩)] #[], .pointer (some ⟨w.heap.size + 1 + 1, t * 18, none⟩), undef, undef, undef, undef], defers := [] }) ?assign ?body ?done
  case hI =>
    rintro pre A' B hsz hbl ⟨hs, hi⟩
    simp only [World.size_alloc] at hsz hbl
    obtain ⟨b0, b1, b3, bel, cur1, hb1, hT1⟩ := hi
    exact ⟨Nat.le_trans hs hbl.size, (hbl.block _ (by omega)).trans b0, (hbl.block _ (by omega)).trans b1, (hbl.block _ (by omega)).trans b3, bel.trans (hbl.mono (by omega)), cur1, (hbl.block _ (by omega)).trans hb1, hT1⟩
  case hR =>
    rintro pre A' ⟨hs, hi⟩
    exact ⟨by simpa using hs, cell_of hi.b3 1⟩
  case assign =>
    intro l x W K hK
    gi_wp2
    exact hK
  case body =>
    rintro l pre x rest W hx ⟨hs, hi⟩
    obtain ⟨rfl, hxn, hpre⟩ := range_split hx
    have hl : (pre ++ [pre.length]).length = pre.length + 1 := by simp
    rw [hl]
    generalize pre.length = t at *
    obtain ⟨b0, b1, b3, bel, cur1, hb1, hT1⟩ := hi
    have g0 := cell_of b0
    have HC : Hid (Calls Tryz.prog 79 #[.pointer (some ⟨w.heap.size + 1 + 1, t * 18, none⟩), .int .u8 v] W fun e w' => e = .returned (.tuple #[]) ∧
        (w1.heap.size + 1 ≤ w'.heap.size ∧ NewU8 w w1.heap.size A n v (t + 1) w') ∧ ∀ k, w1.heap.size + 1 ≤ k → k < W.heap.size → w'.heap[k]? = W.heap[k]?) := by
      refine (mark8 (w.heap.size + 1 + 1) n t v cur1 W hb1 hT1.sz hxn).mono ?_
      rintro e w' ⟨rfl, hb', hk'⟩
      refine ⟨rfl, ⟨Nat.le_trans hs hk'.size, ⟨(hk'.block _ (by omega) (by omega)).trans b0, (hk'.block _ (by omega) (by omega)).trans b1, (hk'.block _ (by omega) (by omega)).trans b3,
        bel.trans ⟨hk'.os, hk'.tape, hk'.output, hk'.size, fun k hk => hk'.block k (by omega) (by omega)⟩, _, hb', (hT1.mark hxn v).congr (fun t' ht' i hi => ?_)⟩⟩, fun k hk1 hk2 => hk'.block k hk2 (by omega)⟩
      by_cases e1 : t' = t
      · rw [if_pos e1, if_pos (by omega)]
      · rw [if_neg e1]
        by_cases e2 : t' < t
        · rw [if_pos e2, if_pos (by omega)]
        · rw [if_neg e2, if_neg (by omega)]
    clear b0 b1 b3 bel hb1 hT1 hI0
    gi_wp2_with fail
    refine ⟨trivial, rfl, ?_⟩
    refine (CallsIn.inRound l (callsIn_wide.2 HC.out)).mono ?_
    rintro e w' ⟨rfl, hf1, hf2⟩
    gi_wp2
    first | exact hf2 | exact ⟨rfl, hf1, hf2⟩ | exact ⟨hf1, hf2⟩ | exact ⟨hf1.2, hf2⟩
  case done =>
    rintro D' W hD ⟨hs, hi⟩ hK
    have hD' : w1.heap.size + 1 ≤ D' := by simpa using hD
    obtain ⟨b0, b1, b3, bel, cur1, hb1, hT1⟩ := hi
    have g1 := cell_of b1
    have f1 := frozen_of b1
    have g3 := cell_of b3
    have hn1 : w1.heap.size ≠ w.heap.size + 1 := by omega
    gi_wp2
    have hK' : ((W.setCell ⟨w.heap.size + 1, 0, none⟩ (.int .i64 A)).setCell ⟨w.heap.size + 1, 1, none⟩ (.slice (some ⟨w.heap.size + 1 + 1, 0, none⟩) n n)).heap[D']? = some (.deferred (some [])) := by rw [heap_set_ne (by omega), heap_set_ne (by omega)]; exact hK
    refine ⟨by simp, .inl ⟨_, _, rfl, run_takeDeferred hK', ?_⟩⟩
    have hr1 : (((W.setCell ⟨w.heap.size + 1, 0, none⟩ (.int .i64 A)).setCell ⟨w.heap.size + 1, 1, none⟩ (.slice (some ⟨w.heap.size + 1 + 1, 0, none⟩) n n)).putObj D' (.deferred none)).heap[w.heap.size + 1]? = some (.cells #[.int .i64 A, .slice (some ⟨w.heap.size + 1 + 1, 0, none⟩) n n] 75 (0, 0)) :=
      (World.putObj_heap_other (by omega)).trans (heap_set_same (heap_set_same b1 _ _) _ _)
    have cr := cell_of hr1
    refine ⟨.agg #[.int .i64 A, .slice (some ⟨w.heap.size + 1 + 1, 0, none⟩) n n], by simp [results, Tryz.results50, go_sem, cr], rfl, ⟨cur1, ?_, hT1.congr (fun t' ht' i _ => by rw [List.length_range, if_pos ht'])⟩, ?_⟩
    · rw [World.putObj_heap_other (by omega), heap_set_ne (by omega), heap_set_ne (by omega)]; exact hb1
    · exact ((bel.setCell (p := ⟨w.heap.size + 1, 0, none⟩) (by show w.heap.size ≤ w.heap.size + 1; omega) _).setCell (p := ⟨w.heap.size + 1, 1, none⟩) (by show w.heap.size ≤ w.heap.size + 1; omega) _).trans (below_put (by omega) _)

end Go.Proofs.YthcikinkicpicaaGreatDoor
