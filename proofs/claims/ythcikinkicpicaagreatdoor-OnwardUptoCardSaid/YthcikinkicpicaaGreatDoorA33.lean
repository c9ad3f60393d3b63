import Derived.Test.YthcikinkicpicaaGreatDoorA15
import Derived.Test.YthcikinkicpicaaGreatDoorA09
import Derived.Test.YthcikinkicpicaaGreatDoorA08
import Derived.Test.YthcikinkicpicaaGreatDoorA07

namespace Go.Proofs.YthcikinkicpicaaGreatDoor
open Go.RowKit

theorem Below.cellTo {w w' : World} {b : Nat} {c : Array Value} {T : TypeId} {f : Nat × Nat} (hb : Below w.heap.size w w') (h : w.heap[b]? = some (.cells c T f)) : w'.heap[b]? = some (.cells c T f) := (hb.block b (lt_of_heap h)).trans h

/-- What a new canvas is. -/
def CanPost (c r : Nat) (w : World) (e : Ending) (w' : World) : Prop :=
  ∃ cB zB sB, e = .returned (.agg #[.int .i64 c, .int .i64 r, .int .i64 0, .int .i64 0, .int .i64 c, .int .i64 r, .int .i64 ((c + 3) / 4 : Nat), .slice (some ⟨cB, 0, none⟩) ((c + 3) / 4 * ((r + 3) / 4)) ((c + 3) / 4 * ((r + 3) / 4)),
      .int .i64 ((c + 3) / 4 : Nat), .slice (some ⟨zB, 0, none⟩) ((c + 3) / 4 * ((r + 3) / 4)) ((c + 3) / 4 * ((r + 3) / 4)), .int .i64 ((c + 3) / 4 : Nat), .slice (some ⟨sB, 0, none⟩) ((c + 3) / 4 * ((r + 3) / 4)) ((c + 3) / 4 * ((r + 3) / 4))]) ∧
    w.heap.size ≤ cB ∧ w.heap.size ≤ zB ∧ w.heap.size ≤ sB ∧ (∃ cur, w'.heap[cB]? = some (.cells cur 196 (0, 0)) ∧ TilesC cur ((c + 3) / 4 * ((r + 3) / 4)) (fun _ _ => col0)) ∧
    (∃ cur, w'.heap[zB]? = some (.cells cur 201 (0, 0)) ∧ TilesU cur .u16 ((c + 3) / 4 * ((r + 3) / 4)) (fun _ _ => 65535)) ∧
    (∃ cur, w'.heap[sB]? = some (.cells cur 206 (0, 0)) ∧ TilesU cur .u8 ((c + 3) / 4 * ((r + 3) / 4)) (fun _ _ => 0)) ∧ Below w.heap.size w w'

set_option maxRecDepth 100000 in
set_option maxHeartbeats 1000000 in
theorem newCanvas_in (c r : Nat) (w : World) (hc : c ≤ 24) (hr : r ≤ 24) :
    Calls Tryz.prog 33 #[.int .i64 c, .int .i64 r] w (CanPost c r w) := by
  have n1 := fun w' => newC c r col0 w' hc hr
  have n2 := fun w' => new16 c r 65535 w' hc hr
  have n3 := fun w' => new8 c r 0 w' hc hr
  have HP : Hid (∀ e w', CanPost c r w e w' ↔ CanPost c r w e w') := fun _ _ => Iff.rfl
  have hdef : CanPost c r w = CanPost c r w := rfl
  unfold CanPost
  generalize (c + 3) / 4 = A at *
  generalize A * ((r + 3) / 4) = n at *
  clear HP hdef
  have N1 : Hid (∀ w', Calls Tryz.prog 48 #[.int .i64 c, .int .i64 r, .agg #[.int .u8 0, .int .u8 0, .int .u8 0]] w' fun e w'' => e = .returned (.agg #[.int .i64 A, .slice (some ⟨w'.heap.size + 2, 0, none⟩) n n]) ∧
      (∃ cur', w''.heap[w'.heap.size + 2]? = some (.cells cur' 196 (0, 0)) ∧ TilesC cur' n (fun _ _ => col0)) ∧ Below w'.heap.size w' w'') := n1
  have N2 : Hid (∀ w', Calls Tryz.prog 49 #[.int .i64 c, .int .i64 r, .int .u16 65535] w' fun e w'' => e = .returned (.agg #[.int .i64 A, .slice (some ⟨w'.heap.size + 2, 0, none⟩) n n]) ∧
      (∃ cur', w''.heap[w'.heap.size + 2]? = some (.cells cur' 201 (0, 0)) ∧ TilesU cur' .u16 n (fun _ _ => 65535)) ∧ Below w'.heap.size w' w'') := n2
  have N3 : Hid (∀ w', Calls Tryz.prog 50 #[.int .i64 c, .int .i64 r, .int .u8 0] w' fun e w'' => e = .returned (.agg #[.int .i64 A, .slice (some ⟨w'.heap.size + 2, 0, none⟩) n n]) ∧
      (∃ cur', w''.heap[w'.heap.size + 2]? = some (.cells cur' 206 (0, 0)) ∧ TilesU cur' .u8 n (fun _ _ => 0)) ∧ Below w'.heap.size w' w'') := n3
  clear n1 n2 n3
  go_enter Tryz.func33, Tryz.ntmps33
  go_wp2_with fail
  refine (N1.out _).mono ?_
  rintro e w1 ⟨rfl, hc1, hb1⟩
  have s1 := hb1.size
  simp at s1
  go_wp2_with fail
  refine (N2.out _).mono ?_
  rintro e w2 ⟨rfl, hc2, hb2⟩
  have s2 := hb2.size
  go_wp2_with fail
  refine (N3.out _).mono ?_
  rintro e w3 ⟨rfl, hc3, hb3⟩
  have s3 := hb3.size
  obtain ⟨cu1, g1, t1⟩ := hc1
  obtain ⟨cu2, g2, t2⟩ := hc2
  obtain ⟨cu3, g3, t3⟩ := hc3
  have q1 := Below.cellTo hb3 (Below.cellTo hb2 g1)
  have q2 := Below.cellTo hb3 g2
  have hr3 : w3.heap[w.heap.size]? = _ := (hb3.block _ (by omega)).trans ((hb2.block _ (by omega)).trans ((hb1.block _ (by simp)).trans (heap_alloc_new _ _)))
  have bel : Below w.heap.size w w3 := below1.trans ((hb1.mono (by simp)).trans ((hb2.mono (by omega)).trans (hb3.mono (by omega))))
  have cr := cell_of hr3
  have fr := frozen_of hr3
  simp only [World.size_alloc] at q1
  have HF : Hid ((∃ cur, w3.heap[w.heap.size + 1 + 2]? = some (.cells cur 196 (0, 0)) ∧ TilesC cur n (fun _ _ => col0)) ∧ (∃ cur, w3.heap[w1.heap.size + 2]? = some (.cells cur 201 (0, 0)) ∧ TilesU cur .u16 n (fun _ _ => 65535)) ∧
    (∃ cur, w3.heap[w2.heap.size + 2]? = some (.cells cur 206 (0, 0)) ∧ TilesU cur .u8 n (fun _ _ => 0))) := ⟨⟨cu1, q1, t1⟩, ⟨cu2, q2, t2⟩, cu3, g3, t3⟩
  clear hb1 hb2 hb3 g1 g2 g3 q1 q2 t1 t2 t3 hr3 N1 N2 N3
  go_wp2_with fail
  refine bodyPost_ret (v := .agg #[.int .i64 c, .int .i64 r, .int .i64 0, .int .i64 0, .int .i64 c, .int .i64 r, .int .i64 A, .slice (some ⟨w.heap.size + 1 + 2, 0, none⟩) n n, .int .i64 A, .slice (some ⟨w1.heap.size + 2, 0, none⟩) n n, .int .i64 A, .slice (some ⟨w2.heap.size + 2, 0, none⟩) n n])
    (by simp [results, Tryz.results33, go_sem, cr]) rfl ?_
  obtain ⟨⟨c1, k1, t1⟩, ⟨c2, k2, t2⟩, c3, k3, t3⟩ := HF.out
  refine ⟨_, _, _, rfl, by omega, by omega, by omega, ⟨c1, ?_, t1⟩, ⟨c2, ?_, t2⟩, ⟨c3, ?_, t3⟩, ?_⟩
  · repeat rw [heap_set_ne (by omega)]
    exact k1
  · repeat rw [heap_set_ne (by omega)]
    exact k2
  · repeat rw [heap_set_ne (by omega)]
    exact k3
  · repeat (first | with_reducible exact bel | (with_reducible refine Below.setCell ?_ (by exact Nat.le_refl _) _))
end Go.Proofs.YthcikinkicpicaaGreatDoor

namespace Go.Proofs.YthcikinkicpicaaGreatDoor
open Go.RowKit

theorem pix_new (c r A : Nat) (st : St) : Pix (st.resize c r) A (fun _ _ => col0) (fun _ _ => 65535) (fun _ _ => 0) := by
  intro X Y hX hY
  have hX' : (X : Int) < c := hX
  have hY' : (Y : Int) < r := hY
  show (List.replicate ((c : Int) * (r : Int)).toNat dot1).getD ((Y : Int) * (c : Int) + X).toNat dot0 = _
  have h1 : ((Y : Int) + 1) * c ≤ r * c := Int.mul_le_mul_of_nonneg_right (by omega) (by omega)
  rw [Int.add_mul, Int.one_mul] at h1
  have h2 : (r : Int) * c = c * r := Int.mul_comm _ _
  have h3 : 0 ≤ (Y : Int) * c := Int.mul_nonneg (by omega) (by omega)
  rw [List.getD_eq_getElem?_getD, List.getElem?_replicate, if_pos (by omega)]
  rfl

section
variable (base : Nat) (p cB zB sB A n : Nat) (s : ByteArray) (k : Int) (ways : Wy) (shV outV : Value) (st : St) (a : ByteArray) (l : List Int) (w : World)

theorem Dr.resize {w1 W2 : World} {cB' zB' sB' c r : Nat} (h : Dr base w p cB zB sB A n s k ways shV outV st) (hb : Below w.heap.size w w1) (h1 : w.heap.size ≤ cB') (h2 : w.heap.size ≤ zB') (h3 : w.heap.size ≤ sB')
    (t1 : ∃ cur, w1.heap[cB']? = some (.cells cur 196 (0, 0)) ∧ TilesC cur ((c + 3) / 4 * ((r + 3) / 4)) (fun _ _ => col0))
    (t2 : ∃ cur, w1.heap[zB']? = some (.cells cur 201 (0, 0)) ∧ TilesU cur .u16 ((c + 3) / 4 * ((r + 3) / 4)) (fun _ _ => 65535))
    (t3 : ∃ cur, w1.heap[sB']? = some (.cells cur 206 (0, 0)) ∧ TilesU cur .u8 ((c + 3) / 4 * ((r + 3) / 4)) (fun _ _ => 0))
    (hp : W2.heap[p]? = some (.cells (xcells (st.resize c r) s k ways cB' zB' sB' ((c + 3) / 4) ((c + 3) / 4 * ((r + 3) / 4)) shV outV) 94 (0, 0))) (hk : Kept (· = p) w1 W2) :
    Dr base W2 p cB' zB' sB' ((c + 3) / 4) ((c + 3) / 4 * ((r + 3) / 4)) s k ways shV outV (st.resize c r) ∧ Low base w W2 := by
  have hd1 := h.frame hb
  have lp := lt_of_heap h.bp
  have hbase := h.b0
  obtain ⟨cu1, g1, q1⟩ := t1
  obtain ⟨cu2, g2, q2⟩ := t2
  obtain ⟨cu3, g3, q3⟩ := t3
  have tr : ∀ {b : Nat} {cu : Array Value} {T : TypeId}, w1.heap[b]? = some (.cells cu T (0, 0)) → T ≠ 94 → W2.heap[b]? = some (.cells cu T (0, 0)) := fun hg hT => (hk.block _ (lt_of_heap hg) (ne_types hg hd1.bp hT)).trans hg
  refine ⟨⟨hp, ⟨?_, ?_, _, _, _, pix_new c r _ st, ⟨cu1, tr g1 (by decide), q1⟩, ⟨cu2, tr g2 (by decide), q2⟩, cu3, tr g3 (by decide), q3⟩, ?_, ?_, h.b0, by omega, by omega, by omega, (hk.block _ (lt_of_heap hd1.mp) (ne_map hd1.mp hd1.bp)).trans hd1.mp, h.b4⟩, (h.lowOf hb).trans (hd1.low hk)⟩
  · show (c + 3) / 4 = (((c : Int) + 3) / 4).toNat; omega
  · show (c + 3) / 4 * ((r + 3) / 4) = (c + 3) / 4 * (((r : Int) + 3) / 4).toNat
    have e : (((r : Int) + 3) / 4).toNat = (r + 3) / 4 := by omega
    rw [e]
  · exact hd1.sh.kept hk (fun g cur hg => ne_types hg hd1.bp (by decide))
  · exact owns_kept hd1.out hk (fun g cur hg => ne_types hg hd1.bp (by decide))

set_option maxRecDepth 100000 in
set_option maxHeartbeats 1000000 in
theorem setSize_in (h : Dr base w p cB zB sB A n s k ways shV outV st) (ha : ArgsOf a l) (hl : l.length = 2) :
    Calls Tryz.prog 51 #[.pointer (some ⟨p, 2, none⟩), .string a] w (CmdPost base p s k ways w ways.v (st.cmd 1 l)) := by
  have hsz := ha.size
  have z0 : (0 : Int) < (a.size : Int) := by omega
  have z1 : (1 : Int) < (a.size : Int) := by omega
  have i0 : 0 < a.size := by omega
  have i1 : 1 < a.size := by omega
  have e0 := ha.i64 0 (by omega) i0
  have e1 := ha.i64 1 (by omega) i1
  obtain ⟨b0, b0'⟩ := ha.ok.at 0
  obtain ⟨b1, b1'⟩ := ha.ok.at 1
  have HD : Hid (Dr base w p cB zB sB A n s k ways shV outV st) := h
  have hl2 : l = [l.getD 0 0, l.getD 1 0] := by
    match l, hl with
    | [x, y], _ => rfl
  have hc : st.cmd 1 l = if l.getD 0 0 < 1 ∨ l.getD 1 0 < 1 ∨ 24 < l.getD 0 0 ∨ 24 < l.getD 1 0 then (st, 2) else (st.resize (l.getD 0 0) (l.getD 1 0), 0) := by
    rw [hl2]; simp [St.cmd, badB, St.does, aboveB]
  rw [hc]
  clear h hc ha hl hl2 hsz
  generalize l.getD 0 0 = x at *
  generalize l.getD 1 0 = y at *
  by_cases hx : x < 1 ∨ y < 1 ∨ 24 < x ∨ 24 < y
  · rw [if_pos hx]
    go_enter Tryz.func51, Tryz.ntmps51
    go_wp2_with fail
    go_quiet (fail)
    go_wp2_with fail
    all_goals first
      | (exfalso; omega)
      | (go_ret
         exact ⟨rfl, _, _, _, _, _, _, _, HD.out.frame ((Below.refl _ _).drewN' nq), HD.out.lowOf ((Below.refl _ _).drewN' nq)⟩)
  · rw [if_neg hx]
    obtain ⟨X, rfl⟩ := Int.eq_ofNat_of_zero_le b0
    obtain ⟨Y, rfl⟩ := Int.eq_ofNat_of_zero_le b1
    have HN : Hid (∀ w', Calls Tryz.prog 33 #[.int .i64 X, .int .i64 Y] w' (CanPost X Y w')) := fun w' => newCanvas_in X Y w' (by omega) (by omega)
    have c1 : ¬ ((X : Int) < 1) := by omega
    have c2 : ¬ ((Y : Int) < 1) := by omega
    have c3 : ¬ (24 < (X : Int)) := by omega
    have c4 : ¬ (24 < (Y : Int)) := by omega
    clear hx
    go_enter Tryz.func51, Tryz.ntmps51
    go_wp2_with fail
    go_quiet (fail)
    go_wp2_with fail
    all_goals first
      | (exfalso; omega)
      | (refine (HN.out _).mono ?_
         rintro e w1 ⟨cB', zB', sB', rfl, h1, h2, h3, t1, t2, t3, hb⟩
         have hb' : Below w.heap.size w w1 := ((Below.refl _ _).drewN' nq).trans hb
         have hd1 := HD.out.frame hb'
         have cp := cell_of hd1.bp
         simp only [xcells] at cp
         have fp := frozen_of hd1.bp
         have HR : Hid (∀ W2, W2.heap[p]? = some (.cells (xcells (st.resize X Y) s k ways cB' zB' sB' ((X + 3) / 4) ((X + 3) / 4 * ((Y + 3) / 4)) shV outV) 94 (0, 0)) → Kept (· = p) w1 W2 →
           CmdPost base p s k ways w ways.v (st.resize X Y, 0) (.returned (.int .i64 0)) W2) := fun W2 g1 g2 => by
             have := Dr.resize base p cB zB sB A n s k ways shV outV st w HD.out hb' h1 h2 h3 t1 t2 t3 g1 g2
             exact ⟨rfl, _, _, _, _, _, _, _, this.1, this.2⟩
         have HB1 : Hid (w1.heap[p]? = some (.cells (xcells st s k ways cB zB sB A n shV outV) 94 (0, 0))) := hd1.bp
         clear t1 t2 t3 hb hb' hd1 h1 h2 h3
         generalize (X + 3) / 4 = A' at *
         generalize A' * ((Y + 3) / 4) = n' at *
         go_wp2_with fail
         go_ret
         refine HR.out _ ?_ ?_
         · refine (heap_set_same (heap_set_same (heap_set_same (heap_set_same (heap_set_same (heap_set_same (heap_set_same (heap_set_same (heap_set_same (heap_set_same (heap_set_same (heap_set_same HB1.out 2 (.int .i64 X)) 3 (.int .i64 Y)) 4 (.int .i64 0)) 5 (.int .i64 0)) 6 (.int .i64 X)) 7 (.int .i64 Y)) 8 (.int .i64 A')) 9 (.slice (some ⟨cB', 0, none⟩) n' n')) 10 (.int .i64 A')) 11 (.slice (some ⟨zB', 0, none⟩) n' n')) 12 (.int .i64 A')) 13 (.slice (some ⟨sB', 0, none⟩) n' n')).trans ?_
           simp only [xcells, qAt, St.resize, List.setIfInBounds_toArray, List.set_cons_succ, List.set_cons_zero]
           rfl
         · exact ((((((((((((kept_set1 p _ _).trans (kept_set1 p _ _)).trans (kept_set1 p _ _)).trans (kept_set1 p _ _)).trans (kept_set1 p _ _)).trans (kept_set1 p _ _)).trans (kept_set1 p _ _)).trans (kept_set1 p _ _)).trans (kept_set1 p _ _)).trans (kept_set1 p _ _)).trans (kept_set1 p _ _)).trans (kept_set1 p _ _)))
end
end Go.Proofs.YthcikinkicpicaaGreatDoor

namespace Go.Proofs.YthcikinkicpicaaGreatDoor
open Go.RowKit

set_option maxRecDepth 100000 in
set_option maxHeartbeats 400000 in
theorem firstRules_any (ways : Int) (w : World) : Calls Tryz.prog 34 #[.int .i64 ways] w fun e w' => e = .returned (.agg #[.int .u8 7, .bool true, .int .u8 7, .int .u8 0, .int .u8 255, .int .u8 255, .int .u8 0, .int .u8 0, .int .u8 0, .int .u8 0, .int .u8 7, .slice none 0 0, .bool false, .bool false, .int .i64 (bits .and .i64 ways 255)]) ∧ Below w.heap.size w w' := by
  obtain ⟨ways', hw⟩ : ∃ ways', bits .and .i64 ways 255 = ways' := ⟨_, rfl⟩
  rw [hw]
  go_enter Tryz.func34, Tryz.ntmps34
  go_wp2
  refine bodyPost_ret (v := .agg #[.int .u8 7, .bool true, .int .u8 7, .int .u8 0, .int .u8 255, .int .u8 255, .int .u8 0, .int .u8 0, .int .u8 0, .int .u8 0, .int .u8 7, .slice none 0 0, .bool false, .bool false, .int .i64 ways']) (by simp [results, Tryz.results34, go_sem]) rfl ?_
  refine ⟨rfl, ?_⟩
  repeat (first | with_reducible exact Below.refl _ _ | (with_reducible refine Below.alloc ?_ (by first | exact Nat.le_refl _ | (simp; omega)) _) | (with_reducible refine Below.setCell ?_ (by exact Nat.le_refl _) _))

/-- A new drawer. -/
def NewPost (s : ByteArray) (ways : Int) (w : World) (e : Ending) (w' : World) : Prop :=
  ∃ p cB zB sB m, e = .returned (.pointer (some ⟨p, 0, none⟩)) ∧ Dr w.heap.size w' p cB zB sB 2 4 s 0 ⟨bits .and .i64 ways 255, m, #[], 0⟩ (.slice none 0 0) (.slice none 0 0) st0 ∧ Below w.heap.size w w'

set_option maxRecDepth 100000 in
set_option maxHeartbeats 1000000 in
theorem newDrawer_in (s : ByteArray) (ways : Int) (w : World) : Calls Tryz.prog 26 #[.string s, .int .i64 ways] w (NewPost s ways w) := by
  have HC : Hid (∀ W : World, Calls Tryz.prog 33 #[.int .i64 8, .int .i64 8] W fun e w' => ∃ cB zB sB, e = .returned (.agg #[.int .i64 8, .int .i64 8, .int .i64 0, .int .i64 0, .int .i64 8, .int .i64 8, .int .i64 2, .slice (some ⟨cB, 0, none⟩) 4 4, .int .i64 2, .slice (some ⟨zB, 0, none⟩) 4 4, .int .i64 2, .slice (some ⟨sB, 0, none⟩) 4 4]) ∧
      W.heap.size ≤ cB ∧ W.heap.size ≤ zB ∧ W.heap.size ≤ sB ∧ (∃ cur, w'.heap[cB]? = some (.cells cur 196 (0, 0)) ∧ TilesC cur 4 (fun _ _ => col0)) ∧
      (∃ cur, w'.heap[zB]? = some (.cells cur 201 (0, 0)) ∧ TilesU cur .u16 4 (fun _ _ => 65535)) ∧
      (∃ cur, w'.heap[sB]? = some (.cells cur 206 (0, 0)) ∧ TilesU cur .u8 4 (fun _ _ => 0)) ∧ Below W.heap.size W w') := fun W => newCanvas_in 8 8 W (by omega) (by omega)
  have HR : Hid (∀ W : World, Calls Tryz.prog 34 #[.int .i64 ways] W fun e w' => e = .returned (.agg #[.int .u8 7, .bool true, .int .u8 7, .int .u8 0, .int .u8 255, .int .u8 255, .int .u8 0, .int .u8 0, .int .u8 0, .int .u8 0, .int .u8 7, .slice none 0 0, .bool false, .bool false, .int .i64 (bits .and .i64 ways 255)]) ∧ Below W.heap.size W w') := fun W => firstRules_any ways W
  have hmm := fun t (w : World) => run_makeMap (P := Tryz.prog) t w
  unfold NewPost
  generalize bits .and .i64 ways 255 = wv at *
  go_enter Tryz.func26, Tryz.ntmps26
  go_wp2_with (first
    | (go_at_call 33; refine (HC.out _).mono ?_; rintro e w1 ⟨cB, zB, sB, rfl, l1, l2, l3, t1, t2, t3, hb1⟩; have T1 : Hid (∃ cur, w1.heap[cB]? = some (.cells cur 196 (0, 0)) ∧ TilesC cur 4 (fun _ _ => col0)) := t1; have T2 : Hid (∃ cur, w1.heap[zB]? = some (.cells cur 201 (0, 0)) ∧ TilesU cur .u16 4 (fun _ _ => 65535)) := t2; have T3 : Hid (∃ cur, w1.heap[sB]? = some (.cells cur 206 (0, 0)) ∧ TilesU cur .u8 4 (fun _ _ => 0)) := t3; clear t1 t2 t3)
    | (go_at_call 34; refine (HR.out _).mono ?_; rintro e w2 ⟨rfl, hb2⟩))
  go_ret
  obtain ⟨c1, b1, q1⟩ := T1.out
  obtain ⟨c2, b2, q2⟩ := T2.out
  obtain ⟨c3, b3, q3⟩ := T3.out
  have s1 := hb1.size
  have s2 := hb2.size
  have tr : ∀ {b : Nat} {cu : Array Value} {T : TypeId} (ob : Obj), w1.heap[b]? = some (.cells cu T (0, 0)) → ((w2.alloc (.map #[] 0)).alloc ob).heap[b]? = some (.cells cu T (0, 0)) := fun ob hg => (heap_alloc_old (by rw [World.size_alloc]; exact Nat.lt_succ_of_lt (Nat.lt_of_lt_of_le (lt_of_heap hg) s2)) _).trans ((heap_alloc_old (Nat.lt_of_lt_of_le (lt_of_heap hg) s2) _).trans ((hb2.block _ (lt_of_heap hg)).trans hg))
  refine ⟨w2.heap.size + 1, cB, zB, sB, w2.heap.size, rfl, ⟨?_, ⟨rfl, rfl, _, _, _, pix_new 8 8 2 st0, ⟨c1, tr _ b1, q1⟩, ⟨c2, tr _ b2, q2⟩, c3, tr _ b3, q3⟩, ⟨rfl, .inl ⟨rfl, rfl⟩⟩, World.ownsRow_nil _ _ _ _, by omega, l1, l2, l3, ?_, by show _ ≤ w2.heap.size; omega⟩, ?_⟩
  · rw [heap_alloc_at (by simp)]; rfl
  · exact (heap_alloc_old (by simp) _).trans (World.alloc_heap_new _ _)
  · exact ((hb1.trans (hb2.mono s1)).alloc (by omega) _).alloc (by simp; omega) _
end Go.Proofs.YthcikinkicpicaaGreatDoor
