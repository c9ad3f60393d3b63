import Derived.Test.YthcikinkicpicaaGreatDoorA10
import Derived.Test.YthcikinkicpicaaGreatDoorA08
import Derived.Test.YthcikinkicpicaaGreatDoorA14
import Derived.Test.YthcikinkicpicaaGreatDoorA06

namespace Go.Proofs.YthcikinkicpicaaGreatDoor
open Go.RowKit Go.Shelf
attribute [local go_sem] Oper.semAt_some

theorem SurfU.below {w w' : World} {p o tB A n : Nat} {K : IntKind} {T : TypeId} {f : Nat → Nat → Int} (h : SurfU w p o tB A n K T f) (hb : Below w.heap.size w w') : SurfU w' p o tB A n K T f := by
  obtain ⟨cur, h1, h2⟩ := h.blk
  exact ⟨(hb.cell (p := ⟨p, o, none⟩) (World.block_lt_of_cell? w ⟨p, o, none⟩ h.hA)).trans h.hA, (hb.cell (p := ⟨p, o + 1, none⟩) (World.block_lt_of_cell? w ⟨p, o, none⟩ h.hA)).trans h.hT, cur, (hb.block _ (lt_of_heap h1)).trans h1, h2⟩

/-- While the span of what a surface has is made. -/
structure SnI (w : World) (p o C : Nat) (bx : Array Value) (f : Nat → Nat → Int) (A : Nat) (pre : List (Int × Int)) (W : World) : Prop where
  b0 : W.heap[w.heap.size]? = some (.cells #[.pointer (some ⟨p, o, none⟩)] 197 (0, 0))
  b1 : W.heap[w.heap.size + 1]? = some (.cells bx 66 (0, 0))
  b2 : W.heap[w.heap.size + 2]? = some (.cells #[.int .u16 0, .int .u16 0] 221 (0, 0))
  al : ∃ lo hi, W.heap[C]? = some (.cells #[.int .u16 lo, .int .u16 hi] 221 (0, 0)) ∧ ∀ q ∈ pre, lo ≤ f (tNo A q.1.toNat q.2.toNat) (iNo q.1.toNat q.2.toNat) ∧ f (tNo A q.1.toNat q.2.toNat) (iNo q.1.toNat q.2.toNat) ≤ hi
  ge : w.heap.size + 3 ≤ C
  lt : C < W.heap.size
  bel : Below w.heap.size w W

set_option maxRecDepth 100000 in
set_option maxHeartbeats 1000000 in
theorem spanIn16 (p o tB n A : Nat) (f : Nat → Nat → Int) (x y nx ny : Nat) (w : World) (hS : SurfU w p o tB A n .u16 201 f) (x1 : x + nx ≤ 24) (y1 : y + ny ≤ 24) (c1 : 1 ≤ nx) (r1 : 1 ≤ ny) (a1 : A ≤ 6) (hn' : n ≤ 36)
    (hin : ∀ X Y, x ≤ X → X < x + nx → y ≤ Y → Y < y + ny → tNo A X Y < n ∧ tNo A X Y = tNo A x y) :
    Calls Tryz.prog 127 #[.pointer (some ⟨p, o, none⟩), boxV x y nx ny] w fun e w' => ∃ lo hi, e = .returned (spn16 lo hi) ∧
      (∀ X Y, x ≤ X → X < x + nx → y ≤ Y → Y < y + ny → lo ≤ f (tNo A X Y) (iNo X Y) ∧ f (tNo A X Y) (iNo X Y) ≤ hi) ∧ Below w.heap.size w w' := by
  obtain ⟨cur, hb, hc⟩ := hS.blk
  have hn := (hin x y (Nat.le_refl _) (by omega) (Nat.le_refl _) (by omega)).1
  obtain ⟨m, a, d0, d1, hm, hp⟩ := hc.at_ _ hn
  obtain ⟨v, d2, hv⟩ := hp _ (iNo_lt x y)
  have hi := iNo_lt x y
  have lt := lt_of_heap hb
  have HF : Hid (∀ W, Below w.heap.size w W → Calls Tryz.prog 123 #[.pointer (some ⟨p, o, none⟩), .int .i64 x, .int .i64 y] W fun e w' => e = .returned (.tuple #[.pointer (some ⟨tB, tNo A x y * 18, none⟩), .int .i64 (iNo x y)]) ∧ Below W.heap.size W w') := fun W hW =>
    find16 p o tB n A x y W (hS.below hW).hA (hS.below hW).hT (by omega) (by omega) a1 hn hn'
  have HA : Hid (∀ X Y W, x ≤ X → X < x + nx → y ≤ Y → Y < y + ny → Below w.heap.size w W → Calls Tryz.prog 97 #[.pointer (some ⟨p, o, none⟩), .int .i64 X, .int .i64 Y] W fun e w' => e = .returned (.int .u16 (f (tNo A X Y) (iNo X Y))) ∧ Below W.heap.size W w') := fun X Y W h1 h2 h3 h4 hW =>
    at16 p o tB n A X Y f W (hS.below hW) (by omega) (by omega) a1 (hin X Y h1 h2 h3 h4).1 hn'
  have HS : Hid (∀ n W, Calls Tryz.prog 140 #[.int .u16 n] W fun e w' => e = .returned (spn16 n n) ∧ Below W.heap.size W w') := spanOf16
  have HT : Hid (∀ W, Below w.heap.size w W → W.cell? ⟨tB, tNo A x y * 18, none⟩ = some (.bool m) ∧ W.cell? ⟨tB, tNo A x y * 18 + 1, none⟩ = some (.int .u16 a) ∧ W.cell? ⟨tB, tNo A x y * 18 + 2 + iNo x y, none⟩ = some (.int .u16 v)) := fun W hW => by
    have cc := cell_of ((hW.block _ lt).trans hb)
    exact ⟨(cc _).trans d0, (cc _).trans d1, (cc _).trans d2⟩
  have HB3 : Hid (Below w.heap.size w (((w.alloc (.cells #[.pointer (some ⟨p, o, none⟩)] 197)).alloc (.cells #[.int .i64 x, .int .i64 y, .int .i64 nx, .int .i64 ny] 66)).alloc (.cells #[.int .u16 0, .int .u16 0] 221))) := ((below1.alloc (by simp) _).alloc (by simp; omega) _)
  have HW3 : Hid (∀ W, Below (((w.alloc (.cells #[.pointer (some ⟨p, o, none⟩)] 197)).alloc (.cells #[.int .i64 x, .int .i64 y, .int .i64 nx, .int .i64 ny] 66)).alloc (.cells #[.int .u16 0, .int .u16 0] 221)).heap.size (((w.alloc (.cells #[.pointer (some ⟨p, o, none⟩)] 197)).alloc (.cells #[.int .i64 x, .int .i64 y, .int .i64 nx, .int .i64 ny] 66)).alloc (.cells #[.int .u16 0, .int .u16 0] 221)) W →
      Below w.heap.size w W ∧ W.heap[w.heap.size]? = some (.cells #[.pointer (some ⟨p, o, none⟩)] 197 (0, 0)) ∧ W.heap[w.heap.size + 1]? = some (.cells #[.int .i64 x, .int .i64 y, .int .i64 nx, .int .i64 ny] 66 (0, 0)) ∧ W.heap[w.heap.size + 2]? = some (.cells #[.int .u16 0, .int .u16 0] 221 (0, 0))) := by
    intro W hW
    refine ⟨HB3.out.trans (hW.mono HB3.out.size), (hW.block _ (by simp; omega)).trans ?_, (hW.block _ (by simp)).trans ?_, (hW.block _ (by simp)).trans ?_⟩
    · exact (heap_alloc_old (by simp; omega) _).trans ((heap_alloc_old (by simp) _).trans (heap_alloc_new _ _))
    · exact (heap_alloc_old (by simp) _).trans (heap_alloc_at (by simp) _)
    · exact heap_alloc_at (by simp) _
  have i1 : ((iNo x y : Nat) : Int) < 16 := by omega
  refine (callsIn_wide (n := 0)).1 ?_
  refine callsIn_of_wp_marks Tryz.func127 rfl trivial ?_ rfl
  simp only [Tryz.ntmps127, List.size_toArray, List.length_cons, List.length_nil, Nat.reduceAdd, Nat.reduceSub, Array.replicate_succ, Array.replicate_zero, List.push_toArray, List.append_toArray, List.nil_append, List.cons_append]
  gi_wp2_with fail
  refine ⟨trivial, rfl, ?_⟩
  refine (callsIn_wide.2 (HF.out _ HB3.out)).mono ?_
  rintro e w1 ⟨rfl, hb1⟩
  obtain ⟨hl1, z0, z1, z2⟩ := HW3.out w1 hb1
  obtain ⟨t0, t1, t2⟩ := HT.out w1 hl1
  have cz := cell_of z2
  have fz := frozen_of z2
  have cb := cell_of z1
  cases m
  · have hv' : v = f (tNo A x y) (iNo x y) := hv rfl
    clear hv
    subst hv'
    gi_wp2_with fail
    refine ⟨trivial, rfl, ?_⟩
    refine (callsIn_wide.2 (HS.out _ _)).mono ?_
    rintro e w2 ⟨rfl, hb2⟩
    have hl2 : Below w.heap.size w w2 := hl1.trans (hb2.mono hl1.size)
    have s1 := lt_of_heap z2
    have s2 := hb2.size
    have HI0 : Hid (SnI w p o w2.heap.size #[.int .i64 x, .int .i64 y, .int .i64 nx, .int .i64 ny] f A [] (w2.alloc (.cells #[.int .u16 (f (tNo A x y) (iNo x y)), .int .u16 (f (tNo A x y) (iNo x y))] 221))) :=
      ⟨(heap_alloc_old (by omega) _).trans ((hb2.block _ (by omega)).trans z0), (heap_alloc_old (by omega) _).trans ((hb2.block _ (by omega)).trans z1), (heap_alloc_old (by omega) _).trans ((hb2.block _ (by omega)).trans z2), ⟨_, _, heap_alloc_new _ _, by simp⟩, by omega, by simp, hl2.alloc (by omega) _⟩
    have cb2 : ∀ ob (o : Nat), (w2.alloc ob).cell? ⟨w.heap.size + 1, o, none⟩ = #[Value.int .i64 x, .int .i64 y, .int .i64 nx, .int .i64 ny][o]? := fun ob o => (World.cell?_alloc_past _ _ _ (by omega)).trans (cell_of ((hb2.block _ (by omega)).trans z1) o)
    clear cz fz cb z0 z1 z2 t0 t1 t2 HF HT HB3 HW3
    gi_wp2_with fail
    refine range_law (gf := 102) (r := boxV x y nx ny) rfl (enters_of Tryz.func102 (by kernel_rfl) rfl) (eachPx x y nx ny (by omega) (by omega) (by omega) (by omega) (by omega) (by omega)).iter (fun _ => rfl)
      (fun pre W => w2.heap.size + 1 ≤ W.heap.size ∧ SnI w p o w2.heap.size #[.int .i64 x, .int .i64 y, .int .i64 nx, .int .i64 ny] f A pre W) ?hI ?hR ⟨by simp, HI0.out⟩
      (fun t => { tmps := #[.pointer (some ⟨p, o, none⟩), boxV x y nx ny, .pointer (some ⟨w.heap.size, 0, none⟩), .pointer (some ⟨w.heap.size + 1, 0, none⟩), .pointer (some ⟨w.heap.size + 1 + 1, 0, none⟩), .pointer (some ⟨tB, tNo A x y * 18, none⟩), .int .i64 (iNo x y), .pointer (some ⟨w2.heap.size, 0, none⟩), .int .i64 t.1, .int .i64 t.2, .tuple #[.pointer (some ⟨tB, tNo A x y * 18, none⟩), .int .i64 (iNo x y)], .pointer (some ⟨p, o, none⟩), .pointer (some ⟨w.heap.size + 1, 0, none⟩), .int .i64 x, .pointer (some ⟨w.heap.size + 1, 1, none⟩), .int .i64 y, .tuple #[.pointer (some ⟨tB, tNo A x y * 18, none⟩), .int .i64 (iNo x y)], .pointer (some ⟨tB, tNo A x y * 18, none⟩), .int .i64 (iNo x y), .pointer (some ⟨tB, tNo A x y * 18, none⟩), .pointer (some ⟨tB, tNo A x y * 18, none⟩), .pointer (some ⟨tB, tNo A x y * 18, none⟩), .bool false, undef, undef, undef, undef, undef, .pointer (some ⟨tB, tNo A x y * 18, none⟩), .int .i64 (iNo x y), .pointer (some ⟨tB, tNo A x y * 18, none⟩), .pointer (some ⟨tB, tNo A x y * 18 + 2, none⟩), .pointer (some ⟨tB, tNo A x y * 18 + 2 + iNo x y, none⟩), .int .u16 (f (tNo A x y) (iNo x y)), spn16 (f (tNo A x y) (iNo x y)) (f (tNo A x y) (iNo x y)), boxV x y nx ny, .func (.func 102) #[boxV x y nx ny] #[], .int .i64 t.1, .int .i64 t.2, undef, undef, undef, undef, undef, undef, undef], defers := [] }) ?hassign ?hbody ?hdone
    case hI =>
      rintro pre A' B hsz hbl ⟨hs, hi⟩
      simp only [World.size_alloc] at hsz hbl
      obtain ⟨lo, hi', hC, hq⟩ := hi.al
      exact ⟨Nat.le_trans hs hbl.size, (hbl.block _ (by omega)).trans hi.b0, (hbl.block _ (by omega)).trans hi.b1, (hbl.block _ (by omega)).trans hi.b2, ⟨lo, hi', (hbl.block _ (by omega)).trans hC, hq⟩, hi.ge, by have := hbl.size; omega, hi.bel.trans (hbl.mono (by omega))⟩
    case hR =>
      rintro pre A' ⟨hs, hi⟩
      exact ⟨by simpa using hs, trivial⟩
    case hassign =>
      intro l t W K hK'
      gi_wp2
      exact hK'
    case hbody =>
      rintro l pre t rest W hx ⟨hs, hi⟩
      have hmem : t ∈ rowsL (x : Int) nx ny y := by rw [hx]; simp
      rw [mem_rowsL] at hmem
      obtain ⟨X, Y, rfl⟩ : ∃ X Y : Nat, t = ((X : Int), (Y : Int)) := ⟨t.1.toNat, t.2.toNat, Prod.ext (by show t.1 = _; omega) (by show t.2 = _; omega)⟩
      dsimp only at hmem
      have hF := HA.out X Y
      obtain ⟨lo, hi', hC, hq⟩ := hi.al
      have HAt : Hid (∀ W', Below W.heap.size W W' → Calls Tryz.prog 97 #[.pointer (some ⟨p, o, none⟩), .int .i64 X, .int .i64 Y] W' fun e w' => e = .returned (.int .u16 (f (tNo A X Y) (iNo X Y))) ∧ Below W.heap.size W w' ∧ w'.cell? ⟨w2.heap.size, 0, none⟩ = some (.int .u16 lo) ∧ w'.cell? ⟨w2.heap.size, 1, none⟩ = some (.int .u16 hi') ∧ w'.cell? ⟨w.heap.size, 0, none⟩ = some (.pointer (some ⟨p, o, none⟩))) := by
        intro W' hW'
        refine (hF W' (by omega) (by omega) (by omega) (by omega) (hi.bel.trans (hW'.mono hi.bel.size))).mono ?_
        rintro e w' ⟨rfl, hb'⟩
        have h2 : Below W.heap.size W w' := hW'.trans (hb'.mono hW'.size)
        exact ⟨rfl, h2, cell_of ((h2.block _ hi.lt).trans hC) 0, cell_of ((h2.block _ hi.lt).trans hC) 1, cell_of ((h2.block _ (lt_of_heap hi.b0)).trans hi.b0) 0⟩
      have HWt : Hid (∀ W', Below W.heap.size W W' → Calls Tryz.prog 141 #[spn16 lo hi', .int .u16 (f (tNo A X Y) (iNo X Y))] W' fun e w' => e = .returned (spn16 (mn lo (f (tNo A X Y) (iNo X Y))) (mx hi' (f (tNo A X Y) (iNo X Y)))) ∧ Below W.heap.size W w' ∧ w'.cell? ⟨w2.heap.size, 0, none⟩ = some (.int .u16 lo) ∧ w'.cell? ⟨w2.heap.size, 1, none⟩ = some (.int .u16 hi') ∧ w'.frozen? ⟨w2.heap.size, 0, none⟩ = false ∧ w'.frozen? ⟨w2.heap.size, 1, none⟩ = false) := by
        intro W' hW'
        refine (with16 lo hi' (f (tNo A X Y) (iNo X Y)) W').mono ?_
        rintro e w' ⟨rfl, hb'⟩
        have h2 : Below W.heap.size W w' := hW'.trans (hb'.mono hW'.size)
        have h3 := (h2.block _ hi.lt).trans hC
        exact ⟨rfl, h2, cell_of h3 0, cell_of h3 1, frozen_of h3 0, frozen_of h3 1⟩
      have HE : Hid (∀ w4, Below W.heap.size W w4 → (w2.heap.size + 1 ≤ ((w4.setCell ⟨w2.heap.size, 0, none⟩ (.int .u16 (mn lo (f (tNo A X Y) (iNo X Y))))).setCell ⟨w2.heap.size, 1, none⟩ (.int .u16 (mx hi' (f (tNo A X Y) (iNo X Y))))).heap.size ∧ SnI w p o w2.heap.size #[.int .i64 x, .int .i64 y, .int .i64 nx, .int .i64 ny] f A (pre ++ [((X : Int), (Y : Int))]) ((w4.setCell ⟨w2.heap.size, 0, none⟩ (.int .u16 (mn lo (f (tNo A X Y) (iNo X Y))))).setCell ⟨w2.heap.size, 1, none⟩ (.int .u16 (mx hi' (f (tNo A X Y) (iNo X Y)))))) ∧
          ∀ k, w2.heap.size + 1 ≤ k → k < W.heap.size → ((w4.setCell ⟨w2.heap.size, 0, none⟩ (.int .u16 (mn lo (f (tNo A X Y) (iNo X Y))))).setCell ⟨w2.heap.size, 1, none⟩ (.int .u16 (mx hi' (f (tNo A X Y) (iNo X Y))))).heap[k]? = W.heap[k]?) := by
        intro w4 h4
        have hg := hi.ge
        have hw := h4.size
        have hC4 := (h4.block _ hi.lt).trans hC
        refine ⟨⟨by rw [hs_set, hs_set]; omega, ⟨?_, ?_, ?_, ⟨_, _, (heap_set_same (heap_set_same hC4 0 _) 1 _).trans rfl, ?_⟩, hi.ge, by rw [hs_set, hs_set]; have := hi.lt; omega, ?_⟩⟩, fun k h1 h2 => ?_⟩
        · rw [heap_set_ne (by omega), heap_set_ne (by omega)]; exact (h4.block _ (lt_of_heap hi.b0)).trans hi.b0
        · rw [heap_set_ne (by omega), heap_set_ne (by omega)]; exact (h4.block _ (lt_of_heap hi.b1)).trans hi.b1
        · rw [heap_set_ne (by omega), heap_set_ne (by omega)]; exact (h4.block _ (lt_of_heap hi.b2)).trans hi.b2
        · intro q hq'
          rw [List.mem_append, List.mem_singleton] at hq'
          unfold mn mx
          rcases hq' with hq' | rfl
          · have := hq q hq'
            omega
          · dsimp only
            rw [Int.toNat_natCast, Int.toNat_natCast]
            omega
        · exact ((hi.bel.trans (h4.mono hi.bel.size)).setCell (by dsimp only; omega) _).setCell (by dsimp only; omega) _
        · rw [heap_set_ne (by omega), heap_set_ne (by omega)]; exact h4.block k h2
      have k0 := cell_of hC
      have k1 := cell_of hi.b0
      have fC := frozen_of hC
      have hmx : Tryz.prog.follows .mixedOrders = true := by kernel_rfl
      have hne : w.heap.size ≠ w2.heap.size := by have := hi.ge; omega
      have HB0 : Hid (Below W.heap.size W W.drew) := (Below.refl _ _).drew
      clear hi hq hC hx hF HA HI0 hmem HS hin
      generalize f (tNo A X Y) (iNo X Y) = V at *
      dsimp only
      gi_wp2_with fail
      gi_region_with_o (first
        | (have hx := hb3; refine ⟨trivial, rfl, ?_⟩; refine (CallsIn.inRound l (callsIn_wide.2 (HWt.out _ hb3))).mono ?_; rintro e w4 ⟨rfl, hb4, r0, r1, r2, r3⟩)
        | (refine ⟨trivial, rfl, ?_⟩; refine (CallsIn.inRound l (callsIn_wide.2 (HAt.out _ HB0.out))).mono ?_; rintro e w3 ⟨rfl, hb3, q0, q1, q2⟩))
      all_goals
        gi_wp2_with fail
        obtain ⟨⟨e1, e2⟩, e3⟩ := HE.out _ hb4
        first
          | exact ⟨⟨by simpa [hs_set] using e1, e2⟩, e3⟩
          | exact ⟨e2, e3⟩
          | exact ⟨by simpa [hs_set] using e1, e2, e3⟩
          | exact e3
    case hdone =>
      rintro D W' hD ⟨hs, hi⟩ hK'
      obtain ⟨lo, hi', hC, hq⟩ := hi.al
      have cC := cell_of hC
      have c2 := cell_of hi.b2
      have f2 := frozen_of hi.b2
      have hg := hi.ge
      have e2 : w.heap.size + 2 = w.heap.size + 1 + 1 := rfl
      rw [e2] at c2 f2
      have HQ : Hid (∀ X Y : Nat, x ≤ X → X < x + nx → y ≤ Y → Y < y + ny → lo ≤ f (tNo A X Y) (iNo X Y) ∧ f (tNo A X Y) (iNo X Y) ≤ hi') := fun X Y h1 h2 h3 h4 => by
        have := hq ((X : Int), (Y : Int)) (by rw [mem_rowsL]; dsimp only; omega)
        simpa using this
      have HBel : Hid (Below w.heap.size w W') := hi.bel
      have hD' : w2.heap.size + 1 ≤ D := by simpa using hD
      have hK2 : ((W'.setCell ⟨w.heap.size + 1 + 1, 0, none⟩ (.int .u16 lo)).setCell ⟨w.heap.size + 1 + 1, 1, none⟩ (.int .u16 hi')).heap[D]? = some (.deferred (some [])) := by rw [heap_set_ne (by omega), heap_set_ne (by omega)]; exact hK'
      have hC2 : (((W'.setCell ⟨w.heap.size + 1 + 1, 0, none⟩ (.int .u16 lo)).setCell ⟨w.heap.size + 1 + 1, 1, none⟩ (.int .u16 hi')).putObj D (.deferred none)).heap[w.heap.size + 1 + 1]? = some (.cells #[.int .u16 lo, .int .u16 hi'] 221 (0, 0)) :=
        (World.putObj_heap_other (by omega)).trans ((heap_set_same (heap_set_same hi.b2 0 _) 1 _).trans rfl)
      have cC2 := cell_of hC2
      have HB2 : Hid (Below w.heap.size w (((W'.setCell ⟨w.heap.size + 1 + 1, 0, none⟩ (.int .u16 lo)).setCell ⟨w.heap.size + 1 + 1, 1, none⟩ (.int .u16 hi')).putObj D (.deferred none))) :=
        ((HBel.out.setCell (p := ⟨w.heap.size + 1 + 1, 0, none⟩) (by dsimp only; omega) _).setCell (p := ⟨w.heap.size + 1 + 1, 1, none⟩) (by dsimp only; omega) _).trans (below_put (by omega) _)
      clear hi hq e2 hC hC2
      gi_wp2_with fail
      refine ⟨by simp, .inl ⟨_, _, rfl, run_takeDeferred hK2, ?_⟩⟩
      exact ⟨spn16 lo hi', by simp [results, Tryz.results127, go_sem, cC2], lo, hi', rfl, HQ.out, HB2.out⟩
  · have ha : ∀ i, i < 16 → a = f (tNo A x y) i := hm rfl
    clear HA
    gi_wp2_with fail
    refine ⟨trivial, rfl, ?_⟩
    refine (callsIn_wide.2 (HS.out _ _)).mono ?_
    rintro e w2 ⟨rfl, hb2⟩
    have z3 := (hb2.block _ (lt_of_heap z2)).trans z2
    have c3 := cell_of z3
    have f3 := frozen_of z3
    have hl2 : Below w.heap.size w w2 := hl1.trans (hb2.mono hl1.size)
    have e2 : w.heap.size + 2 = w.heap.size + 1 + 1 := rfl
    rw [e2] at c3 f3
    clear e2
    gi_wp2_with fail
    refine ⟨spn16 a a, by simp [results, Tryz.results127, go_sem, c3], a, a, rfl, fun X Y h1 h2 h3 h4 => ?_, (hl2.setCell (by dsimp only; omega) _).setCell (by dsimp only; omega) _⟩
    rw [(hin X Y h1 h2 h3 h4).2, ← ha _ (iNo_lt X Y)]
    exact ⟨Int.le_refl _, Int.le_refl _⟩
end Go.Proofs.YthcikinkicpicaaGreatDoor

namespace Go.Proofs.YthcikinkicpicaaGreatDoor
open Go.RowKit Go.Shelf
attribute [local go_sem] Oper.semAt_some

/-- While a tile's pixels are held against its first. -/
structure JnI (w : World) (p o tB T0 fi C : Nat) (bx : Array Value) (v : Int) (f : Nat → Nat → Int) (A : Nat) (pre : List (Int × Int)) (W : World) : Prop where
  b0 : W.heap[w.heap.size]? = some (.cells #[.pointer (some ⟨p, o, none⟩)] 197 (0, 0))
  b1 : W.heap[w.heap.size + 1]? = some (.cells bx 66 (0, 0))
  b2 : W.heap[C]? = some (.cells #[.pointer (some ⟨tB, T0, none⟩)] 144 (0, 0))
  b3 : W.heap[C + 1]? = some (.cells #[.int .i64 fi] 3 (0, 0))
  al : ∀ q ∈ pre, f (tNo A q.1.toNat q.2.toNat) (iNo q.1.toNat q.2.toNat) = v
  ge : w.heap.size + 2 ≤ C
  bel : Below w.heap.size w W

/-- What a join leaves. -/
def JoinPost (p o tB n A : Nat) (f : Nat → Nat → Int) (x y nx ny : Nat) (w : World) (e : Ending) (w' : World) : Prop :=
  e = .returned (.tuple #[]) ∧ (∃ f', SurfU w' p o tB A n .u16 201 f' ∧ (∀ t i, t ≠ tNo A x y → f' t i = f t i) ∧ ∀ X Y, x ≤ X → X < x + nx → y ≤ Y → Y < y + ny → f' (tNo A X Y) (iNo X Y) = f (tNo A X Y) (iNo X Y)) ∧ Kept (· = tB) w w'

set_option maxRecDepth 100000 in
set_option maxHeartbeats 2000000 in
theorem join16 (p o tB n A : Nat) (f : Nat → Nat → Int) (x y nx ny : Nat) (w : World) (hS : SurfU w p o tB A n .u16 201 f) (hne : tB ≠ p) (x1 : x + nx ≤ 24) (y1 : y + ny ≤ 24) (c1 : 1 ≤ nx) (r1 : 1 ≤ ny) (a1 : A ≤ 6) (hn' : n ≤ 36)
    (hin : ∀ X Y, x ≤ X → X < x + nx → y ≤ Y → Y < y + ny → tNo A X Y < n ∧ tNo A X Y = tNo A x y) :
    Calls Tryz.prog 104 #[.pointer (some ⟨p, o, none⟩), boxV x y nx ny] w (JoinPost p o tB n A f x y nx ny w) := by
  obtain ⟨cur, hb, hc⟩ := hS.blk
  have hn := (hin x y (Nat.le_refl _) (by omega) (Nat.le_refl _) (by omega)).1
  obtain ⟨m, a, d0, d1, hm, hp⟩ := hc.at_ _ hn
  obtain ⟨v, d2, hv⟩ := hp _ (iNo_lt x y)
  have hi := iNo_lt x y
  have lt := lt_of_heap hb
  have lp : p < w.heap.size := World.block_lt_of_cell? w ⟨p, o, none⟩ hS.hA
  have HF : Hid (∀ W, Below w.heap.size w W → Calls Tryz.prog 123 #[.pointer (some ⟨p, o, none⟩), .int .i64 x, .int .i64 y] W fun e w' => e = .returned (.tuple #[.pointer (some ⟨tB, tNo A x y * 18, none⟩), .int .i64 (iNo x y)]) ∧ Below W.heap.size W w') := fun W hW =>
    find16 p o tB n A x y W (hS.below hW).hA (hS.below hW).hT (by omega) (by omega) a1 hn hn'
  have HA : Hid (∀ X Y W, x ≤ X → X < x + nx → y ≤ Y → Y < y + ny → Below w.heap.size w W → Calls Tryz.prog 97 #[.pointer (some ⟨p, o, none⟩), .int .i64 X, .int .i64 Y] W fun e w' => e = .returned (.int .u16 (f (tNo A X Y) (iNo X Y))) ∧ ∃ m, w' = W.drewN m) := fun X Y W h1 h2 h3 h4 hW =>
    at16q p o tB n A X Y f W (hS.below hW) (by omega) (by omega) a1 (hin X Y h1 h2 h3 h4).1 hn'
  have HT : Hid (∀ W, Below w.heap.size w W → W.cell? ⟨tB, tNo A x y * 18, none⟩ = some (.bool m) ∧ W.cell? ⟨tB, tNo A x y * 18 + 2 + iNo x y, none⟩ = some (.int .u16 v)) := fun W hW => by
    have cc := cell_of ((hW.block _ lt).trans hb)
    exact ⟨(cc _).trans d0, (cc _).trans d2⟩
  have HS0 : Hid (∀ W, Below w.heap.size w W → JoinPost p o tB n A f x y nx ny w (.returned (.tuple #[])) W) := fun W hW => ⟨rfl, ⟨f, hS.below hW, fun _ _ _ => rfl, fun _ _ _ _ _ _ => rfl⟩, (Kept.refl _ w).below hW⟩
  have HB2 : Hid (Below w.heap.size w ((w.alloc (.cells #[.pointer (some ⟨p, o, none⟩)] 197)).alloc (.cells #[.int .i64 x, .int .i64 y, .int .i64 nx, .int .i64 ny] 66))) := below2
  have HW3 : Hid (∀ w1, Below ((w.alloc (.cells #[.pointer (some ⟨p, o, none⟩)] 197)).alloc (.cells #[.int .i64 x, .int .i64 y, .int .i64 nx, .int .i64 ny] 66)).heap.size ((w.alloc (.cells #[.pointer (some ⟨p, o, none⟩)] 197)).alloc (.cells #[.int .i64 x, .int .i64 y, .int .i64 nx, .int .i64 ny] 66)) w1 →
      JnI w p o tB (tNo A x y * 18) (iNo x y) w1.heap.size #[.int .i64 x, .int .i64 y, .int .i64 nx, .int .i64 ny] v f A [] ((w1.alloc (.cells #[.pointer (some ⟨tB, tNo A x y * 18, none⟩)] 144)).alloc (.cells #[.int .i64 (iNo x y)] 3))) := by
    intro w1 hW
    have l1 := hW.size
    simp only [World.size_alloc] at l1
    refine ⟨?_, ?_, ?_, ?_, by simp, by omega, ((HB2.out.trans (hW.mono HB2.out.size)).alloc (by omega) _).alloc (by simp; omega) _⟩
    · exact (heap_alloc_old (by simp; omega) _).trans ((heap_alloc_old (by omega) _).trans ((hW.block _ (by simp; omega)).trans ((heap_alloc_old (by simp) _).trans (heap_alloc_new _ _))))
    · exact (heap_alloc_old (by simp; omega) _).trans ((heap_alloc_old (by omega) _).trans ((hW.block _ (by simp)).trans (heap_alloc_at (by simp) _)))
    · exact (heap_alloc_old (by simp) _).trans (heap_alloc_new _ _)
    · exact heap_alloc_at (by simp) _
  have i1 : ((iNo x y : Nat) : Int) < 16 := by omega
  refine (callsIn_wide (n := 0)).1 ?_
  refine callsIn_of_wp_marks Tryz.func104 rfl trivial ?_ rfl
  simp only [Tryz.ntmps104, List.size_toArray, List.length_cons, List.length_nil, Nat.reduceAdd, Nat.reduceSub, Array.replicate_succ, Array.replicate_zero, List.push_toArray, List.append_toArray, List.nil_append, List.cons_append]
  gi_wp2_with fail
  refine ⟨trivial, rfl, ?_⟩
  refine (callsIn_wide.2 (HF.out _ HB2.out)).mono ?_
  rintro e w1 ⟨rfl, hb1⟩
  have hI0 := HW3.out w1 hb1
  have s1 := hb1.size
  have HI0 : Hid (JnI w p o tB (tNo A x y * 18) (iNo x y) w1.heap.size #[.int .i64 x, .int .i64 y, .int .i64 nx, .int .i64 ny] v f A [] ((w1.alloc (.cells #[.pointer (some ⟨tB, tNo A x y * 18, none⟩)] 144)).alloc (.cells #[.int .i64 (iNo x y)] 3))) := hI0
  obtain ⟨t0, t1⟩ := HT.out _ hI0.bel
  have cb := cell_of hI0.b1
  clear hI0 HF HW3 HB2
  cases m
  · have hv' : v = f (tNo A x y) (iNo x y) := hv rfl
    gi_wp2_with fail
    refine range_lawL (gf := 102) (r := boxV x y nx ny) rfl (enters_of Tryz.func102 (by kernel_rfl) rfl) (eachPx x y nx ny (by omega) (by omega) (by omega) (by omega) (by omega) (by omega)) (fun _ => rfl)
      (fun pre W => w1.heap.size + 2 ≤ W.heap.size ∧ JnI w p o tB (tNo A x y * 18) (iNo x y) w1.heap.size #[.int .i64 x, .int .i64 y, .int .i64 nx, .int .i64 ny] v f A pre W) (fun W => w1.heap.size + 2 ≤ W.heap.size ∧ Below w.heap.size w W) ?hI ?hL ?hR ⟨by simp, HI0.out⟩
      (fun t => { tmps := #[.pointer (some ⟨p, o, none⟩), boxV x y nx ny, .pointer (some ⟨w.heap.size, 0, none⟩), .pointer (some ⟨w.heap.size + 1, 0, none⟩), .pointer (some ⟨w1.heap.size, 0, none⟩), .pointer (some ⟨w1.heap.size + 1, 0, none⟩), .int .i64 t.1, .int .i64 t.2, .tuple #[.pointer (some ⟨tB, tNo A x y * 18, none⟩), .int .i64 (iNo x y)], .pointer (some ⟨p, o, none⟩), .pointer (some ⟨w.heap.size + 1, 0, none⟩), .int .i64 x, .pointer (some ⟨w.heap.size + 1, 1, none⟩), .int .i64 y, .tuple #[.pointer (some ⟨tB, tNo A x y * 18, none⟩), .int .i64 (iNo x y)], .pointer (some ⟨tB, tNo A x y * 18, none⟩), .int .i64 (iNo x y), .pointer (some ⟨tB, tNo A x y * 18, none⟩), .pointer (some ⟨tB, tNo A x y * 18, none⟩), .pointer (some ⟨tB, tNo A x y * 18, none⟩), .bool false, boxV x y nx ny, .func (.func 102) #[boxV x y nx ny] #[], .int .i64 t.1, .int .i64 t.2, undef, undef, undef, undef, undef, undef, undef, undef, undef, undef, undef, undef, undef, undef, undef, undef, undef, undef, undef], defers := [] }) ?hassign ?hbody ?hdone ?hleft
    case hI =>
      rintro pre A' B hsz hbl ⟨hs, hi⟩
      simp only [World.size_alloc] at hsz hbl
      have hg := hi.ge
      exact ⟨Nat.le_trans hs hbl.size, (hbl.block _ (by omega)).trans hi.b0, (hbl.block _ (by omega)).trans hi.b1, (hbl.block _ (by omega)).trans hi.b2, (hbl.block _ (by omega)).trans hi.b3, hi.al, hi.ge, hi.bel.trans (hbl.mono (by omega))⟩
    case hL =>
      rintro A' B hsz hbl ⟨hs, hi⟩
      simp only [World.size_alloc] at hsz hbl
      have hg := HI0.out.ge
      exact ⟨Nat.le_trans hs hbl.size, hi.trans (hbl.mono (by omega))⟩
    case hR =>
      rintro pre A' ⟨hs, hi⟩
      simpa using hs
    case hassign =>
      intro l t W K hK'
      gi_wp2
      exact hK'
    case hbody =>
      rintro l pre t rest W hx ⟨hs, hi⟩
      have hmem : t ∈ rowsL (x : Int) nx ny y := by rw [hx]; simp
      rw [mem_rowsL] at hmem
      obtain ⟨X, Y, rfl⟩ : ∃ X Y : Nat, t = ((X : Int), (Y : Int)) := ⟨t.1.toNat, t.2.toNat, Prod.ext (by show t.1 = _; omega) (by show t.2 = _; omega)⟩
      dsimp only at hmem
      have hF := HA.out X Y
      obtain ⟨z0, z1⟩ := HT.out W hi.bel
      have HAt : Hid (∀ W', (∃ m, W' = W.drewN m) ∨ W' = W.drew → Calls Tryz.prog 97 #[.pointer (some ⟨p, o, none⟩), .int .i64 X, .int .i64 Y] W' fun e w' => e = .returned (.int .u16 (f (tNo A X Y) (iNo X Y))) ∧ ∃ m', w' = W.drewN m') := by
        rintro W' (⟨m, rfl⟩ | rfl)
        · refine (hF _ (by omega) (by omega) (by omega) (by omega) (hi.bel.drewN' m)).mono ?_
          rintro e w' ⟨rfl, m', rfl⟩
          exact ⟨rfl, _, World.drewN_drewN _ _ _⟩
        · refine (hF _ (by omega) (by omega) (by omega) (by omega) hi.bel.drew).mono ?_
          rintro e w' ⟨rfl, m', rfl⟩
          exact ⟨rfl, 1 + m', World.drewN_drewN _ 1 _⟩
      have HE1 : Hid (∀ w4, Below W.heap.size W w4 → f (tNo A X Y) (iNo X Y) = v → (w1.heap.size + 2 ≤ w4.heap.size ∧ JnI w p o tB (tNo A x y * 18) (iNo x y) w1.heap.size #[.int .i64 x, .int .i64 y, .int .i64 nx, .int .i64 ny] v f A (pre ++ [((X : Int), (Y : Int))]) w4) ∧ ∀ k, w1.heap.size + 2 ≤ k → k < W.heap.size → w4.heap[k]? = W.heap[k]?) := by
        intro w4 h4 he
        refine ⟨⟨Nat.le_trans hs h4.size, ⟨(h4.block _ (lt_of_heap hi.b0)).trans hi.b0, (h4.block _ (lt_of_heap hi.b1)).trans hi.b1, (h4.block _ (lt_of_heap hi.b2)).trans hi.b2, (h4.block _ (lt_of_heap hi.b3)).trans hi.b3, ?_, hi.ge, hi.bel.trans (h4.mono hi.bel.size)⟩⟩, fun k _ h2 => h4.block k h2⟩
        intro q hq'
        rw [List.mem_append, List.mem_singleton] at hq'
        rcases hq' with hq' | rfl
        · exact hi.al q hq'
        · dsimp only
          rw [Int.toNat_natCast, Int.toNat_natCast]; exact he
      have HE2 : Hid (∀ w4, Below W.heap.size W w4 → (w1.heap.size + 2 ≤ w4.heap.size ∧ Below w.heap.size w w4) ∧ ∀ k, w1.heap.size + 2 ≤ k → k < W.heap.size → w4.heap[k]? = W.heap[k]?) := fun w4 h4 => ⟨⟨Nat.le_trans hs h4.size, hi.bel.trans (h4.mono hi.bel.size)⟩, fun k _ h2 => h4.block k h2⟩
      have k0 := cell_of hi.b0
      have k2 := cell_of hi.b2
      have k3 := cell_of hi.b3
      have hmx : Tryz.prog.follows .mixedOrders = true := by kernel_rfl
      have HB0 : Hid (Below W.heap.size W W.drew) := (Below.refl _ _).drew
      clear hi hx hF HA HI0 hmem HT hin HS0 cb t0 t1 hv' hv hm hp hc hb hS d0 d1 d2
      generalize f (tNo A X Y) (iNo X Y) = V at *
      dsimp only
      gi_wp2_with fail
      refine region_held_round 11 (by rfl) (S := fun w' => w'.cell? ⟨w1.heap.size, 0, none⟩ = some (.pointer (some ⟨tB, tNo A x y * 18, none⟩)) ∧ w'.cell? ⟨w1.heap.size + 1, 0, none⟩ = some (.int .i64 (iNo x y)) ∧ w'.cell? ⟨w.heap.size, 0, none⟩ = some (.pointer (some ⟨p, o, none⟩)) ∧ w'.cell? ⟨tB, tNo A x y * 18 + 2 + iNo x y, none⟩ = some (.int .u16 v)) hmx (by rfl) ?_ ?_
      · rintro ⟨a', w', h'⟩
        obtain ⟨h1 | h1, _⟩ := h'
        · cases h1.1
        · cases h1.1
      · have hS : (fun w' : World => w'.cell? ⟨w1.heap.size, 0, none⟩ = some (.pointer (some ⟨tB, tNo A x y * 18, none⟩)) ∧ w'.cell? ⟨w1.heap.size + 1, 0, none⟩ = some (.int .i64 (iNo x y)) ∧ w'.cell? ⟨w.heap.size, 0, none⟩ = some (.pointer (some ⟨p, o, none⟩)) ∧ w'.cell? ⟨tB, tNo A x y * 18 + 2 + iNo x y, none⟩ = some (.int .u16 v)) W.drew := ⟨k2 0, k3 0, k0 0, z1⟩
        refine wpAnyH_take (i := 0) (v := ?v0) rfl (by kernel_rfl) (by kernel_rfl) (by kernel_rfl) (fun _ _ _ h => h) (Or.inl ⟨by rfl, ?hy0⟩) hS ?rest0
        case hy0 => (intro w hSw; obtain ⟨s0, s1, s2, s3⟩ := hSw; go_simp; try with_reducible rfl)
        simp only [Act.put, List.setIfInBounds_toArray, List.set_cons_zero, List.set_cons_succ, List.getElem_toArray, List.getElem_cons_zero]
        refine wpAnyH_take (i := 1) (v := ?v1) rfl (by kernel_rfl) (by kernel_rfl) (by kernel_rfl) (fun _ _ _ h => h) (Or.inl ⟨by rfl, ?hy1⟩) hS ?rest1
        case hy1 => (intro w hSw; obtain ⟨s0, s1, s2, s3⟩ := hSw; go_simp; try with_reducible rfl)
        simp only [Act.put, List.setIfInBounds_toArray, List.set_cons_zero, List.set_cons_succ, List.getElem_toArray, List.getElem_cons_zero, List.getElem_cons_succ]
        refine wpAnyH_take (i := 2) (v := ?v2) rfl (by kernel_rfl) (by kernel_rfl) (by kernel_rfl) (fun _ _ _ h => h) (Or.inl ⟨by rfl, ?hy2⟩) hS ?rest2
        case hy2 => (intro w hSw; obtain ⟨s0, s1, s2, s3⟩ := hSw; go_simp; try with_reducible rfl)
        simp only [Act.put, List.setIfInBounds_toArray, List.set_cons_zero, List.set_cons_succ, List.getElem_toArray, List.getElem_cons_zero, List.getElem_cons_succ]
        refine wpAnyH_take (i := 4) (v := ?v4) rfl (by kernel_rfl) (by kernel_rfl) (by kernel_rfl) (fun _ _ _ h => h) (Or.inl ⟨by rfl, ?hy4⟩) hS ?rest4
        case hy4 => (intro w hSw; obtain ⟨s0, s1, s2, s3⟩ := hSw; go_simp; try with_reducible rfl)
        simp only [Act.put, List.setIfInBounds_toArray, List.set_cons_zero, List.set_cons_succ, List.getElem_toArray, List.getElem_cons_zero, List.getElem_cons_succ]
        refine wpAnyH_take (i := 5) (v := ?v5) rfl (by kernel_rfl) (by kernel_rfl) (by kernel_rfl) (fun _ _ _ h => h) (Or.inl ⟨by rfl, ?hy5⟩) hS ?rest5
        case hy5 => (intro w hSw; obtain ⟨s0, s1, s2, s3⟩ := hSw; go_simp; try with_reducible rfl)
        simp only [Act.put, List.setIfInBounds_toArray, List.set_cons_zero, List.set_cons_succ, List.getElem_toArray, List.getElem_cons_zero, List.getElem_cons_succ]
        refine wpAnyH_take (i := 6) (v := ?v6) rfl (by kernel_rfl) (by kernel_rfl) (by kernel_rfl) (fun _ _ _ h => h) (Or.inl ⟨by rfl, ?hy6⟩) hS ?rest6
        case hy6 => (intro w hSw; obtain ⟨s0, s1, s2, s3⟩ := hSw; go_simp; try with_reducible rfl)
        simp only [Act.put, List.setIfInBounds_toArray, List.set_cons_zero, List.set_cons_succ, List.getElem_toArray, List.getElem_cons_zero, List.getElem_cons_succ]
        refine wpAnyH_take (i := 7) (v := ?v7) rfl (by kernel_rfl) (by kernel_rfl) (by kernel_rfl) (fun _ _ _ h => h) (Or.inl ⟨by rfl, ?hy7⟩) hS ?rest7
        case hy7 => (intro w hSw; obtain ⟨s0, s1, s2, s3⟩ := hSw; go_simp; try with_reducible rfl)
        simp only [Act.put, List.setIfInBounds_toArray, List.set_cons_zero, List.set_cons_succ, List.getElem_toArray, List.getElem_cons_zero, List.getElem_cons_succ]
        refine wpAnyH_take (i := 8) (v := ?v8) rfl (by kernel_rfl) (by kernel_rfl) (by kernel_rfl) (fun _ _ _ h => h) (Or.inl ⟨by rfl, ?hy8⟩) hS ?rest8
        case hy8 => (intro w hSw; obtain ⟨s0, s1, s2, s3⟩ := hSw; go_simp; try with_reducible rfl)
        simp only [Act.put, List.setIfInBounds_toArray, List.set_cons_zero, List.set_cons_succ, List.getElem_toArray, List.getElem_cons_zero, List.getElem_cons_succ]
        refine wpAnyH_take (i := 9) (v := ?v9) rfl (by kernel_rfl) (by kernel_rfl) (by kernel_rfl) (fun _ _ _ h => h) (Or.inl ⟨by rfl, ?hy9⟩) hS ?rest9
        case hy9 => (intro w hSw; obtain ⟨s0, s1, s2, s3⟩ := hSw; go_simp; try with_reducible rfl)
        simp only [Act.put, List.setIfInBounds_toArray, List.set_cons_zero, List.set_cons_succ, List.getElem_toArray, List.getElem_cons_zero, List.getElem_cons_succ]
        refine wpAnyH_ready (rs := [3]) (by kernel_rfl) (by simp) ?_
        refine AllReadyH.cons rfl (fun K hK => ?_) AllReadyH.nil
        go_simp
        refine (HAt.out _ (.inr rfl)).mono ?_
        rintro e w3 ⟨rfl, m3, rfl⟩
        refine hK.out _ _ ⟨k2 0, k3 0, k0 0, z1⟩ (fun hS => ?_)
        clear hK K
        refine wpAnyH_take (i := 10) (v := ?v10) rfl (by kernel_rfl) (by kernel_rfl) (by kernel_rfl) (fun _ _ _ h => h) (Or.inl ⟨by rfl, ?hy10⟩) hS ?rest10
        case hy10 => (intro w hSw; go_simp; try with_reducible rfl)
        simp only [Act.put, List.setIfInBounds_toArray, List.set_cons_zero, List.set_cons_succ, List.getElem_toArray, List.getElem_cons_zero, List.getElem_cons_succ]
        refine wpAnyH_done (by kernel_rfl) ?_ _
        have HB3 : Hid (Below W.heap.size W (W.drewN m3)) := (Below.refl _ _).drewN' m3
        clear hS k0 k2 k3 z0 z1 HAt HB0
        by_cases hV : V = v
        · have hV' : (V != v) = false := by simpa using hV
          have HV : Hid (V = v) := hV
          clear hV
          gi_wp2_with fail
          exact (HE1.out _ HB3.out HV.out).1.2
        · have hV' : (V != v) = true := by simpa using hV
          clear hV
          gi_wp2_with fail
          exact (HE2.out _ HB3.out).1.2
    case hdone =>
      rintro D W' hD ⟨hs, hi⟩ hK'
      have hD' : w1.heap.size + 2 ≤ D := by simpa using hD
      obtain ⟨z0, z1⟩ := HT.out W' hi.bel
      have k2 := cell_of hi.b2
      have k3 := cell_of hi.b3
      have hbW := (hi.bel.block _ lt).trans hb
      have HMk : Hid (∀ W'', (∃ m, W'' = W'.drewN m) ∨ W'' = W'.drew → Calls Tryz.prog 77 #[.pointer (some ⟨tB, tNo A x y * 18, none⟩), .int .u16 v] W'' fun e w' => e = .returned (.tuple #[]) ∧ w'.heap[D]? = some (.deferred (some [])) ∧ JoinPost p o tB n A f x y nx ny w (.returned (.tuple #[])) (w'.putObj D (.deferred none)) ∧ w'.cell? ⟨w1.heap.size, 0, none⟩ = some (.pointer (some ⟨tB, tNo A x y * 18, none⟩)) ∧ w'.cell? ⟨w1.heap.size + 1, 0, none⟩ = some (.int .i64 (iNo x y)) ∧ w'.cell? ⟨tB, tNo A x y * 18 + 2 + iNo x y, none⟩ = some (.int .u16 v)) := by
        intro W'' hW''
        have hW2 : W''.heap = W'.heap ∧ Below W'.heap.size W' W'' := by
          rcases hW'' with ⟨m, rfl⟩ | rfl
          · exact ⟨rfl, (Below.refl _ _).drewN' m⟩
          · exact ⟨rfl, (Below.refl _ _).drew⟩
        refine (mark16 tB n (tNo A x y) v cur W'' (by rw [hW2.1]; exact hbW) hc.sz hn).mono ?_
        rintro e w' ⟨rfl, hb', hk'⟩
        have lD := lt_of_heap hK'
        have hDw : w'.heap[D]? = some (.deferred (some [])) := (hk'.block D (by rw [hW2.1]; exact lD) (by have := hi.ge; have := hi.bel.size; omega)).trans (by rw [hW2.1]; exact hK')
        have hkw : Kept (· = tB) w w' := ((Kept.refl _ w).below (hi.bel.trans (hW2.2.mono hi.bel.size))).trans hk'
        have hg := hi.ge
        have hwl := hi.bel.size
        have hc1 := cell_of ((hk'.block _ (by rw [hW2.1]; exact lt_of_heap hi.b2) (by omega)).trans ((congrArg (·[w1.heap.size]?) hW2.1).trans hi.b2)) 0
        have hc2 := cell_of ((hk'.block _ (by rw [hW2.1]; exact lt_of_heap hi.b3) (by omega)).trans ((congrArg (·[w1.heap.size + 1]?) hW2.1).trans hi.b3)) 0
        have hc3 : w'.cell? ⟨tB, tNo A x y * 18 + 2 + iNo x y, none⟩ = some (.int .u16 v) := by
          rw [cell_of hb', Array.getElem?_setIfInBounds_ne (by omega), Array.getElem?_setIfInBounds_ne (by omega)]; exact d2
        refine ⟨rfl, hDw, ⟨rfl, ⟨fun t i => if t = tNo A x y then v else f t i, ⟨?_, ?_, _, (World.putObj_heap_other (by omega)).trans hb', hc.mark hn v⟩, fun t i ht => by simp [ht], fun X Y h1 h2 h3 h4 => ?_⟩, ?_⟩, hc1, hc2, hc3⟩
        · exact (World.cell?_of_block (a := ⟨p, o, none⟩) ((World.putObj_heap_other (by show p ≠ D; omega)).trans (hkw.block p lp (fun e => hne e.symm)))).trans hS.hA
        · exact (World.cell?_of_block (a := ⟨p, o + 1, none⟩) ((World.putObj_heap_other (by show p ≠ D; omega)).trans (hkw.block p lp (fun e => hne e.symm)))).trans hS.hT
        · have := hi.al ((X : Int), (Y : Int)) (by rw [mem_rowsL]; dsimp only; omega)
          simp only [Int.toNat_natCast] at this
          dsimp only
          rw [this, if_pos (hin X Y h1 h2 h3 h4).2]
        · exact ⟨hkw.os, hkw.tape, hkw.output, by rw [World.putObj_size]; exact hkw.size, fun kk hk hs' => (World.putObj_heap_other (by omega)).trans (hkw.block kk hk hs')⟩
      clear hi hK' HA HT HS0 HI0 hS hc hb hbW cb t0 t1 hv' hv hm hp d0 d1 d2 hin
      gi_wp2_with fail
      refine wpIn_wide.2 (Code.wp_mono (Q := Exit.then (fun a' W'' => bodyPostM Fence.wide 0 Tryz.prog Tryz.f104 (JoinPost p o tB n A f x y nx ny w) .normal a' W'') (fun _ _ _ => False)) (by intro e a' w' h'; cases e <;> first | exact h' | exact h'.elim) ?_)
      go_region_held (fun w' => w'.cell? ⟨w1.heap.size, 0, none⟩ = some (.pointer (some ⟨tB, tNo A x y * 18, none⟩)) ∧ w'.cell? ⟨w1.heap.size + 1, 0, none⟩ = some (.int .i64 (iNo x y)) ∧ w'.cell? ⟨tB, tNo A x y * 18 + 2 + iNo x y, none⟩ = some (.int .u16 v)) (go_keep)
        ((go_at_call 77; refine (HMk.out _ (.inr rfl)).mono ?_; rintro e w4 ⟨rfl, hd4, hj4, q0, q1, q2⟩))
      all_goals
        refine ⟨by simp, .inl ⟨_, _, rfl, run_takeDeferred hd4, ?_⟩⟩
        exact ⟨_, results_none rfl _ _ _, hj4⟩
    case hleft =>
      rintro D W' hD ⟨hs, hi⟩ hK'
      have hD' : w1.heap.size + 2 ≤ D := by simpa using hD
      have hg := HI0.out.ge
      gi_wp2_with fail
      refine ⟨by simp, .inl ⟨_, _, rfl, run_takeDeferred hK', ?_⟩⟩
      exact ⟨_, results_none rfl _ _ _, HS0.out _ (hi.trans (below_put (by omega) _))⟩
  · gi_wp2_with fail
    exact ⟨_, results_none rfl _ _ _, HS0.out _ HI0.out.bel⟩
end Go.Proofs.YthcikinkicpicaaGreatDoor
