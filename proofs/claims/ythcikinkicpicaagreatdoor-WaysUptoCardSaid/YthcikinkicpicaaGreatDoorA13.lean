import Derived.Test.YthcikinkicpicaaGreatDoorA05
import Derived.Test.YthcikinkicpicaaGreatDoorA12
import Derived.Test.YthcikinkicpicaaGreatDoorA37

namespace Go.Proofs.YthcikinkicpicaaGreatDoor
open Go.RowKit

def putL (cur : Array Value) : Nat → List Value → Array Value
  | _, [] => cur
  | o, v :: vs => putL (cur.setIfInBounds o v) (o + 1) vs
theorem heap_setCells (b : Nat) : ∀ (vs : List Value) (o : Nat) (w : World) (cur : Array Value) (T : TypeId), w.heap[b]? = some (.cells cur T (0, 0)) → (w.setCells b o vs).heap[b]? = some (.cells (putL cur o vs) T (0, 0))
  | [], _, _, _, _, h => h
  | v :: vs, o, _w, _cur, T, h => heap_setCells b vs (o + 1) _ _ T (heap_set_same h o v)
theorem kept_setCells (b : Nat) : ∀ (vs : List Value) (o : Nat) (w : World), Kept (· = b) w (w.setCells b o vs)
  | [], _, w => Kept.refl _ w
  | v :: vs, o, _w => (kept_set1 b o v).trans (kept_setCells b vs (o + 1) _)
theorem there_of {w : World} {b : Nat} {cur : Array Value} {T : TypeId} (h : w.heap[b]? = some (.cells cur T (0, 0))) (o n : Nat) (hn : o + n ≤ cur.size) : w.there b o n := by
  intro j hj
  refine ⟨?_, frozen_of h _⟩
  rw [cell_of h]
  simp [show o + j < cur.size from by omega]

def cz : Cor := ⟨0, 0, 0, 0, 0, 0⟩
def bz : Bx := ⟨0, 0, 0, 0⟩
def fr0 : Fr := ⟨false, bz⟩
def bxL (b : Bx) : List Value := [.int .i64 b.x, .int .i64 b.y, .int .i64 b.c, .int .i64 b.r]
def corL (c : Cor) : List Value := [.int .i64 c.x, .int .i64 c.y, .int .i64 c.r, .int .i64 c.g, .int .i64 c.b, .int .i64 c.d]
def triL (a b c : Cor) (area : Int) (front : Fr) : List Value :=
  [.int .i64 a.x, .int .i64 a.y, .int .i64 a.r, .int .i64 a.g, .int .i64 a.b, .int .i64 a.d, .int .i64 b.x, .int .i64 b.y, .int .i64 b.r, .int .i64 b.g, .int .i64 b.b, .int .i64 b.d,
    .int .i64 c.x, .int .i64 c.y, .int .i64 c.r, .int .i64 c.g, .int .i64 c.b, .int .i64 c.d, .int .i64 area, .bool front.f, .int .i64 front.b.x, .int .i64 front.b.y, .int .i64 front.b.c, .int .i64 front.b.r]

theorem put_0 (a b c u : Cor) (area : Int) (front : Fr) : putL (trc a b c area front) 0 (corL u) = trc u b c area front := by
  simp only [putL, corL, trc, List.setIfInBounds_toArray, List.set_cons_succ, List.set_cons_zero, Nat.reduceAdd]
theorem put_6 (a b c u : Cor) (area : Int) (front : Fr) : putL (trc a b c area front) 6 (corL u) = trc a u c area front := by
  simp only [putL, corL, trc, List.setIfInBounds_toArray, List.set_cons_succ, List.set_cons_zero, Nat.reduceAdd]
theorem put_12 (a b c u : Cor) (area : Int) (front : Fr) : putL (trc a b c area front) 12 (corL u) = trc a b u area front := by
  simp only [putL, corL, trc, List.setIfInBounds_toArray, List.set_cons_succ, List.set_cons_zero, Nat.reduceAdd]
theorem put_18 (a b c : Cor) (area area' : Int) (front : Fr) : (trc a b c area front).setIfInBounds 18 (.int .i64 area') = trc a b c area' front := by
  simp only [trc, List.setIfInBounds_toArray, List.set_cons_succ, List.set_cons_zero]
theorem put_19 (a b c : Cor) (area : Int) (front : Fr) (f' : Bool) : (trc a b c area front).setIfInBounds 19 (.bool f') = trc a b c area ⟨f', front.b⟩ := by
  simp only [trc, List.setIfInBounds_toArray, List.set_cons_succ, List.set_cons_zero]
theorem put_20 (a b c : Cor) (area : Int) (f : Bool) (b0 bx : Bx) : putL (trc a b c area ⟨f, b0⟩) 20 (bxL bx) = trc a b c area ⟨f, bx⟩ := by
  simp only [putL, bxL, trc, List.setIfInBounds_toArray, List.set_cons_succ, List.set_cons_zero, Nat.reduceAdd]
theorem put_all (a b c a' b' c' : Cor) (area area' : Int) (front front' : Fr) : putL (trc a b c area front) 0 (triL a' b' c' area' front') = trc a' b' c' area' front' := by
  simp only [putL, triL, trc, List.setIfInBounds_toArray, List.set_cons_succ, List.set_cons_zero, Nat.reduceAdd]
theorem trc_size (a b c : Cor) (area : Int) (front : Fr) : (trc a b c area front).size = 24 := rfl

theorem range_tri {w : World} {q : Nat} {a b c : Cor} {area : Int} {front : Fr} (hq : w.heap[q]? = some (.cells (trc a b c area front) 165 (0, 0))) : w.rangeAt q 0 (triL a b c area front) := by
  intro j v hv
  rw [cell_of hq, Nat.zero_add]
  show (triL a b c area front).toArray[j]? = _
  rw [List.getElem?_toArray]; exact hv
theorem range_1 {w : World} {q : Nat} {a b c : Cor} {area : Int} {front : Fr} (hq : w.heap[q]? = some (.cells (trc a b c area front) 165 (0, 0))) : w.rangeAt q 6 (corL b) := by
  intro j v hv
  rw [cell_of hq]
  have hj : j < 6 := (List.getElem?_eq_some_iff.1 hv).1
  have : j = 0 ∨ j = 1 ∨ j = 2 ∨ j = 3 ∨ j = 4 ∨ j = 5 := by omega
  rw [← hv]
  rcases this with rfl | rfl | rfl | rfl | rfl | rfl <;> rfl
theorem range_2 {w : World} {q : Nat} {a b c : Cor} {area : Int} {front : Fr} (hq : w.heap[q]? = some (.cells (trc a b c area front) 165 (0, 0))) : w.rangeAt q 12 (corL c) := by
  intro j v hv
  rw [cell_of hq]
  have hj : j < 6 := (List.getElem?_eq_some_iff.1 hv).1
  have : j = 0 ∨ j = 1 ∨ j = 2 ∨ j = 3 ∨ j = 4 ∨ j = 5 := by omega
  rw [← hv]
  rcases this with rfl | rfl | rfl | rfl | rfl | rfl <;> rfl

theorem corL_one (u : Cor) : (corL u).toArray.all (·.oneCell') = true := by simp [corL, Value.oneCell']
theorem triL_one (a b c : Cor) (area : Int) (front : Fr) : (triL a b c area front).toArray.all (·.oneCell') = true := by simp [triL, Value.oneCell']
theorem Tryz.infoCor : (Tryz.prog.info? 162).map (·.size) = some 6 := by kernel_rfl
theorem Tryz.infoTri : (Tryz.prog.info? 165).map (·.size) = some 24 := by kernel_rfl

/-- What is read of a triangle: its corners, turned where it is back. -/
def triVal (a b c : Cor) : Value :=
  if edge a b c.x c.y < 0 then .agg (trc a c b (-edge a b c.x c.y) ⟨false, Tr.bounds ⟨a, c, b, 0, false⟩⟩) else .agg (trc a b c (edge a b c.x c.y) ⟨decide (0 < edge a b c.x c.y), Tr.bounds ⟨a, b, c, 0, false⟩⟩)

/-- While a triangle is read. -/
structure RdT (w : World) (a b c : Cor) (area : Int) (front : Fr) (wr : World) : Prop where
  res : wr.heap[w.heap.size]? = some (.cells (trc cz cz cz 0 fr0) 165 (0, 0))
  tri : wr.heap[w.heap.size + 1]? = some (.cells (trc a b c area front) 165 (0, 0))
  bel : Below w.heap.size w wr

theorem RdT.step {w wr w1 : World} {a b c a' b' c' : Cor} {area area' : Int} {front front' : Fr} (h : RdT w a b c area front wr) (hk : Kept (· = w.heap.size + 1) wr w1) (ht : w1.heap[w.heap.size + 1]? = some (.cells (trc a' b' c' area' front') 165 (0, 0))) : RdT w a' b' c' area' front' w1 :=
  ⟨(hk.block _ (lt_of_heap h.res) (by omega)).trans h.res, ht, ⟨hk.os.trans h.bel.os, hk.tape.trans h.bel.tape, hk.output.trans h.bel.output, Nat.le_trans h.bel.size hk.size, fun i hi => (hk.block i (Nat.lt_of_lt_of_le hi h.bel.size) (by omega)).trans (h.bel.block i hi)⟩⟩
theorem RdT.below {w wr w1 : World} {a b c : Cor} {area : Int} {front : Fr} (h : RdT w a b c area front wr) (hb : Below wr.heap.size wr w1) : RdT w a b c area front w1 :=
  ⟨(hb.block _ (lt_of_heap h.res)).trans h.res, (hb.block _ (lt_of_heap h.tri)).trans h.tri, h.bel.trans (hb.mono h.bel.size)⟩
theorem RdT.put {w wr : World} {a b c a' b' c' : Cor} {area area' : Int} {front front' : Fr} (h : RdT w a b c area front wr) (o : Nat) (vs : List Value) (he : putL (trc a b c area front) o vs = trc a' b' c' area' front') : RdT w a' b' c' area' front' (wr.setCells (w.heap.size + 1) o vs) :=
  h.step (kept_setCells _ _ _ _) (by rw [heap_setCells _ _ _ _ _ _ h.tri, he])

set_option maxRecDepth 100000 in
set_option maxHeartbeats 2000000 in
theorem readTriangle_in (s : ByteArray) (a b c : Cor) (w : World) (hs : 27 ≤ s.size) (ea : cornerOf (argsAt s 0 9) 0 = a) (eb : cornerOf (argsAt (s.extract 9 s.size) 0 9) 0 = b) (ec : cornerOf (argsAt (s.extract 18 s.size) 0 9) 0 = c) (ha : a.Ok) (hb : b.Ok) (hc : c.Ok) :
    Calls Tryz.prog 86 #[.string s] w fun e w' => e = .returned (triVal a b c) ∧ Below w.heap.size w w' := by
  have HA : Hid (∀ w' u v x area front, RdT w u v x area front w' → Calls Tryz.prog 114 #[.string s] w' fun e w'' => e = .returned (corV a) ∧ RdT w u v x area front w'') := fun w' u v x area front h => by rw [← ea]; exact (corner_any' _ w' (by omega)).mono (fun e w'' hh => ⟨hh.1, h.below hh.2⟩)
  have HB : Hid (∀ w' u v x area front, RdT w u v x area front w' → Calls Tryz.prog 114 #[.string (s.extract 9 s.size)] w' fun e w'' => e = .returned (corV b) ∧ RdT w u v x area front w'') := fun w' u v x area front h => by rw [← eb]; exact (corner_any' _ w' (by simp; omega)).mono (fun e w'' hh => ⟨hh.1, h.below hh.2⟩)
  have HC : Hid (∀ w' u v x area front, RdT w u v x area front w' → Calls Tryz.prog 114 #[.string (s.extract 18 s.size)] w' fun e w'' => e = .returned (corV c) ∧ RdT w u v x area front w'') := fun w' u v x area front h => by rw [← ec]; exact (corner_any' _ w' (by simp; omega)).mono (fun e w'' hh => ⟨hh.1, h.below hh.2⟩)
  have z0 : (0 : Int) ≤ (s.size : Int) := by omega
  have z9 : (9 : Int) ≤ (s.size : Int) := by omega
  have z18 : (18 : Int) ≤ (s.size : Int) := by omega
  have HI : Hid (RdT w cz cz cz 0 fr0 ((w.alloc (.cells #[.int .i64 0, .int .i64 0, .int .i64 0, .int .i64 0, .int .i64 0, .int .i64 0, .int .i64 0, .int .i64 0, .int .i64 0, .int .i64 0, .int .i64 0, .int .i64 0, .int .i64 0, .int .i64 0, .int .i64 0, .int .i64 0, .int .i64 0, .int .i64 0, .int .i64 0, .bool false, .int .i64 0, .int .i64 0, .int .i64 0, .int .i64 0] 165)).alloc (.cells #[.int .i64 0, .int .i64 0, .int .i64 0, .int .i64 0, .int .i64 0, .int .i64 0, .int .i64 0, .int .i64 0, .int .i64 0, .int .i64 0, .int .i64 0, .int .i64 0, .int .i64 0, .int .i64 0, .int .i64 0, .int .i64 0, .int .i64 0, .int .i64 0, .int .i64 0, .bool false, .int .i64 0, .int .i64 0, .int .i64 0, .int .i64 0] 165))) := by
    refine ⟨?_, ?_, below2⟩
    · rw [heap_alloc_old (by simp)]; exact heap_alloc_new _ _
    · rw [heap_alloc_at (by simp)]; rfl
  have HOa : Hid a.Ok := ha
  have HOb : Hid b.Ok := hb
  have HOc : Hid c.Ok := hc
  clear ea eb ec ha hb hc
  go_enter Tryz.func86, Tryz.ntmps86
  go_wp2_with fail
  go_loopg [5] 3 (fun m i wr => ∃ j : Nat, j + m = 3 ∧ i = .int .i64 j ∧ RdT w (if 0 < j then a else cz) (if 1 < j then b else cz) (if 2 < j then c else cz) 0 fr0 wr)
  case atStart => exact ⟨0, rfl, rfl, HI.out⟩
  case round =>
    obtain ⟨j, hj, rfl, hI⟩ := hrel
    clear HI
    have hj' : j = 0 ∨ j = 1 ∨ j = 2 ∨ j = 3 := by omega
    rcases hj' with rfl | rfl | rfl | rfl
    · obtain rfl : gk = 3 := by omega
      have HII : Hid (RdT w cz cz cz 0 fr0 wr) := hI
      clear hI
      go_wp2_with fail
      refine (HA.out _ _ _ _ _ _ HII.out).mono ?_
      rintro e w1 ⟨rfl, h1⟩
      have HI1 : Hid (RdT w cz cz cz 0 fr0 w1) := h1
      clear h1 HII
      have c0 : w1.cell? ⟨w.heap.size + 1, 0, none⟩ = some (.int .i64 0) := cell_of HI1.out.tri 0
      have c1 : w1.cell? ⟨w.heap.size + 1, 1, none⟩ = some (.int .i64 0) := cell_of HI1.out.tri 1
      have c2 : w1.cell? ⟨w.heap.size + 1, 2, none⟩ = some (.int .i64 0) := cell_of HI1.out.tri 2
      have c3 : w1.cell? ⟨w.heap.size + 1, 3, none⟩ = some (.int .i64 0) := cell_of HI1.out.tri 3
      have c4 : w1.cell? ⟨w.heap.size + 1, 4, none⟩ = some (.int .i64 0) := cell_of HI1.out.tri 4
      have c5 : w1.cell? ⟨w.heap.size + 1, 5, none⟩ = some (.int .i64 0) := cell_of HI1.out.tri 5
      have ft := frozen_of HI1.out.tri
      go_wp2_with fail
      go_roundg 2
      case rel => exact ⟨1, by omega, by go_num, HI1.out.put 0 (corL a) (put_0 _ _ _ _ _ _)⟩
      case measure => omega
    · obtain rfl : gk = 2 := by omega
      have HII : Hid (RdT w a cz cz 0 fr0 wr) := hI
      clear hI
      go_wp2_with fail
      refine (HB.out _ _ _ _ _ _ HII.out).mono ?_
      rintro e w1 ⟨rfl, h1⟩
      have HI1 : Hid (RdT w a cz cz 0 fr0 w1) := h1
      clear h1 HII
      have c0 : w1.cell? ⟨w.heap.size + 1, 6, none⟩ = some (.int .i64 0) := cell_of HI1.out.tri 6
      have c1 : w1.cell? ⟨w.heap.size + 1, 7, none⟩ = some (.int .i64 0) := cell_of HI1.out.tri 7
      have c2 : w1.cell? ⟨w.heap.size + 1, 8, none⟩ = some (.int .i64 0) := cell_of HI1.out.tri 8
      have c3 : w1.cell? ⟨w.heap.size + 1, 9, none⟩ = some (.int .i64 0) := cell_of HI1.out.tri 9
      have c4 : w1.cell? ⟨w.heap.size + 1, 10, none⟩ = some (.int .i64 0) := cell_of HI1.out.tri 10
      have c5 : w1.cell? ⟨w.heap.size + 1, 11, none⟩ = some (.int .i64 0) := cell_of HI1.out.tri 11
      have ft := frozen_of HI1.out.tri
      go_wp2_with fail
      go_roundg 1
      case rel => exact ⟨2, by omega, by go_num, HI1.out.put 6 (corL b) (put_6 _ _ _ _ _ _)⟩
      case measure => omega
    · obtain rfl : gk = 1 := by omega
      have HII : Hid (RdT w a b cz 0 fr0 wr) := hI
      clear hI
      go_wp2_with fail
      refine (HC.out _ _ _ _ _ _ HII.out).mono ?_
      rintro e w1 ⟨rfl, h1⟩
      have HI1 : Hid (RdT w a b cz 0 fr0 w1) := h1
      clear h1 HII
      have c0 : w1.cell? ⟨w.heap.size + 1, 12, none⟩ = some (.int .i64 0) := cell_of HI1.out.tri 12
      have c1 : w1.cell? ⟨w.heap.size + 1, 13, none⟩ = some (.int .i64 0) := cell_of HI1.out.tri 13
      have c2 : w1.cell? ⟨w.heap.size + 1, 14, none⟩ = some (.int .i64 0) := cell_of HI1.out.tri 14
      have c3 : w1.cell? ⟨w.heap.size + 1, 15, none⟩ = some (.int .i64 0) := cell_of HI1.out.tri 15
      have c4 : w1.cell? ⟨w.heap.size + 1, 16, none⟩ = some (.int .i64 0) := cell_of HI1.out.tri 16
      have c5 : w1.cell? ⟨w.heap.size + 1, 17, none⟩ = some (.int .i64 0) := cell_of HI1.out.tri 17
      have ft := frozen_of HI1.out.tri
      go_wp2_with fail
      go_roundg 0
      case rel => exact ⟨3, by omega, by go_num, HI1.out.put 12 (corL c) (put_12 _ _ _ _ _ _)⟩
      case measure => omega
    · obtain rfl : gk = 0 := by omega
      have HII : Hid (RdT w a b c 0 fr0 wr) := hI
      clear hI HA HB HC
      have HS : Hid (∀ w', RdT w a b c 0 fr0 w' → Calls Tryz.prog 91 #[.pointer (some ⟨w.heap.size + 1, 0, none⟩), .int .i64 2] w' fun e w'' => e = .returned (sideV a b) ∧ RdT w a b c 0 fr0 w'' ∧ w''.cell? ⟨w.heap.size + 1, 12, none⟩ = some (.int .i64 c.x) ∧ w''.cell? ⟨w.heap.size + 1, 13, none⟩ = some (.int .i64 c.y)) := by
        intro w' h'
        refine (side2 (w.heap.size + 1) a b c 0 fr0 w' h'.tri).mono ?_
        rintro e w'' ⟨rfl, hb''⟩
        have h2 := h'.below hb''
        exact ⟨rfl, h2, cell_of h2.tri 12, cell_of h2.tri 13⟩
      have HO : Hid (∀ w', RdT w a b c 0 fr0 w' → Calls Tryz.prog 115 #[sideV a b, .agg #[.int .i64 c.x, .int .i64 c.y]] w' fun e w'' => e = .returned (.int .i64 (edge a b c.x c.y)) ∧ RdT w a b c 0 fr0 w'' ∧ w''.frozen? ⟨w.heap.size + 1, 18, none⟩ = false ∧ w''.cell? ⟨w.heap.size + 1, 12, none⟩ = some (.int .i64 c.x) ∧ w''.cell? ⟨w.heap.size + 1, 13, none⟩ = some (.int .i64 c.y) ∧ w''.cell? ⟨w.heap.size + 1, 18, none⟩ = some (.int .i64 0)) := by
        intro w' h'
        refine (of_any a b c.x c.y w' HOa.out HOb.out HOc.out.x0 HOc.out.x1 HOc.out.y0 HOc.out.y1).mono ?_
        rintro e w'' ⟨rfl, hb''⟩
        exact ⟨rfl, h'.below hb'', frozen_of (h'.below hb'').tri 18, cell_of (h'.below hb'').tri 12, cell_of (h'.below hb'').tri 13, cell_of (h'.below hb'').tri 18⟩
      have c12 : wr.cell? ⟨w.heap.size + 1, 12, none⟩ = some (.int .i64 c.x) := cell_of HII.out.tri 12
      have c13 : wr.cell? ⟨w.heap.size + 1, 13, none⟩ = some (.int .i64 c.y) := cell_of HII.out.tri 13
      go_wp2_with fail
      go_region_held (fun w2 => w2.cell? ⟨w.heap.size + 1, 12, none⟩ = some (.int .i64 c.x) ∧ w2.cell? ⟨w.heap.size + 1, 13, none⟩ = some (.int .i64 c.y)) (first | (go_keep) | (exact ⟨(World.cell?_setCell_other _ _ _ _ (fun e => by cases e)).trans s12, (World.cell?_setCell_other _ _ _ _ (fun e => by cases e)).trans s13⟩))
        ((first
          | (go_at_call 91; refine (HS.out _ (HII.out.below (Below.refl _ _).drew)).mono ?_; rintro e w2 ⟨rfl, h2, r12, r13⟩)
          | (go_at_call 115; refine (HO.out _ h2).mono ?_; rintro e w3 ⟨rfl, h3, f18, s12, s13, s18⟩)))
      have h4 : RdT w a b c (edge a b c.x c.y) fr0 (w3.setCell ⟨w.heap.size + 1, 18, none⟩ (.int .i64 (edge a b c.x c.y))) := h3.step (kept_set1 _ _ _) (by rw [heap_set_same h3.tri, put_18])
      revert h4
      generalize w3.setCell ⟨w.heap.size + 1, 18, none⟩ (.int .i64 (edge a b c.x c.y)) = w4
      intro h4
      obtain ⟨b1, hb1⟩ : ∃ b1, b1 = Tr.bounds ⟨a, c, b, 0, false⟩ := ⟨_, rfl⟩
      obtain ⟨b2, hb2⟩ : ∃ b2, b2 = Tr.bounds ⟨a, b, c, 0, false⟩ := ⟨_, rfl⟩
      have HV : Hid (triVal a b c = if edge a b c.x c.y < 0 then .agg (trc a c b (-edge a b c.x c.y) ⟨false, b1⟩) else .agg (trc a b c (edge a b c.x c.y) ⟨decide (0 < edge a b c.x c.y), b2⟩)) := by show _ = _; rw [hb1, hb2]; rfl
      have HB1 : Hid (∀ W ar f, RdT w a c b ar f W → Calls Tryz.prog 116 #[.pointer (some ⟨w.heap.size + 1, 0, none⟩)] W fun e w' => e = .returned (.agg #[.int .i64 b1.x, .int .i64 b1.y, .int .i64 b1.c, .int .i64 b1.r]) ∧ RdT w a c b ar f w') := fun W ar f hW =>
        (bounds_any (w.heap.size + 1) a c b ar f W hW.tri HOa.out HOc.out HOb.out b1 hb1).mono (fun e w' hh => ⟨hh.1, hW.below hh.2⟩)
      have HB2 : Hid (∀ W ar f, RdT w a b c ar f W → Calls Tryz.prog 116 #[.pointer (some ⟨w.heap.size + 1, 0, none⟩)] W fun e w' => e = .returned (.agg #[.int .i64 b2.x, .int .i64 b2.y, .int .i64 b2.c, .int .i64 b2.r]) ∧ RdT w a b c ar f w') := fun W ar f hW =>
        (bounds_any (w.heap.size + 1) a b c ar f W hW.tri HOa.out HOb.out HOc.out b2 hb2).mono (fun e w' hh => ⟨hh.1, hW.below hh.2⟩)
      have hEb := edge_bound a b c.x c.y HOa.out HOb.out HOc.out.x0 HOc.out.x1 HOc.out.y0 HOc.out.y1
      generalize hE : edge a b c.x c.y = E at *
      have HI4 : Hid (RdT w a b c E fr0 w4) := h4
      clear h4 h3 h2 r12 r13 f18 s12 s13 s18 HO HS HII c12 c13 hE HOa HOb HOc z0 z9 z18 hb1 hb2
      have c18 : w4.cell? ⟨w.heap.size + 1, 18, none⟩ = some (.int .i64 E) := cell_of HI4.out.tri 18
      have c19 : w4.cell? ⟨w.heap.size + 1, 19, none⟩ = some (.bool false) := cell_of HI4.out.tri 19
      have ft := frozen_of HI4.out.tri
      have HF : Hid (∀ f, RdT w a b c E ⟨f, bz⟩ (w4.setCell ⟨w.heap.size + 1, 19, none⟩ (.bool f))) := fun f => HI4.out.step (kept_set1 _ _ _) (by rw [heap_set_same HI4.out.tri, put_19]; rfl)
      have HX : Hid (∀ (a' b' c' : Cor) (area' : Int) (f' : Fr) (W : World), RdT w a' b' c' area' f' W → (W.setCells w.heap.size 0 (triL a' b' c' area' f')).heap[w.heap.size]? = some (.cells (trc a' b' c' area' f') 165 (0, 0)) ∧ Below w.heap.size w (W.setCells w.heap.size 0 (triL a' b' c' area' f'))) := by
        intro a' b' c' area' f' W hW
        have hk := kept_setCells w.heap.size (triL a' b' c' area' f') 0 W
        refine ⟨?_, ⟨hk.os.trans hW.bel.os, hk.tape.trans hW.bel.tape, hk.output.trans hW.bel.output, Nat.le_trans hW.bel.size hk.size, fun i hi => (hk.block i (Nat.lt_of_lt_of_le hi hW.bel.size) (by omega)).trans (hW.bel.block i hi)⟩⟩
        rw [heap_setCells _ _ _ _ _ _ hW.res, put_all]
      by_cases hneg : E < 0
      · have hp0 : ¬ 0 < E := by omega
        have hp0' : decide (0 < E) = false := decide_eq_false hp0
        have hV := HV.out
        rw [if_pos hneg] at hV
        have HV2 : Hid (triVal a b c = .agg (trc a c b (-E) ⟨false, b1⟩)) := hV
        clear HV hV
        have h5 := HF.out false
        have h6 : RdT w a c c E ⟨false, bz⟩ ((w4.setCell ⟨w.heap.size + 1, 19, none⟩ (.bool false)).setCells (w.heap.size + 1) 6 (corL c)) := h5.put 6 (corL c) (put_6 _ _ _ _ _ _)
        have h7 : RdT w a c b E ⟨false, bz⟩ (((w4.setCell ⟨w.heap.size + 1, 19, none⟩ (.bool false)).setCells (w.heap.size + 1) 6 (corL c)).setCells (w.heap.size + 1) 12 (corL b)) := h6.put 12 (corL b) (put_12 _ _ _ _ _ _)
        have h8 : RdT w a c b (-E) ⟨false, bz⟩ ((((w4.setCell ⟨w.heap.size + 1, 19, none⟩ (.bool false)).setCells (w.heap.size + 1) 6 (corL c)).setCells (w.heap.size + 1) 12 (corL b)).setCell ⟨w.heap.size + 1, 18, none⟩ (.int .i64 (-E))) := h7.step (kept_set1 _ _ _) (by rw [heap_set_same h7.tri, put_18])
        have R2 : Hid (∀ W, W = (w4.setCell ⟨w.heap.size + 1, 19, none⟩ (.bool false)) → W.rangeAt (w.heap.size + 1) 12 (corL c)) := fun W hW => by rw [hW]; exact range_2 h5.tri
        have R1 : Hid (∀ W, W = (w4.setCell ⟨w.heap.size + 1, 19, none⟩ (.bool false)) → W.rangeAt (w.heap.size + 1) 6 (corL b)) := fun W hW => by rw [hW]; exact range_1 h5.tri
        have T1 : Hid (∀ W, W = (w4.setCell ⟨w.heap.size + 1, 19, none⟩ (.bool false)) → W.there (w.heap.size + 1) 6 (corL c).toArray.size) := fun W hW => by rw [hW]; exact there_of h5.tri 6 6 (by rw [trc_size]; decide)
        have T2 : Hid (∀ W, W = ((w4.setCell ⟨w.heap.size + 1, 19, none⟩ (.bool false)).setCells (w.heap.size + 1) 6 (corL c)) → W.there (w.heap.size + 1) 12 (corL b).toArray.size) := fun W hW => by rw [hW]; exact there_of h6.tri 12 6 (by rw [trc_size]; decide)
        have N1 : Hid (∀ u, (Tryz.prog.info? 162).map (·.size) = some (corL u).toArray.size) := fun _ => Tryz.infoCor
        have c7 : (((w4.setCell ⟨w.heap.size + 1, 19, none⟩ (.bool false)).setCells (w.heap.size + 1) 6 (corL c)).setCells (w.heap.size + 1) 12 (corL b)).cell? ⟨w.heap.size + 1, 18, none⟩ = some (.int .i64 E) := cell_of h7.tri 18
        have f7 : (((w4.setCell ⟨w.heap.size + 1, 19, none⟩ (.bool false)).setCells (w.heap.size + 1) 6 (corL c)).setCells (w.heap.size + 1) 12 (corL b)).frozen? ⟨w.heap.size + 1, 18, none⟩ = false := frozen_of h7.tri 18
        have H8 : Hid (∀ W, W = ((((w4.setCell ⟨w.heap.size + 1, 19, none⟩ (.bool false)).setCells (w.heap.size + 1) 6 (corL c)).setCells (w.heap.size + 1) 12 (corL b)).setCell ⟨w.heap.size + 1, 18, none⟩ (.int .i64 (-E))) → RdT w a c b (-E) ⟨false, bz⟩ W) := fun W hW => by rw [hW]; exact h8
        clear h5 h6 h7 h8 HF
        go_wp2_with (first
          | (refine wpList_load_mid (by rfl) 162 (.tmp 32) (by rfl) (w.heap.size + 1) 12 (by rfl) (corL c) _ (R2.out _ (by first | (with_reducible rfl) | simp)) Tryz.underlying162 rfl Tryz.infoCor ?_)
          | (refine wpList_load_mid (by rfl) 162 (.tmp 35) (by rfl) (w.heap.size + 1) 6 (by rfl) (corL b) _ (R1.out _ (by first | (with_reducible rfl) | simp)) Tryz.underlying162 rfl Tryz.infoCor ?_)
          | (refine wpList_store_mid (by rfl) 162 (.tmp 38) (.tmp 33) (by rfl) (w.heap.size + 1) 6 (corL c).toArray (by rfl) (by rfl) (T1.out _ (by first | (with_reducible rfl) | simp)) (N1.out _) (corL_one _) ?_)
          | (refine wpList_store_mid (by rfl) 162 (.tmp 40) (.tmp 36) (by rfl) (w.heap.size + 1) 12 (corL b).toArray (by rfl) (by rfl) (T2.out _ (by first | (with_reducible rfl) | simp)) (N1.out _) (corL_one _) ?_))
        refine (HB1.out _ _ _ (H8.out _ rfl)).mono ?_
        rintro e w5 ⟨rfl, h5⟩
        have cb := cell_of h5.tri
        have fb := frozen_of h5.tri
        simp only [trc] at cb
        go_upto_region 13 with fail
        have h9 : RdT w a c b (-E) ⟨false, b1⟩ (w5.setCells (w.heap.size + 1) 20 (bxL b1)) := h5.put 20 (bxL b1) (put_20 _ _ _ _ _ _ _)
        refine gen_w (RdT w a c b (-E) ⟨false, b1⟩) (Code.wp _ _ _ _) _ h9 ?_
        intro W9 hW9
        have HR : Hid (W9.rangeAt (w.heap.size + 1) 0 (triL a c b (-E) ⟨false, b1⟩)) := range_tri hW9.tri
        have HT : Hid (W9.there w.heap.size 0 (triL a c b (-E) ⟨false, b1⟩).toArray.size) := there_of hW9.res 0 24 (by rw [trc_size]; decide)
        have HN : Hid ((Tryz.prog.info? 165).map (·.size) = some (triL a c b (-E) ⟨false, b1⟩).toArray.size) := Tryz.infoTri
        obtain ⟨hl, hbl⟩ := HX.out _ _ _ _ _ _ hW9
        have HL : Hid ((W9.setCells w.heap.size 0 (triL a c b (-E) ⟨false, b1⟩)).heap[w.heap.size]? = some (.cells (trc a c b (-E) ⟨false, b1⟩) 165 (0, 0)) ∧ Below w.heap.size w (W9.setCells w.heap.size 0 (triL a c b (-E) ⟨false, b1⟩))) := ⟨hl, hbl⟩
        clear hl hbl hW9 h9 h5 cb fb HX HB1 HB2 H8
        go_wp2_with (first
          | (refine wpList_load_mid (by rfl) 165 (.tmp 3) (by rfl) (w.heap.size + 1) 0 (by rfl) (triL a c b (-E) ⟨false, b1⟩) _ HR.out Tryz.underlying165 rfl Tryz.infoTri ?_)
          | (refine wpList_store_mid (by rfl) 165 (.tmp 2) (.tmp 47) (by rfl) w.heap.size 0 (triL a c b (-E) ⟨false, b1⟩).toArray (by rfl) (by rfl) HT.out HN.out (triL_one _ _ _ _ _) ?_))
        refine gen_w (fun WW => WW.heap[w.heap.size]? = some (.cells (trc a c b (-E) ⟨false, b1⟩) 165 (0, 0)) ∧ Below w.heap.size w WW) (bodyPost _ _ _ _ _) _ HL.out ?_
        rintro WW ⟨hl, hbl⟩
        have HN' : (Tryz.prog.info? 165).map (·.size) = some (trc a c b (-E) ⟨false, b1⟩).size := Tryz.infoTri
        refine bodyPost_ret (results_cell_row rfl _ _ w.heap.size 165 (trc a c b (-E) ⟨false, b1⟩) (0, 0) _ rfl hl Tryz.underlying165 rfl HN') rfl ⟨?_, hbl⟩
        rw [HV2.out]
      · have hV := HV.out
        rw [if_neg hneg] at hV
        have HV2 : Hid (triVal a b c = .agg (trc a b c E ⟨decide (0 < E), b2⟩)) := hV
        clear HV hV
        have H8 : Hid (RdT w a b c E ⟨decide (0 < E), bz⟩ (w4.setCell ⟨w.heap.size + 1, 19, none⟩ (.bool (decide (0 < E))))) := HF.out _
        go_wp2_with fail
        refine (HB2.out _ _ _ H8.out).mono ?_
        rintro e w5 ⟨rfl, h5⟩
        have cb := cell_of h5.tri
        have fb := frozen_of h5.tri
        simp only [trc] at cb
        go_upto_region 13 with fail
        have h9 : RdT w a b c E ⟨(decide (0 < E)), b2⟩ (w5.setCells (w.heap.size + 1) 20 (bxL b2)) := h5.put 20 (bxL b2) (put_20 _ _ _ _ _ _ _)
        refine gen_w (RdT w a b c E ⟨(decide (0 < E)), b2⟩) (Code.wp _ _ _ _) _ h9 ?_
        intro W9 hW9
        have HR : Hid (W9.rangeAt (w.heap.size + 1) 0 (triL a b c E ⟨(decide (0 < E)), b2⟩)) := range_tri hW9.tri
        have HT : Hid (W9.there w.heap.size 0 (triL a b c E ⟨(decide (0 < E)), b2⟩).toArray.size) := there_of hW9.res 0 24 (by rw [trc_size]; decide)
        have HN : Hid ((Tryz.prog.info? 165).map (·.size) = some (triL a b c E ⟨(decide (0 < E)), b2⟩).toArray.size) := Tryz.infoTri
        obtain ⟨hl, hbl⟩ := HX.out _ _ _ _ _ _ hW9
        have HL : Hid ((W9.setCells w.heap.size 0 (triL a b c E ⟨(decide (0 < E)), b2⟩)).heap[w.heap.size]? = some (.cells (trc a b c E ⟨(decide (0 < E)), b2⟩) 165 (0, 0)) ∧ Below w.heap.size w (W9.setCells w.heap.size 0 (triL a b c E ⟨(decide (0 < E)), b2⟩))) := ⟨hl, hbl⟩
        clear hl hbl hW9 h9 h5 cb fb HX HB1 HB2 H8
        go_wp2_with (first
          | (refine wpList_load_mid (by rfl) 165 (.tmp 3) (by rfl) (w.heap.size + 1) 0 (by rfl) (triL a b c E ⟨(decide (0 < E)), b2⟩) _ HR.out Tryz.underlying165 rfl Tryz.infoTri ?_)
          | (refine wpList_store_mid (by rfl) 165 (.tmp 2) (.tmp 47) (by rfl) w.heap.size 0 (triL a b c E ⟨(decide (0 < E)), b2⟩).toArray (by rfl) (by rfl) HT.out HN.out (triL_one _ _ _ _ _) ?_))
        refine gen_w (fun WW => WW.heap[w.heap.size]? = some (.cells (trc a b c E ⟨(decide (0 < E)), b2⟩) 165 (0, 0)) ∧ Below w.heap.size w WW) (bodyPost _ _ _ _ _) _ HL.out ?_
        rintro WW ⟨hl, hbl⟩
        have HN' : (Tryz.prog.info? 165).map (·.size) = some (trc a b c E ⟨(decide (0 < E)), b2⟩).size := Tryz.infoTri
        refine bodyPost_ret (results_cell_row rfl _ _ w.heap.size 165 (trc a b c E ⟨(decide (0 < E)), b2⟩) (0, 0) _ rfl hl Tryz.underlying165 rfl HN') rfl ⟨?_, hbl⟩
        rw [HV2.out]
end Go.Proofs.YthcikinkicpicaaGreatDoor
