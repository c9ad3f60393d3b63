import Derived.Test.YthcikinkicpicaaGreatDoorA02
import Derived.Test.YthcikinkicpicaaGreatDoorA06

namespace Go.Proofs.YthcikinkicpicaaGreatDoor
open Go.RowKit

/-- Where a pixel lies: its tile, its place in the tile. -/
def tNo (A X Y : Nat) : Nat := Y / 4 * A + X / 4
def iNo (X Y : Nat) : Nat := Y % 4 * 4 + X % 4
theorem iNo_lt (X Y : Nat) : iNo X Y < 16 := by unfold iNo; omega

/-- A surface's cells: n tiles, each with its mark, its one value and its sixteen; what pixel i of tile t is: f t i. -/
structure TilesU (cur : Array Value) (K : IntKind) (n : Nat) (f : Nat → Nat → Int) : Prop where
  sz : cur.size = n * 18
  at_ : ∀ t, t < n → ∃ (m : Bool) (a : Int), cur[t * 18]? = some (.bool m) ∧ cur[t * 18 + 1]? = some (.int K a) ∧ (m = true → ∀ i, i < 16 → a = f t i) ∧
    ∀ i, i < 16 → ∃ v : Int, cur[t * 18 + 2 + i]? = some (.int K v) ∧ (m = false → v = f t i)

/-- A surface at p, o: its header, its tiles' block. -/
structure SurfU (w : World) (p o tB A n : Nat) (K : IntKind) (T : TypeId) (f : Nat → Nat → Int) : Prop where
  hA : w.cell? ⟨p, o, none⟩ = some (.int .i64 A)
  hT : w.cell? ⟨p, o + 1, none⟩ = some (.slice (some ⟨tB, 0, none⟩) n n)
  blk : ∃ cur, w.heap[tB]? = some (.cells cur T (0, 0)) ∧ TilesU cur K n f

theorem TilesU.step {cur cur' : Array Value} {K : IntKind} {n t : Nat} {f f' : Nat → Nat → Int} (h : TilesU cur K n f) (hs : cur'.size = cur.size)
    (hoth : ∀ j, ¬ (t * 18 ≤ j ∧ j < t * 18 + 18) → cur'[j]? = cur[j]?) (hf : ∀ t', t' ≠ t → ∀ i, f' t' i = f t' i)
    (ht : t < n → ∃ (m : Bool) (a : Int), cur'[t * 18]? = some (.bool m) ∧ cur'[t * 18 + 1]? = some (.int K a) ∧ (m = true → ∀ i, i < 16 → a = f' t i) ∧
      ∀ i, i < 16 → ∃ v : Int, cur'[t * 18 + 2 + i]? = some (.int K v) ∧ (m = false → v = f' t i)) : TilesU cur' K n f' := by
  refine ⟨by rw [hs]; exact h.sz, fun t' ht' => ?_⟩
  by_cases e : t' = t
  · subst e; exact ht ht'
  · obtain ⟨m, a, c0, c1, hm, hp⟩ := h.at_ t' ht'
    refine ⟨m, a, ?_, ?_, ?_, ?_⟩
    · rw [hoth _ (by omega)]; exact c0
    · rw [hoth _ (by omega)]; exact c1
    · intro hm' i hi; rw [hf t' e]; exact hm hm' i hi
    · intro i hi
      obtain ⟨v, c2, hv⟩ := hp i hi
      exact ⟨v, by rw [hoth _ (by omega)]; exact c2, fun hm' => by rw [hf t' e]; exact hv hm'⟩

/-- A tile is filled as far as k. -/
structure FillIs (cur cur' : Array Value) (t k : Nat) (v : Value) : Prop where
  sz : cur'.size = cur.size
  at_ : ∀ j, cur'[j]? = if j = t * 18 then some (.bool false) else if t * 18 + 2 ≤ j ∧ j < t * 18 + 2 + k then some v else cur[j]?

theorem FillIs.zero {cur : Array Value} {t : Nat} (v : Value) (h : t * 18 < cur.size) : FillIs cur (cur.setIfInBounds (t * 18) (.bool false)) t 0 v := by
  refine ⟨by simp, fun j => ?_⟩
  by_cases e : j = t * 18
  · subst e; simp [h]
  · rw [if_neg e, if_neg (by omega), Array.getElem?_setIfInBounds_ne (by omega)]
theorem FillIs.succ {cur cur' : Array Value} {t k : Nat} {v : Value} (h : FillIs cur cur' t k v) (hk : t * 18 + 2 + k < cur.size) : FillIs cur (cur'.setIfInBounds (t * 18 + 2 + k) v) t (k + 1) v := by
  refine ⟨by simp [h.sz], fun j => ?_⟩
  by_cases e : j = t * 18 + 2 + k
  · subst e
    rw [if_neg (by omega), if_pos (by omega)]
    simp [h.sz, hk]
  · rw [Array.getElem?_setIfInBounds_ne (by omega), h.at_ j]
    by_cases e0 : j = t * 18
    · rw [if_pos e0, if_pos e0]
    · rw [if_neg e0, if_neg e0]
      by_cases e1 : t * 18 + 2 ≤ j ∧ j < t * 18 + 2 + k
      · rw [if_pos e1, if_pos (by omega)]
      · rw [if_neg e1, if_neg (by omega)]

theorem FillIs.tiles {cur cur' : Array Value} {K : IntKind} {n t : Nat} {f : Nat → Nat → Int} {v : Int} (h : FillIs cur cur' t 16 (.int K v)) (hT : TilesU cur K n f) (ht : t < n) :
    TilesU cur' K n (fun t' i => if t' = t then v else f t' i) ∧ cur'[t * 18]? = some (.bool false) := by
  have h0 : cur'[t * 18]? = some (.bool false) := by rw [h.at_, if_pos rfl]
  refine ⟨hT.step h.sz (fun j hj => ?_) (fun t' e i => if_neg e) (fun _ => ?_), h0⟩
  · rw [h.at_, if_neg (by omega), if_neg (by omega)]
  · obtain ⟨m, a, c0, c1, hm, hp⟩ := hT.at_ t ht
    refine ⟨false, a, h0, ?_, (by simp), fun i hi => ⟨v, ?_, fun _ => by simp⟩⟩
    · rw [h.at_, if_neg (by omega), if_neg (by omega)]; exact c1
    · rw [h.at_, if_neg (by omega), if_pos (by omega)]

theorem set_at {cur : Array Value} {i : Nat} (h : i < cur.size) (v : Value) : (cur.setIfInBounds i v)[i]? = some v := by simp [h]

theorem TilesU.mark {cur : Array Value} {K : IntKind} {n t : Nat} {f : Nat → Nat → Int} (h : TilesU cur K n f) (ht : t < n) (a : Int) :
    TilesU ((cur.setIfInBounds (t * 18) (.bool true)).setIfInBounds (t * 18 + 1) (.int K a)) K n (fun t' i => if t' = t then a else f t' i) := by
  have hs := h.sz
  refine h.step (t := t) (by simp) (fun j hj => ?_) (fun t' e i => if_neg e) (fun _ => ?_)
  · rw [Array.getElem?_setIfInBounds_ne (by omega), Array.getElem?_setIfInBounds_ne (by omega)]
  · obtain ⟨m, a', c0, c1, hm, hp⟩ := h.at_ t ht
    refine ⟨true, a, ?_, ?_, fun _ i _ => by simp, fun i hi => ?_⟩
    · rw [Array.getElem?_setIfInBounds_ne (by omega)]; exact set_at (by omega) _
    · exact set_at (by rw [Array.size_setIfInBounds]; omega) _
    · obtain ⟨v, c2, _⟩ := hp i hi
      exact ⟨v, by rw [Array.getElem?_setIfInBounds_ne (by omega), Array.getElem?_setIfInBounds_ne (by omega)]; exact c2, fun h => by simp at h⟩

/-- What a pixel's value becomes. -/
def upd (f : Nat → Nat → Int) (t i : Nat) (v : Int) : Nat → Nat → Int := fun t' i' => if t' = t ∧ i' = i then v else f t' i'

theorem TilesU.put {cur : Array Value} {K : IntKind} {n t i : Nat} {f : Nat → Nat → Int} (h : TilesU cur K n f) (ht : t < n) (hi : i < 16) (h0 : cur[t * 18]? = some (.bool false)) (v : Int) :
    TilesU (cur.setIfInBounds (t * 18 + 2 + i) (.int K v)) K n (upd f t i v) := by
  have hs := h.sz
  refine h.step (t := t) (by simp) (fun j hj => ?_) (fun t' e i => if_neg (by rintro ⟨h, _⟩; exact e h)) (fun _ => ?_)
  · rw [Array.getElem?_setIfInBounds_ne (by omega)]
  · obtain ⟨m, a', c0, c1, hm, hp⟩ := h.at_ t ht
    rw [h0] at c0
    simp at c0
    subst c0
    refine ⟨false, a', ?_, ?_, (by simp), fun i' hi' => ?_⟩
    · rw [Array.getElem?_setIfInBounds_ne (by omega)]; exact h0
    · rw [Array.getElem?_setIfInBounds_ne (by omega)]; exact c1
    · by_cases e : i' = i
      · subst e
        exact ⟨v, set_at (by omega) _, fun _ => by simp [upd]⟩
      · obtain ⟨v', c2, hv⟩ := hp i' hi'
        exact ⟨v', by rw [Array.getElem?_setIfInBounds_ne (by omega)]; exact c2, fun hm' => by rw [hv hm']; exact (if_neg (by rintro ⟨_, h⟩; exact e h)).symm⟩

theorem TilesU.congr {cur : Array Value} {K : IntKind} {n : Nat} {f f' : Nat → Nat → Int} (h : TilesU cur K n f) (e : ∀ t, t < n → ∀ i, i < 16 → f' t i = f t i) : TilesU cur K n f' := by
  refine ⟨h.sz, fun t ht => ?_⟩
  obtain ⟨m, a, c0, c1, hm, hp⟩ := h.at_ t ht
  exact ⟨m, a, c0, c1, fun hm' i hi => by rw [e t ht i hi]; exact hm hm' i hi, fun i hi => by
    obtain ⟨v, c2, hv⟩ := hp i hi
    exact ⟨v, c2, fun hm' => by rw [e t ht i hi]; exact hv hm'⟩⟩

theorem owned_blk {w : World} {base B n : Nat} {e : TypeId} {size : Nat} {xs : List Value} (h : w.ownsRow base e size (.slice (some ⟨B, 0, none⟩) n n) n xs) : w.heap[B]? = some (.cells xs.toArray e (0, 0)) := by
  obtain ⟨h1, h2⟩ := h
  rcases h2 with ⟨h2, _⟩ | ⟨g, cap, cur, hv, _, hh, _, _, hs, ht⟩
  · cases h2
  · have hv' := hv
    injection hv' with e1 e2 e3
    injection e1 with e1
    injection e1 with e1
    subst e1 e3
    rw [hh]
    rw [List.take_of_length_le (by simp [hs])] at ht
    rw [← ht]

theorem made_at (z : Array Value) (N j : Nat) (h : j < N) : (madeCells z N)[j]? = some (z[j % z.size]!) := by simp [madeCells, h]

theorem kept_set1 {w : World} (b o : Nat) (v : Value) : Kept (· = b) w (w.setCell ⟨b, o, none⟩ v) := (Kept.refl (· = b) w).set (.inl rfl) o v

theorem range_split {n x : Nat} {pre rest : List Nat} (h : List.range n = pre ++ x :: rest) : x = pre.length ∧ x < n ∧ pre = List.range pre.length := by
  have h1 : (List.range n)[pre.length]? = some x := by rw [h]; simp
  have hl : pre.length < n := by
    have := congrArg List.length h
    simp at this; omega
  rw [List.getElem?_range hl] at h1
  simp at h1
  refine ⟨h1.symm, by omega, ?_⟩
  have h2 := congrArg (List.take pre.length) h
  rw [List.take_left, List.take_range, Nat.min_eq_left (by omega)] at h2
  exact h2.symm

end Go.Proofs.YthcikinkicpicaaGreatDoor

namespace Go.Proofs.YthcikinkicpicaaGreatDoor
open Go.RowKit

/-- A colour. -/
structure Col where
  r : Int
  g : Int
  b : Int
@[reducible] def Col.v (c : Col) : Value := .agg #[.int .u8 c.r, .int .u8 c.g, .int .u8 c.b]

/-- At j lie a colour's three cells. -/
def ColAt (cur : Array Value) (j : Nat) (c : Col) : Prop := cur[j]? = some (.int .u8 c.r) ∧ cur[j + 1]? = some (.int .u8 c.g) ∧ cur[j + 2]? = some (.int .u8 c.b)

structure TilesC (cur : Array Value) (n : Nat) (f : Nat → Nat → Col) : Prop where
  sz : cur.size = n * 52
  at_ : ∀ t, t < n → ∃ (m : Bool) (a : Col), cur[t * 52]? = some (.bool m) ∧ ColAt cur (t * 52 + 1) a ∧ (m = true → ∀ i, i < 16 → a = f t i) ∧
    ∀ i, i < 16 → ∃ v : Col, ColAt cur (t * 52 + 4 + i * 3) v ∧ (m = false → v = f t i)

structure SurfC (w : World) (p o tB A n : Nat) (T : TypeId) (f : Nat → Nat → Col) : Prop where
  hA : w.cell? ⟨p, o, none⟩ = some (.int .i64 A)
  hT : w.cell? ⟨p, o + 1, none⟩ = some (.slice (some ⟨tB, 0, none⟩) n n)
  blk : ∃ cur, w.heap[tB]? = some (.cells cur T (0, 0)) ∧ TilesC cur n f

theorem ColAt.same {cur cur' : Array Value} {j : Nat} {c : Col} (h : ColAt cur j c) (e : ∀ i, j ≤ i → i < j + 3 → cur'[i]? = cur[i]?) : ColAt cur' j c :=
  ⟨(e _ (by omega) (by omega)).trans h.1, (e _ (by omega) (by omega)).trans h.2.1, (e _ (by omega) (by omega)).trans h.2.2⟩

theorem TilesC.step {cur cur' : Array Value} {n t : Nat} {f f' : Nat → Nat → Col} (h : TilesC cur n f) (hs : cur'.size = cur.size)
    (hoth : ∀ j, ¬ (t * 52 ≤ j ∧ j < t * 52 + 52) → cur'[j]? = cur[j]?) (hf : ∀ t', t' ≠ t → ∀ i, f' t' i = f t' i)
    (ht : t < n → ∃ (m : Bool) (a : Col), cur'[t * 52]? = some (.bool m) ∧ ColAt cur' (t * 52 + 1) a ∧ (m = true → ∀ i, i < 16 → a = f' t i) ∧
      ∀ i, i < 16 → ∃ v : Col, ColAt cur' (t * 52 + 4 + i * 3) v ∧ (m = false → v = f' t i)) : TilesC cur' n f' := by
  refine ⟨by rw [hs]; exact h.sz, fun t' ht' => ?_⟩
  by_cases e : t' = t
  · subst e; exact ht ht'
  · obtain ⟨m, a, c0, c1, hm, hp⟩ := h.at_ t' ht'
    refine ⟨m, a, ?_, ?_, ?_, ?_⟩
    · rw [hoth _ (by omega)]; exact c0
    · exact c1.same (fun i h1 h2 => hoth _ (by omega))
    · intro hm' i hi; rw [hf t' e]; exact hm hm' i hi
    · intro i hi
      obtain ⟨v, c2, hv⟩ := hp i hi
      exact ⟨v, c2.same (fun i h1 h2 => hoth _ (by omega)), fun hm' => by rw [hf t' e]; exact hv hm'⟩

def set3 (cur : Array Value) (j : Nat) (c : Col) : Array Value := ((cur.setIfInBounds j (.int .u8 c.r)).setIfInBounds (j + 1) (.int .u8 c.g)).setIfInBounds (j + 2) (.int .u8 c.b)
theorem set3_size (cur : Array Value) (j : Nat) (c : Col) : (set3 cur j c).size = cur.size := by simp [set3]
theorem set3_at {cur : Array Value} {j : Nat} (c : Col) (h : j + 3 ≤ cur.size) : ColAt (set3 cur j c) j c := by
  unfold set3
  refine ⟨?_, ?_, ?_⟩
  · rw [Array.getElem?_setIfInBounds_ne (by omega), Array.getElem?_setIfInBounds_ne (by omega)]; exact set_at (by omega) _
  · rw [Array.getElem?_setIfInBounds_ne (by omega)]; exact set_at (by rw [Array.size_setIfInBounds]; omega) _
  · exact set_at (by rw [Array.size_setIfInBounds, Array.size_setIfInBounds]; omega) _
theorem set3_ne {cur : Array Value} {j i : Nat} (c : Col) (h : ¬ (j ≤ i ∧ i < j + 3)) : (set3 cur j c)[i]? = cur[i]? := by
  unfold set3
  rw [Array.getElem?_setIfInBounds_ne (by omega), Array.getElem?_setIfInBounds_ne (by omega), Array.getElem?_setIfInBounds_ne (by omega)]

/-- A tile is filled as far as k. -/
structure FillC (cur cur' : Array Value) (t k : Nat) (v : Col) : Prop where
  sz : cur'.size = cur.size
  mk_ : cur'[t * 52]? = some (.bool false)
  px : ∀ i, i < k → ColAt cur' (t * 52 + 4 + i * 3) v
  ot : ∀ j, ¬ (j = t * 52) → ¬ (t * 52 + 4 ≤ j ∧ j < t * 52 + 4 + k * 3) → cur'[j]? = cur[j]?

theorem FillC.zero {cur : Array Value} {t : Nat} (v : Col) (h : t * 52 < cur.size) : FillC cur (cur.setIfInBounds (t * 52) (.bool false)) t 0 v :=
  ⟨by simp, set_at h _, fun i hi => by omega, fun j h1 _ => Array.getElem?_setIfInBounds_ne (by omega)⟩
theorem FillC.succ {cur cur' : Array Value} {t k : Nat} {v : Col} (h : FillC cur cur' t k v) (hk : t * 52 + 4 + k * 3 + 3 ≤ cur.size) : FillC cur (set3 cur' (t * 52 + 4 + k * 3) v) t (k + 1) v := by
  refine ⟨by rw [set3_size]; exact h.sz, ?_, fun i hi => ?_, fun j h1 h2 => ?_⟩
  · rw [set3_ne _ (by omega)]; exact h.mk_
  · by_cases e : i = k
    · subst e; exact set3_at v (by rw [h.sz]; omega)
    · exact (h.px i (by omega)).same (fun j h1 h2 => set3_ne _ (by omega))
  · rw [set3_ne _ (by omega)]; exact h.ot j h1 (by omega)

theorem FillC.tiles {cur cur' : Array Value} {n t : Nat} {f : Nat → Nat → Col} {v : Col} (h : FillC cur cur' t 16 v) (hT : TilesC cur n f) (ht : t < n) :
    TilesC cur' n (fun t' i => if t' = t then v else f t' i) ∧ cur'[t * 52]? = some (.bool false) := by
  refine ⟨hT.step (t := t) h.sz (fun j hj => h.ot j (by omega) (by omega)) (fun t' e i => if_neg e) (fun _ => ?_), h.mk_⟩
  obtain ⟨m, a, c0, c1, hm, hp⟩ := hT.at_ t ht
  exact ⟨false, a, h.mk_, c1.same (fun i h1 h2 => h.ot i (by omega) (by omega)), (by simp), fun i hi => ⟨v, h.px i hi, fun _ => by simp⟩⟩

theorem TilesC.mark {cur : Array Value} {n t : Nat} {f : Nat → Nat → Col} (h : TilesC cur n f) (ht : t < n) (a : Col) :
    TilesC (set3 (cur.setIfInBounds (t * 52) (.bool true)) (t * 52 + 1) a) n (fun t' i => if t' = t then a else f t' i) := by
  have hs := h.sz
  refine h.step (t := t) (by rw [set3_size]; simp) (fun j hj => ?_) (fun t' e i => if_neg e) (fun _ => ?_)
  · rw [set3_ne _ (by omega), Array.getElem?_setIfInBounds_ne (by omega)]
  · obtain ⟨m, a', c0, c1, hm, hp⟩ := h.at_ t ht
    refine ⟨true, a, ?_, ?_, fun _ i _ => by simp, fun i hi => ?_⟩
    · rw [set3_ne _ (by omega)]; exact set_at (by omega) _
    · exact set3_at a (by rw [Array.size_setIfInBounds]; omega)
    · obtain ⟨v, c2, _⟩ := hp i hi
      exact ⟨v, c2.same (fun j h1 h2 => by rw [set3_ne _ (by omega), Array.getElem?_setIfInBounds_ne (by omega)]), fun h => by simp at h⟩

def updC (f : Nat → Nat → Col) (t i : Nat) (v : Col) : Nat → Nat → Col := fun t' i' => if t' = t ∧ i' = i then v else f t' i'

theorem TilesC.put {cur : Array Value} {n t i : Nat} {f : Nat → Nat → Col} (h : TilesC cur n f) (ht : t < n) (hi : i < 16) (h0 : cur[t * 52]? = some (.bool false)) (v : Col) :
    TilesC (set3 cur (t * 52 + 4 + i * 3) v) n (updC f t i v) := by
  have hs := h.sz
  refine h.step (t := t) (by rw [set3_size]) (fun j hj => ?_) (fun t' e i => if_neg (by rintro ⟨h, _⟩; exact e h)) (fun _ => ?_)
  · rw [set3_ne _ (by omega)]
  · obtain ⟨m, a', c0, c1, hm, hp⟩ := h.at_ t ht
    rw [h0] at c0
    simp at c0
    subst c0
    refine ⟨false, a', ?_, ?_, (by simp), fun i' hi' => ?_⟩
    · rw [set3_ne _ (by omega)]; exact h0
    · exact c1.same (fun j h1 h2 => set3_ne _ (by omega))
    · by_cases e : i' = i
      · subst e
        exact ⟨v, set3_at v (by omega), fun _ => by simp [updC]⟩
      · obtain ⟨v', c2, hv⟩ := hp i' hi'
        exact ⟨v', c2.same (fun j h1 h2 => set3_ne _ (by omega)), fun hm' => by rw [hv hm']; exact (if_neg (by rintro ⟨_, h⟩; exact e h)).symm⟩

theorem TilesC.congr {cur : Array Value} {n : Nat} {f f' : Nat → Nat → Col} (h : TilesC cur n f) (e : ∀ t, t < n → ∀ i, i < 16 → f' t i = f t i) : TilesC cur n f' := by
  refine ⟨h.sz, fun t ht => ?_⟩
  obtain ⟨m, a, c0, c1, hm, hp⟩ := h.at_ t ht
  exact ⟨m, a, c0, c1, fun hm' i hi => by rw [e t ht i hi]; exact hm hm' i hi, fun i hi => by
    obtain ⟨v, c2, hv⟩ := hp i hi
    exact ⟨v, c2, fun hm' => by rw [e t ht i hi]; exact hv hm'⟩⟩

end Go.Proofs.YthcikinkicpicaaGreatDoor
