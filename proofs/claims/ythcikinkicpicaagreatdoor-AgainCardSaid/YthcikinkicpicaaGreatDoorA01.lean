import Derived.Test.YthcikinkicpicaaGreatDoorRows
import Derived.WalkKit
import Derived.WalkSpells
import Derived.WalkLawsBesides
import Derived.Deep.Light
import Derived.Laws.BitsAllLaws
import Derived.BigQuiet
import Derived.Deep.QuietTactic
import Derived.Deep.RegionHeld
import Derived.Deep.LoopGhost
import Derived.Deep.RegionLaw
import Derived.BigRegion

namespace Go.Proofs.YthcikinkicpicaaGreatDoor

structure Cor where
  x : Int
  y : Int
  d : Int
  r : Int
  g : Int
  b : Int

structure Cor.Ok (c : Cor) : Prop where
  x0 : -32768 ≤ c.x
  x1 : c.x ≤ 32767
  y0 : -32768 ≤ c.y
  y1 : c.y ≤ 32767
  d0 : 0 ≤ c.d
  d1 : c.d ≤ 65535
  r0 : 0 ≤ c.r
  r1 : c.r ≤ 255
  g0 : 0 ≤ c.g
  g1 : c.g ≤ 255
  b0 : 0 ≤ c.b
  b1 : c.b ≤ 255

/-- The document's E. -/
def edge (a b : Cor) (x y : Int) : Int := (b.x - a.x) * (y - a.y) - (b.y - a.y) * (x - a.x)

theorem mul_abs_le (a b A B : Int) (h1 : -A ≤ a) (h2 : a ≤ A) (h3 : -B ≤ b) (h4 : b ≤ B) : -(A * B) ≤ a * b ∧ a * b ≤ A * B := by
  have h : (a * b).natAbs ≤ (A * B).natAbs := by
    rw [Int.natAbs_mul, Int.natAbs_mul]
    exact Nat.mul_le_mul (by omega) (by omega)
  have h5 : 0 ≤ A * B := Int.mul_nonneg (by omega) (by omega)
  generalize a * b = p at *
  generalize A * B = q at *
  omega

theorem edge_bound (a b : Cor) (x y : Int) (ha : a.Ok) (hb : b.Ok) (hx : -32768 ≤ x) (hx' : x ≤ 32767) (hy : -32768 ≤ y) (hy' : y ≤ 32767) :
    -8589672450 ≤ edge a b x y ∧ edge a b x y ≤ 8589672450 := by
  obtain ⟨a1, a2, a3, a4, _, _, _, _, _, _, _, _⟩ := ha
  obtain ⟨b1, b2, b3, b4, _, _, _, _, _, _, _, _⟩ := hb
  have h1 := mul_abs_le (b.x - a.x) (y - a.y) 65535 65535 (by omega) (by omega) (by omega) (by omega)
  have h2 := mul_abs_le (b.y - a.y) (x - a.x) 65535 65535 (by omega) (by omega) (by omega) (by omega)
  unfold edge
  generalize (b.x - a.x) * (y - a.y) = p at *
  generalize (b.y - a.y) * (x - a.x) = q at *
  omega

/-- Is a place with that E at the edge's inside, or on its border? -/
def hasB (a b : Cor) (e : Int) : Bool := if e = 0 then decide (b.y < a.y) || (decide (b.y = a.y) && decide (a.x < b.x)) else decide (0 < e)

def covB (a b c : Cor) (x y : Int) : Bool :=
  hasB b c (edge b c (16 * x + 8) (16 * y + 8)) && (hasB c a (edge c a (16 * x + 8) (16 * y + 8)) && hasB a b (edge a b (16 * x + 8) (16 * y + 8)))

def within (n a b : Int) : Int := if n < a then a else if b < n then b else n

def testB (k a b : Int) : Bool :=
  if k = 0 then false else if k = 1 then decide (a < b) else if k = 2 then decide (a = b) else if k = 3 then decide (a ≤ b)
  else if k = 4 then decide (b < a) else if k = 5 then !decide (a = b) else if k = 6 then decide (b ≤ a) else true

theorem tdiv_neg' (a b : Int) (hb : 0 < b) (h : a.tmod b < 0) : a.tdiv b - 1 = a / b := by
  have h1 := Int.mul_tdiv_add_tmod a b
  have h2 := Int.tmod_lt_of_pos a hb
  have h3 : -b < a.tmod b := by have := Int.lt_tmod_of_pos a hb; omega
  have h4 : a = b * (a.tdiv b - 1) + (a.tmod b + b) := by rw [Int.mul_sub]; omega
  generalize a.tdiv b = q at *; generalize a.tmod b = r at *
  rw [h4, Int.mul_add_ediv_left _ _ (by omega), Int.ediv_eq_zero_of_lt (by omega) (by omega)]; omega
theorem tdiv_nn (a b : Int) (hb : 0 < b) (h : 0 ≤ a.tmod b) : a.tdiv b = a / b := by
  have h1 := Int.mul_tdiv_add_tmod a b
  have h2 := Int.tmod_lt_of_pos a hb
  generalize a.tdiv b = q at *; generalize a.tmod b = r at *
  rw [← h1, Int.mul_add_ediv_left _ _ (by omega), Int.ediv_eq_zero_of_lt (by omega) (by omega)]; omega

def iand (a b : Int) : Int := ((a.toNat &&& b.toNat : Nat) : Int)
def ior (a b : Int) : Int := ((a.toNat ||| b.toNat : Nat) : Int)

theorem iand_bd (a b : Int) (h : b ≤ 255) : 0 ≤ iand a b ∧ iand a b ≤ 255 := by
  have h1 : a.toNat &&& b.toNat < 2 ^ 8 := Nat.and_lt_two_pow _ (by omega)
  unfold iand
  omega
theorem ior_bd (a b : Int) (h : a ≤ 255) (h' : b ≤ 255) : 0 ≤ ior a b ∧ ior a b ≤ 255 := by
  have h1 : a.toNat ||| b.toNat < 2 ^ 8 := Nat.or_lt_two_pow (by omega) (by omega)
  unfold ior
  omega

structure Tst where
  depth : Int
  write : Int
  test : Int
  value : Int
  which : Int
  writes : Int
  fail : Int
  dfail : Int
  pass : Int
  faces : Int
  colours : Int

structure Tst.Ok (t : Tst) : Prop where
  depth0 : 0 ≤ t.depth
  depth1 : t.depth ≤ 7
  write0 : 0 ≤ t.write
  write1 : t.write ≤ 1
  test0 : 0 ≤ t.test
  test1 : t.test ≤ 7
  value0 : 0 ≤ t.value
  value1 : t.value ≤ 255
  which0 : 0 ≤ t.which
  which1 : t.which ≤ 255
  writes0 : 0 ≤ t.writes
  writes1 : t.writes ≤ 255
  fail0 : 0 ≤ t.fail
  fail1 : t.fail ≤ 7
  dfail0 : 0 ≤ t.dfail
  dfail1 : t.dfail ≤ 7
  pass0 : 0 ≤ t.pass
  pass1 : t.pass ≤ 7
  faces0 : 0 ≤ t.faces
  faces1 : t.faces ≤ 2
  colours0 : 0 ≤ t.colours
  colours1 : t.colours ≤ 7

def stenNew (k value s : Int) : Int :=
  if k = 1 then 0 else if k = 2 then value else if k = 3 then (if s < 255 then s + 1 else s)
  else if k = 4 then (if 0 < s then s - 1 else s) else if k = 5 then 255 - s
  else if k = 6 then (s + 1) % 256 else if k = 7 then (s + 255) % 256 else s

def made (t : Tst) (k s : Int) : Int := ior (iand s (255 - t.writes)) (iand (stenNew k t.value s) t.writes)

theorem made_bd (t : Tst) (k s : Int) (h0 : 0 ≤ t.writes) (h1 : t.writes ≤ 255) : 0 ≤ made t k s ∧ made t k s ≤ 255 := by
  unfold made
  have h2 := iand_bd s (255 - t.writes) (by omega)
  have h3 := iand_bd (stenNew k t.value s) t.writes (by omega)
  exact ior_bd _ _ h2.2 h3.2

structure Dot where
  r : Int
  g : Int
  b : Int
  d : Int
  s : Int

structure Dot.Ok (c : Dot) : Prop where
  r0 : 0 ≤ c.r
  r1 : c.r ≤ 255
  g0 : 0 ≤ c.g
  g1 : c.g ≤ 255
  b0 : 0 ≤ c.b
  b1 : c.b ≤ 255
  d0 : 0 ≤ c.d
  d1 : c.d ≤ 65535
  s0 : 0 ≤ c.s
  s1 : c.s ≤ 255

structure Qry where
  ever : Bool
  on : Bool
  n : Int

structure Rep where
  k : Int
  a : Int
  b : Int
  c : Int

structure St where
  W : Int
  H : Int
  dots : List Dot
  T : Tst
  wx : Int
  wy : Int
  ww : Int
  wh : Int
  sh : List Int
  qs : List Qry
  work : Int
  out : List Rep

/-- A shader's code that may be run. -/
def shOk : List Int → Prop
  | a :: b :: c :: e :: rest => (0 ≤ a ∧ a ≤ 8 ∧ 0 ≤ b ∧ b ≤ 255 ∧ (a < 7 → b ≤ 7) ∧ 0 ≤ c ∧ c ≤ 255 ∧ 0 ≤ e ∧ e ≤ 255) ∧ shOk rest
  | [] => True
  | _ => False

structure St.Ok (K : Int) (st : St) : Prop where
  W0 : 1 ≤ st.W
  W1 : st.W ≤ 24
  H0 : 1 ≤ st.H
  H1 : st.H ≤ 24
  len : (st.dots.length : Int) = st.W * st.H
  dots : ∀ o ∈ st.dots, o.Ok
  T : st.T.Ok
  wx0 : 0 ≤ st.wx
  wy0 : 0 ≤ st.wy
  ww0 : 0 ≤ st.ww
  wh0 : 0 ≤ st.wh
  wx1 : st.wx + st.ww ≤ st.W
  wy1 : st.wy + st.wh ≤ st.H
  sh : shOk st.sh
  shl : st.sh.length ≤ 64
  qs : st.qs.length = 4
  qn : ∀ q ∈ st.qs, 0 ≤ q.n ∧ q.n ≤ K
  work0 : 0 ≤ st.work
  work1 : st.work ≤ K

def reg (r : List Int) (k : Int) : Int := r.getD (k % 8).toNat 0

def shVal (s0 s2 s3 one two : Int) : Int :=
  if s0 = 0 then one + two else if s0 = 1 then one - two else if s0 = 2 then one * two / 256
  else if s0 = 3 then (if one < two then one else two) else if s0 = 4 then (if two < one then one else two)
  else if s0 = 5 then (if one < two then 1 else 0)
  else if s0 = 6 then (if 32767 < 256 * s2 + s3 then 256 * s2 + s3 - 65536 else 256 * s2 + s3) else 0

/-- The shader from here on: its code, the registers, the depth, the steps that were made. -/
def shRun : List Int → List Int → Int → Int → Int × Option (List Int × Int)
  | a :: b :: c :: e :: rest, r, d, k =>
    if a = 7 ∧ reg r c < reg r e then (k + 1, none)
    else shRun rest (if a < 7 then r.set b.toNat (within (shVal a c e (reg r c) (reg r e)) (-2147483648) 2147483647) else r)
      (if a = 8 then within (reg r c) 0 65535 else d) (k + 1)
  | _, r, d, k => (k, some (r, d))

/-- What becomes of a pixel, and whether it is counted. -/
def dotRes (T : Tst) (f o : Dot) : Dot × Bool :=
  if testB T.test (iand T.value T.which) (iand o.s T.which) = false then ({ o with s := made T T.fail o.s }, false)
  else if testB T.depth f.d o.d = false then ({ o with s := made T T.dfail o.s }, false)
  else ({ r := if iand T.colours 1 = 0 then o.r else f.r, g := if iand T.colours 2 = 0 then o.g else f.g, b := if iand T.colours 4 = 0 then o.b else f.b,
          d := if T.write = 1 then f.d else o.d, s := made T T.pass o.s }, true)

def shaded (sh : List Int) (d : Dot) (x y work : Int) : Int × Option Dot :=
  match shRun sh [d.r, d.g, d.b, x, y, d.d, 0, 0] d.d work with
  | (k, none) => (k, none)
  | (k, some (r, z)) => (k, some { r := within (r.getD 0 0) 0 255, g := within (r.getD 1 0) 0 255, b := within (r.getD 2 0) 0 255, d := z, s := d.s })

def dot0 : Dot := { r := 0, g := 0, b := 0, d := 0, s := 0 }

def count (q : Qry) : Qry := if q.on then { q with n := q.n + 1 } else q

def St.dot (st : St) (d : Dot) (x y : Int) : St :=
  match shaded st.sh d x y st.work with
  | (k, none) => { st with work := k }
  | (k, some f) =>
    { st with work := k, dots := st.dots.set (y * st.W + x).toNat (dotRes st.T f (st.dots.getD (y * st.W + x).toNat dot0)).1,
              qs := if (dotRes st.T f (st.dots.getD (y * st.W + x).toNat dot0)).2 then st.qs.map count else st.qs }

def mix (a b c : Cor) (area u v w : Int) : Dot :=
  { r := (u * a.r + v * b.r + w * c.r) / area, g := (u * a.g + v * b.g + w * c.g) / area, b := (u * a.b + v * b.b + w * c.b) / area,
    d := (u * a.d + v * b.d + w * c.d) / area, s := 0 }

def pix (a b c : Cor) (area x y : Int) : Dot :=
  mix a b c area (edge b c (16 * x + 8) (16 * y + 8)) (edge c a (16 * x + 8) (16 * y + 8)) (edge a b (16 * x + 8) (16 * y + 8))

def triX (a b c : Cor) (area y : Int) : Nat → Int → St → St
  | 0, _, st => st
  | n + 1, x, st => triX a b c area y n (x + 1) (if covB a b c x y then st.dot (pix a b c area x y) x y else st)

def triY (a b c : Cor) (area : Int) : Nat → Int → St → St
  | 0, _, st => st
  | n + 1, y, st => triY a b c area n (y + 1) (triX a b c area y st.ww.toNat st.wx st)

def St.tri (st : St) (a b c : Cor) : St :=
  if edge a b c.x c.y = 0 ∨ (st.T.faces = 1 ∧ edge a b c.x c.y < 0) ∨ (st.T.faces = 2 ∧ 0 < edge a b c.x c.y) then st
  else if edge a b c.x c.y < 0 then triY a c b (-edge a b c.x c.y) st.wh.toNat st.wy st
  else triY a b c (edge a b c.x c.y) st.wh.toNat st.wy st

end Go.Proofs.YthcikinkicpicaaGreatDoor

namespace Go.Proofs.YthcikinkicpicaaGreatDoor

theorem shRun_work : ∀ (n : Nat) (sh r : List Int) (d k : Int), sh.length ≤ n → k ≤ (shRun sh r d k).1 ∧ 4 * ((shRun sh r d k).1 - k) ≤ sh.length
  | 0, [], r, d, k, _ => by simp [shRun]
  | n + 1, [], r, d, k, _ => by simp [shRun]
  | n + 1, [a], r, d, k, _ => by simp [shRun]
  | n + 1, [a, b], r, d, k, _ => by simp [shRun]
  | n + 1, [a, b, c], r, d, k, _ => by simp [shRun]
  | n + 1, a :: b :: c :: e :: rest, r, d, k, h => by
    rw [shRun]
    split
    · simp; omega
    · have := shRun_work n rest (if a < 7 then r.set b.toNat (within (shVal a c e (reg r c) (reg r e)) (-2147483648) 2147483647) else r) (if a = 8 then within (reg r c) 0 65535 else d) (k + 1) (by simp at h; omega)
      simp only [List.length_cons]
      omega

theorem within_bd (n a b : Int) (h : a ≤ b) : a ≤ within n a b ∧ within n a b ≤ b := by
  unfold within; split
  · omega
  · split <;> omega

theorem shRun_depth : ∀ (n : Nat) (sh r : List Int) (d k : Int), sh.length ≤ n → 0 ≤ d → d ≤ 65535 → ∀ r' z, (shRun sh r d k).2 = some (r', z) → 0 ≤ z ∧ z ≤ 65535
  | 0, [], r, d, k, _, h0, h1, r', z, h => by simp [shRun] at h; omega
  | n + 1, [], r, d, k, _, h0, h1, r', z, h => by simp [shRun] at h; omega
  | n + 1, [a], r, d, k, _, h0, h1, r', z, h => by simp [shRun] at h; omega
  | n + 1, [a, b], r, d, k, _, h0, h1, r', z, h => by simp [shRun] at h; omega
  | n + 1, [a, b, c], r, d, k, _, h0, h1, r', z, h => by simp [shRun] at h; omega
  | n + 1, a :: b :: c :: e :: rest, r, d, k, hl, h0, h1, r', z, h => by
    rw [shRun] at h
    split at h
    · simp at h
    · have hw := within_bd (reg r c) 0 65535 (by omega)
      refine shRun_depth n rest _ _ _ (by simp at hl; omega) ?_ ?_ r' z h
      · split <;> omega
      · split <;> omega

theorem shaded_ok (sh : List Int) (d : Dot) (x y work : Int) (hd : d.Ok) (hl : sh.length ≤ 64) :
    work ≤ (shaded sh d x y work).1 ∧ (shaded sh d x y work).1 ≤ work + 16 ∧ ∀ f, (shaded sh d x y work).2 = some f → f.Ok := by
  have h1 := shRun_work sh.length sh [d.r, d.g, d.b, x, y, d.d, 0, 0] d.d work (Nat.le_refl _)
  have h2 := shRun_depth sh.length sh [d.r, d.g, d.b, x, y, d.d, 0, 0] d.d work (Nat.le_refl _) hd.d0 hd.d1
  unfold shaded
  cases hr : shRun sh [d.r, d.g, d.b, x, y, d.d, 0, 0] d.d work with
  | mk k o =>
    rw [hr] at h1 h2
    cases o with
    | none => exact ⟨h1.1, by simp only at h1 ⊢; omega, fun f hf => by simp at hf⟩
    | some p =>
      obtain ⟨r, z⟩ := p
      refine ⟨h1.1, by simp only at h1 ⊢; omega, fun f hf => ?_⟩
      simp only [Option.some.injEq] at hf
      subst hf
      have hz := h2 r z rfl
      have a1 := within_bd (r.getD 0 0) 0 255 (by omega)
      have a2 := within_bd (r.getD 1 0) 0 255 (by omega)
      have a3 := within_bd (r.getD 2 0) 0 255 (by omega)
      exact ⟨a1.1, a1.2, a2.1, a2.2, a3.1, a3.2, hz.1, hz.2, hd.s0, hd.s1⟩

theorem dotRes_ok (T : Tst) (f o : Dot) (hT : T.Ok) (hf : f.Ok) (ho : o.Ok) : (dotRes T f o).1.Ok := by
  unfold dotRes
  have m1 := made_bd T T.fail o.s hT.writes0 hT.writes1
  have m2 := made_bd T T.dfail o.s hT.writes0 hT.writes1
  have m3 := made_bd T T.pass o.s hT.writes0 hT.writes1
  split
  · exact ⟨ho.r0, ho.r1, ho.g0, ho.g1, ho.b0, ho.b1, ho.d0, ho.d1, m1.1, m1.2⟩
  · split
    · exact ⟨ho.r0, ho.r1, ho.g0, ho.g1, ho.b0, ho.b1, ho.d0, ho.d1, m2.1, m2.2⟩
    · refine ⟨?_, ?_, ?_, ?_, ?_, ?_, ?_, ?_, m3.1, m3.2⟩
      · dsimp only; split
        · exact ho.r0
        · exact hf.r0
      · dsimp only; split
        · exact ho.r1
        · exact hf.r1
      · dsimp only; split
        · exact ho.g0
        · exact hf.g0
      · dsimp only; split
        · exact ho.g1
        · exact hf.g1
      · dsimp only; split
        · exact ho.b0
        · exact hf.b0
      · dsimp only; split
        · exact ho.b1
        · exact hf.b1
      · dsimp only; split
        · exact hf.d0
        · exact ho.d0
      · dsimp only; split
        · exact hf.d1
        · exact ho.d1

theorem dot0_ok : dot0.Ok := ⟨by decide, by decide, by decide, by decide, by decide, by decide, by decide, by decide, by decide, by decide⟩

theorem mem_set {α : Type} {l : List α} {i : Nat} {a b : α} (h : b ∈ l.set i a) : b ∈ l ∨ b = a := List.mem_or_eq_of_mem_set h

/-- What a pixel leaves as it was. -/
theorem dot_same (st : St) (d : Dot) (x y : Int) : (st.dot d x y).W = st.W ∧ (st.dot d x y).H = st.H ∧ (st.dot d x y).T = st.T ∧ (st.dot d x y).wx = st.wx ∧ (st.dot d x y).wy = st.wy ∧
    (st.dot d x y).ww = st.ww ∧ (st.dot d x y).wh = st.wh ∧ (st.dot d x y).sh = st.sh ∧ (st.dot d x y).out = st.out ∧ (st.dot d x y).dots.length = st.dots.length := by
  unfold St.dot
  split <;> simp

theorem dot_ok (st : St) (d : Dot) (x y K : Int) (h : st.Ok K) (hd : d.Ok) : (st.dot d x y).Ok (K + 16) := by
  obtain ⟨e1, e2, e3, e4, e5, e6, e7, e8, e9, e10⟩ := dot_same st d x y
  have hs := shaded_ok st.sh d x y st.work hd h.shl
  have w0 := h.work0
  have w1 := h.work1
  refine ⟨by rw [e1]; exact h.W0, by rw [e1]; exact h.W1, by rw [e2]; exact h.H0, by rw [e2]; exact h.H1, by rw [e10, e1, e2]; exact h.len, ?_, by rw [e3]; exact h.T, by rw [e4]; exact h.wx0, by rw [e5]; exact h.wy0,
    by rw [e6]; exact h.ww0, by rw [e7]; exact h.wh0, by rw [e4, e6, e1]; exact h.wx1, by rw [e5, e7, e2]; exact h.wy1, by rw [e8]; exact h.sh, by rw [e8]; exact h.shl, ?_, ?_, ?_, ?_⟩
  all_goals
    unfold St.dot
    cases hr : shaded st.sh d x y st.work with
    | mk k o =>
      rw [hr] at hs
      obtain ⟨s1, s2, s3⟩ := hs
      simp only at s1 s2 s3
      cases o with
      | none => first
        | exact h.dots
        | exact h.qs
        | (intro q hq; have := h.qn q hq; omega)
        | (show 0 ≤ k; omega)
        | (show k ≤ K + 16; omega)
      | some f => first
        | (intro o ho
           dsimp only at ho
           rcases mem_set ho with h1 | h1
           · exact h.dots o h1
           · rw [h1]
             refine dotRes_ok _ _ _ h.T (s3 f rfl) ?_
             rw [List.getD_eq_getElem?_getD]
             cases hg : st.dots[(y * st.W + x).toNat]? with
             | none => exact dot0_ok
             | some o' => exact h.dots o' (List.mem_of_getElem? hg))
        | (dsimp only; split
           · rw [List.length_map]; exact h.qs
           · exact h.qs)
        | (intro q hq
           dsimp only at hq
           revert hq
           split
           all_goals intro hq'
           · rw [List.mem_map] at hq'
             obtain ⟨q', hm, rfl⟩ := hq'
             have := h.qn q' hm
             unfold count
             split
             · simp only; omega
             · omega
           · have := h.qn q hq'; omega)
        | (show 0 ≤ k; omega)
        | (show k ≤ K + 16; omega)

theorem Ok_mono {K K' : Int} {st : St} (h : st.Ok K) (hK : K ≤ K') : st.Ok K' :=
  ⟨h.W0, h.W1, h.H0, h.H1, h.len, h.dots, h.T, h.wx0, h.wy0, h.ww0, h.wh0, h.wx1, h.wy1, h.sh, h.shl, h.qs, fun q hq => ⟨(h.qn q hq).1, by have := (h.qn q hq).2; omega⟩, h.work0, by have := h.work1; omega⟩

theorem hasB_nn {a b : Cor} {e : Int} (h : hasB a b e = true) : 0 ≤ e := by
  unfold hasB at h
  split at h
  · omega
  · simp at h; omega

theorem edge_sum (a b c : Cor) (x y : Int) : edge b c x y + edge c a x y + edge a b x y = edge a b c.x c.y := by
  unfold edge
  simp only [Int.sub_mul, Int.mul_sub, Int.mul_comm b.y b.x, Int.mul_comm c.y b.x, Int.mul_comm b.y c.x, Int.mul_comm c.y c.x, Int.mul_comm a.y c.x, Int.mul_comm b.y a.x, Int.mul_comm a.y a.x]
  omega

/-- A mean of numbers with weights that add up to the whole lies between them. -/
theorem mean_bd (u v w s p q r B : Int) (hu : 0 ≤ u) (hv : 0 ≤ v) (hw : 0 ≤ w) (hs : 0 < s) (he : u + v + w = s) (p0 : 0 ≤ p) (p1 : p ≤ B) (q0 : 0 ≤ q) (q1 : q ≤ B) (r0 : 0 ≤ r) (r1 : r ≤ B) :
    0 ≤ (u * p + v * q + w * r) / s ∧ (u * p + v * q + w * r) / s ≤ B := by
  have a1 := Int.mul_nonneg hu p0
  have a2 := Int.mul_nonneg hv q0
  have a3 := Int.mul_nonneg hw r0
  have b1 := Int.mul_le_mul_of_nonneg_left p1 hu
  have b2 := Int.mul_le_mul_of_nonneg_left q1 hv
  have b3 := Int.mul_le_mul_of_nonneg_left r1 hw
  have hB : u * B + v * B + w * B = s * B := by rw [← he, Int.add_mul, Int.add_mul]
  refine ⟨Int.ediv_nonneg (by omega) (by omega), ?_⟩
  have : (u * p + v * q + w * r) / s ≤ (s * B) / s := Int.ediv_le_ediv hs (by omega)
  rwa [Int.mul_ediv_cancel_left B (by omega)] at this

theorem cov_parts {a b c : Cor} {x y : Int} (h : covB a b c x y = true) :
    0 ≤ edge b c (16 * x + 8) (16 * y + 8) ∧ 0 ≤ edge c a (16 * x + 8) (16 * y + 8) ∧ 0 ≤ edge a b (16 * x + 8) (16 * y + 8) := by
  unfold covB at h
  simp only [Bool.and_eq_true] at h
  exact ⟨hasB_nn h.1, hasB_nn h.2.1, hasB_nn h.2.2⟩

theorem pix_ok (a b c : Cor) (area x y : Int) (ha : a.Ok) (hb : b.Ok) (hc : c.Ok) (harea : edge a b c.x c.y = area) (hpos : 0 < area) (h : covB a b c x y = true) : (pix a b c area x y).Ok := by
  obtain ⟨h1, h2, h3⟩ := cov_parts h
  have hs := edge_sum a b c (16 * x + 8) (16 * y + 8)
  rw [harea] at hs
  unfold pix mix
  have m1 := mean_bd _ _ _ area a.r b.r c.r 255 h1 h2 h3 hpos hs ha.r0 ha.r1 hb.r0 hb.r1 hc.r0 hc.r1
  have m2 := mean_bd _ _ _ area a.g b.g c.g 255 h1 h2 h3 hpos hs ha.g0 ha.g1 hb.g0 hb.g1 hc.g0 hc.g1
  have m3 := mean_bd _ _ _ area a.b b.b c.b 255 h1 h2 h3 hpos hs ha.b0 ha.b1 hb.b0 hb.b1 hc.b0 hc.b1
  have m4 := mean_bd _ _ _ area a.d b.d c.d 65535 h1 h2 h3 hpos hs ha.d0 ha.d1 hb.d0 hb.d1 hc.d0 hc.d1
  exact ⟨m1.1, m1.2, m2.1, m2.2, m3.1, m3.2, m4.1, m4.2, by show (0 : Int) ≤ 0; decide, by show (0 : Int) ≤ 255; decide⟩

/-- No number leaves its room on the way to a mean. -/
theorem mean_room (u v w p q r : Int) (hu : 0 ≤ u) (hu' : u ≤ 8589672450) (hv : 0 ≤ v) (hv' : v ≤ 8589672450) (hw : 0 ≤ w) (hw' : w ≤ 8589672450) (p0 : 0 ≤ p) (p1 : p ≤ 65535) (q0 : 0 ≤ q) (q1 : q ≤ 65535) (r0 : 0 ≤ r) (r1 : r ≤ 65535) :
    (0 ≤ u * p ∧ u * p ≤ 600000000000000) ∧ (0 ≤ v * q ∧ v * q ≤ 600000000000000) ∧ (0 ≤ w * r ∧ w * r ≤ 600000000000000) := by
  have a1 := Int.mul_nonneg hu p0
  have a2 := Int.mul_nonneg hv q0
  have a3 := Int.mul_nonneg hw r0
  have b1 := mul_abs_le u p 8589672450 65535 (by omega) hu' (by omega) p1
  have b2 := mul_abs_le v q 8589672450 65535 (by omega) hv' (by omega) q1
  have b3 := mul_abs_le w r 8589672450 65535 (by omega) hw' (by omega) r1
  omega

theorem triX_ok (a b c : Cor) (area y : Int) (ha : a.Ok) (hb : b.Ok) (hc : c.Ok) (harea : edge a b c.x c.y = area) (hpos : 0 < area) :
    ∀ (n : Nat) (x : Int) (st : St) (K : Int), st.Ok K → (triX a b c area y n x st).Ok (K + 16 * n)
  | 0, x, st, K, h => by simpa [triX] using h
  | n + 1, x, st, K, h => by
    rw [triX]
    have e : K + 16 * ((n + 1 : Nat) : Int) = (K + 16) + 16 * n := by push_cast; omega
    rw [e]
    apply triX_ok a b c area y ha hb hc harea hpos n
    cases hcov : covB a b c x y
    · rw [if_neg (by simp)]; exact Ok_mono h (by omega)
    · rw [if_pos rfl]; exact dot_ok st _ x y K h (pix_ok a b c area x y ha hb hc harea hpos hcov)

theorem triX_same (a b c : Cor) (area y : Int) : ∀ (n : Nat) (x : Int) (st : St), (triX a b c area y n x st).W = st.W ∧ (triX a b c area y n x st).H = st.H ∧ (triX a b c area y n x st).T = st.T ∧ (triX a b c area y n x st).wx = st.wx ∧ (triX a b c area y n x st).wy = st.wy ∧
    (triX a b c area y n x st).ww = st.ww ∧ (triX a b c area y n x st).wh = st.wh ∧ (triX a b c area y n x st).sh = st.sh ∧ (triX a b c area y n x st).out = st.out
  | 0, x, st => by simp [triX]
  | n + 1, x, st => by
    rw [triX]
    have h := triX_same a b c area y n (x + 1) (if covB a b c x y then st.dot (pix a b c area x y) x y else st)
    have hd := dot_same st (pix a b c area x y) x y
    cases hcov : covB a b c x y
    · rw [hcov] at h; simpa using h
    · rw [hcov] at h
      simp only [if_true] at h ⊢
      obtain ⟨h1, h2, h3, h4, h5, h6, h7, h8, h9⟩ := h
      obtain ⟨d1, d2, d3, d4, d5, d6, d7, d8, d9, _⟩ := hd
      exact ⟨h1.trans d1, h2.trans d2, h3.trans d3, h4.trans d4, h5.trans d5, h6.trans d6, h7.trans d7, h8.trans d8, h9.trans d9⟩

theorem triY_ok (a b c : Cor) (area : Int) (ha : a.Ok) (hb : b.Ok) (hc : c.Ok) (harea : edge a b c.x c.y = area) (hpos : 0 < area) :
    ∀ (n : Nat) (y : Int) (st : St) (K : Int), st.Ok K → (triY a b c area n y st).Ok (K + 384 * n)
  | 0, y, st, K, h => by simpa [triY] using h
  | n + 1, y, st, K, h => by
    rw [triY]
    have e : K + 384 * ((n + 1 : Nat) : Int) = (K + 384) + 384 * n := by push_cast; omega
    rw [e]
    apply triY_ok a b c area ha hb hc harea hpos n
    refine Ok_mono (triX_ok a b c area y ha hb hc harea hpos _ _ _ K h) ?_
    have := h.wx1; have := h.W1; have := h.wx0
    omega

end Go.Proofs.YthcikinkicpicaaGreatDoor

namespace Go.Proofs.YthcikinkicpicaaGreatDoor

def bytesOk (l : List Int) : Prop := ∀ v ∈ l, 0 ≤ v ∧ v ≤ 255
theorem bytesOk.at {l : List Int} (h : bytesOk l) (i : Nat) : 0 ≤ l.getD i 0 ∧ l.getD i 0 ≤ 255 := by
  rw [List.getD_eq_getElem?_getD]
  cases hg : l[i]? with
  | none => simp
  | some v => exact h v (List.mem_of_getElem? hg)
def sgn (l : List Int) (i : Nat) : Int := if 32767 < 256 * l.getD i 0 + l.getD (i + 1) 0 then 256 * l.getD i 0 + l.getD (i + 1) 0 - 65536 else 256 * l.getD i 0 + l.getD (i + 1) 0
def cornerOf (l : List Int) (i : Nat) : Cor :=
  { x := sgn l i, y := sgn l (i + 2), d := 256 * l.getD (i + 4) 0 + l.getD (i + 5) 0, r := l.getD (i + 6) 0, g := l.getD (i + 7) 0, b := l.getD (i + 8) 0 }
def aboveB (l : List Int) (most : Int) : Bool := l.any fun v => decide (most < v)
def wrongB (a b c e : Int) : Bool :=
  if a = 6 then decide (7 < b) else if a = 7 then decide (7 < c) || decide (7 < e) else if a = 8 then decide (7 < c) else decide (8 < a) || aboveB [b, c, e] 7
/-- How many bytes stand behind each kind; -1: the kind is none. -/
def kindLen (k : Int) : Int :=
  if k = 1 then 2 else if k = 2 then 7 else if k = 3 then 2 else if k = 4 then 7 else if k = 5 then 4 else if k = 6 then 1 else if k = 7 then 1 else if k = 8 then 1
  else if k = 9 then 27 else if k = 10 then 1 else if k = 11 then 1 else if k = 12 then 1 else if k = 13 then 3 else if k = 14 then 1 else -1
/-- A byte of the stream. -/
def byteAt (s : ByteArray) (i : Nat) : Int := ((s.data.toList.getD i 0).toNat : Int)
theorem byteAt_eq (s : ByteArray) (i : Nat) (h : i < s.size) : byteAt s i = (s[i].toNat : Int) := by
  unfold byteAt
  rw [List.getD_eq_getElem?_getD, List.getElem?_eq_getElem (by simpa using h)]
  rfl
theorem byteAt_bd (s : ByteArray) (i : Nat) : 0 ≤ byteAt s i ∧ byteAt s i ≤ 255 := by
  unfold byteAt
  have := (s.data.toList.getD i 0).toNat_lt
  omega
/-- What Length tells of the command at i. -/
def lenAt (s : ByteArray) (i : Nat) : Int :=
  if byteAt s i = 8 then (if s.size ≤ i + 1 then -2 else 1 + 4 * byteAt s (i + 1)) else kindLen (byteAt s i)
def badSteps : List Int → Bool
  | a :: b :: c :: e :: rest => wrongB a b c e || badSteps rest
  | _ => false
/-- Are a command's numbers none that may be? -/
def badB (W H kind : Int) (a : List Int) : Bool :=
  if kind = 1 then decide (a.getD 0 0 < 1) || (decide (a.getD 1 0 < 1) || aboveB a 24)
  else if kind = 2 then decide (7 < a.getD 0 0)
  else if kind = 3 then decide (7 < a.getD 0 0) || decide (1 < a.getD 1 0)
  else if kind = 4 then decide (7 < a.getD 0 0) || aboveB [a.getD 4 0, a.getD 5 0, a.getD 6 0] 7
  else if kind = 5 then decide (W < a.getD 0 0 + a.getD 2 0) || decide (H < a.getD 1 0 + a.getD 3 0)
  else if kind = 6 then decide (2 < a.getD 0 0)
  else if kind = 7 then decide (7 < a.getD 0 0)
  else if kind = 8 then decide (16 < a.getD 0 0) || badSteps a.tail
  else if kind = 10 ∨ kind = 11 ∨ kind = 14 then decide (4 ≤ a.getD 0 0)
  else if kind = 13 then decide (a.getD 0 0 < 1) || (decide (3 < a.getD 0 0) || (decide (W ≤ a.getD 1 0) || decide (H ≤ a.getD 2 0)))
  else false
def dot1 : Dot := { r := 0, g := 0, b := 0, d := 65535, s := 0 }
def clearDot (a : List Int) (d : Dot) : Dot :=
  { r := if iand (a.getD 0 0) 1 = 0 then d.r else a.getD 1 0, g := if iand (a.getD 0 0) 1 = 0 then d.g else a.getD 2 0, b := if iand (a.getD 0 0) 1 = 0 then d.b else a.getD 3 0,
    d := if iand (a.getD 0 0) 2 = 0 then d.d else 256 * a.getD 4 0 + a.getD 5 0, s := if iand (a.getD 0 0) 4 = 0 then d.s else a.getD 6 0 }
def St.clear (st : St) (a : List Int) : St := { st with dots := st.dots.map (clearDot a) }
def pixRep (d : Dot) (k : Int) : Rep :=
  if k = 3 then { k := 3, a := d.s, b := 0, c := 0 } else if k = 2 then { k := 2, a := d.d, b := 0, c := 0 } else { k := 1, a := d.r, b := d.g, c := d.b }
def St.pixel (st : St) (k x y : Int) : St := { st with out := st.out ++ [pixRep (st.dots.getD (y * st.W + x).toNat dot0) k] }
/-- What 10, 11 and 14 do: the state, the error. -/
def St.query (st : St) (kind n : Int) : St × Int :=
  let q := st.qs.getD n.toNat { ever := false, on := false, n := 0 }
  if kind = 10 then
    if q.on then (st, 3) else ({ st with qs := st.qs.set n.toNat { ever := true, on := true, n := 0 } }, 0)
  else if kind = 11 then
    if q.on then ({ st with qs := st.qs.set n.toNat { q with on := false } }, 0) else (st, 4)
  else if q.on then (st, 3) else if q.ever then ({ st with out := st.out ++ [{ k := 4, a := n, b := q.n, c := 0 }] }, 0) else (st, 4)
def St.resize (st : St) (W H : Int) : St := { st with W := W, H := H, dots := List.replicate (W * H).toNat dot1, wx := 0, wy := 0, ww := W, wh := H }
/-- A command whose numbers may be: the state, the error. -/
def St.does (st : St) (kind : Int) (a : List Int) : St × Int :=
  if kind = 1 then (st.resize (a.getD 0 0) (a.getD 1 0), 0)
  else if kind = 2 then (st.clear a, 0)
  else if kind = 3 then ({ st with T := { st.T with depth := a.getD 0 0, write := a.getD 1 0 } }, 0)
  else if kind = 4 then ({ st with T := { st.T with test := a.getD 0 0, value := a.getD 1 0, which := a.getD 2 0, writes := a.getD 3 0, fail := a.getD 4 0, dfail := a.getD 5 0, pass := a.getD 6 0 } }, 0)
  else if kind = 5 then ({ st with wx := a.getD 0 0, wy := a.getD 1 0, ww := a.getD 2 0, wh := a.getD 3 0 }, 0)
  else if kind = 6 then ({ st with T := { st.T with faces := a.getD 0 0 } }, 0)
  else if kind = 7 then ({ st with T := { st.T with colours := a.getD 0 0 } }, 0)
  else if kind = 8 then ({ st with sh := a.tail }, 0)
  else if kind = 9 then (st.tri (cornerOf a 0) (cornerOf a 9) (cornerOf a 18), 0)
  else if kind = 10 ∨ kind = 11 ∨ kind = 14 then st.query kind (a.getD 0 0)
  else if kind = 13 then (st.pixel (a.getD 0 0) (a.getD 1 0) (a.getD 2 0), 0)
  else (st, 0)
def T0 : Tst := { depth := 7, write := 1, test := 7, value := 0, which := 255, writes := 255, fail := 0, dfail := 0, pass := 0, faces := 0, colours := 7 }
def q0 : Qry := { ever := false, on := false, n := 0 }
/-- The pane at first. -/
def st0 : St := { W := 8, H := 8, dots := List.replicate 64 dot1, T := T0, wx := 0, wy := 0, ww := 8, wh := 8, sh := [], qs := [q0, q0, q0, q0], work := 0, out := [] }
/-- The command's numbers are as many as its kind asks for. -/
def lenOk (kind : Int) (a : List Int) : Prop :=
  (kind = 8 ∧ ∃ m : Nat, m ≤ 255 ∧ a.length = 1 + 4 * m ∧ a.getD 0 0 = m) ∨ (kind ≠ 8 ∧ 1 ≤ kindLen kind ∧ (a.length : Int) = kindLen kind)
theorem kinds {kind : Int} (h : 1 ≤ kindLen kind) : (kind = 1 ∧ kindLen kind = 2) ∨ (kind = 2 ∧ kindLen kind = 7) ∨ (kind = 3 ∧ kindLen kind = 2) ∨ (kind = 4 ∧ kindLen kind = 7) ∨ (kind = 5 ∧ kindLen kind = 4) ∨ (kind = 6 ∧ kindLen kind = 1) ∨
    (kind = 7 ∧ kindLen kind = 1) ∨ (kind = 8 ∧ kindLen kind = 1) ∨ (kind = 9 ∧ kindLen kind = 27) ∨ (kind = 10 ∧ kindLen kind = 1) ∨ (kind = 11 ∧ kindLen kind = 1) ∨ (kind = 12 ∧ kindLen kind = 1) ∨ (kind = 13 ∧ kindLen kind = 3) ∨ (kind = 14 ∧ kindLen kind = 1) := by
  unfold kindLen at h ⊢
  by_cases h1 : kind = 1
  · subst h1; simp
  by_cases h2 : kind = 2
  · subst h2; simp
  by_cases h3 : kind = 3
  · subst h3; simp
  by_cases h4 : kind = 4
  · subst h4; simp
  by_cases h5 : kind = 5
  · subst h5; simp
  by_cases h6 : kind = 6
  · subst h6; simp
  by_cases h7 : kind = 7
  · subst h7; simp
  by_cases h8 : kind = 8
  · subst h8; simp
  by_cases h9 : kind = 9
  · subst h9; simp
  by_cases h10 : kind = 10
  · subst h10; simp
  by_cases h11 : kind = 11
  · subst h11; simp
  by_cases h12 : kind = 12
  · subst h12; simp
  by_cases h13 : kind = 13
  · subst h13; simp
  by_cases h14 : kind = 14
  · subst h14; simp
  simp [h1, h2, h3, h4, h5, h6, h7, h8, h9, h10, h11, h12, h13, h14] at h
/-- The numbers of a command, from a place on. -/
def argsAt (s : ByteArray) (i n : Nat) : List Int := (List.range n).map fun j => byteAt s (i + j)
theorem argsAt_len (s : ByteArray) (i n : Nat) : (argsAt s i n).length = n := by simp [argsAt]
theorem argsAt_get (s : ByteArray) (i n j : Nat) (h : j < n) : (argsAt s i n).getD j 0 = byteAt s (i + j) := by
  simp [argsAt, List.getD_eq_getElem?_getD, h]
theorem argsAt_succ (s : ByteArray) (i n : Nat) : argsAt s i (n + 1) = argsAt s i n ++ [byteAt s (i + n)] := by
  simp [argsAt, List.range_succ]
theorem argsAt_ok (s : ByteArray) (i n : Nat) : bytesOk (argsAt s i n) := by
  intro v hv
  simp [argsAt] at hv
  obtain ⟨j, _, rfl⟩ := hv
  exact byteAt_bd s _
/-- One command. -/
def St.one (st : St) (kind : Int) (a : List Int) (i : Int) : St :=
  let r := if badB st.W st.H kind a then (st, 2) else st.does kind a
  if r.2 = 0 then r.1 else { r.1 with out := r.1.out ++ [{ k := 0, a := r.2, b := i, c := 0 }] }
/-- The stream from a place on (with that much left at most). -/
def playFrom (s : ByteArray) : Nat → Nat → St → St
  | 0, _, st => st
  | f + 1, i, st =>
    if s.size ≤ i then st
    else if lenAt s i < 0 ∨ (s.size : Int) < i + 1 + lenAt s i then { st with out := st.out ++ [{ k := 0, a := 1, b := i, c := 0 }] }
    else playFrom s f (i + 1 + (lenAt s i).toNat) (st.one (byteAt s i) (argsAt s (i + 1) (lenAt s i).toNat) i)

end Go.Proofs.YthcikinkicpicaaGreatDoor

namespace Go.Proofs.YthcikinkicpicaaGreatDoor

theorem edge_swap (a b c : Cor) : edge a c b.x b.y = - edge a b c.x c.y := by
  unfold edge
  simp only [Int.sub_mul, Int.mul_sub, Int.mul_comm b.y c.x, Int.mul_comm c.y b.x, Int.mul_comm a.y b.x, Int.mul_comm a.y c.x, Int.mul_comm a.y a.x, Int.mul_comm c.y a.x, Int.mul_comm b.y a.x]
  omega

theorem shOk_of (l : List Int) (hb : bytesOk l) (h : badSteps l = false) : ∀ n, l.length ≤ n → l.length % 4 = 0 → shOk l := by
  intro n
  induction n generalizing l with
  | zero => intro h0 _; have : l = [] := List.eq_nil_of_length_eq_zero (by omega); subst this; trivial
  | succ n ih =>
    intro hn h4
    match l, hb, h, hn, h4 with
    | [], _, _, _, _ => trivial
    | [_], _, _, _, h4 => simp at h4
    | [_, _], _, _, _, h4 => simp at h4
    | [_, _, _], _, _, _, h4 => simp at h4
    | x :: y :: z :: u :: rest, hb, h, hn, h4 =>
      rw [badSteps, Bool.or_eq_false_iff] at h
      obtain ⟨hw, hr⟩ := h
      have bx := hb x (by simp)
      have by' := hb y (by simp)
      have bz := hb z (by simp)
      have bu := hb u (by simp)
      refine ⟨⟨bx.1, ?_, by'.1, by'.2, ?_, bz.1, bz.2, bu.1, bu.2⟩, ih rest (fun v hv => hb v (by simp [hv])) hr (by simp at hn; omega) (by simp at h4; omega)⟩
      · unfold wrongB at hw
        split at hw
        · omega
        · split at hw
          · omega
          · split at hw
            · omega
            · simp [aboveB] at hw; omega
      · intro h7
        unfold wrongB at hw
        split at hw
        · simp at hw; omega
        · split at hw
          · omega
          · split at hw
            · omega
            · simp [aboveB] at hw; omega

theorem sgn_bd (a : List Int) (hb : bytesOk a) (i : Nat) : -32768 ≤ sgn a i ∧ sgn a i ≤ 32767 := by
  have h1 := hb.at i
  have h2 := hb.at (i + 1)
  unfold sgn
  split <;> omega

theorem cornerOf_ok (a : List Int) (hb : bytesOk a) (i : Nat) : (cornerOf a i).Ok := by
  have h1 := sgn_bd a hb i
  have h2 := sgn_bd a hb (i + 2)
  have h4 := hb.at (i + 4)
  have h5 := hb.at (i + 5)
  have h6 := hb.at (i + 6)
  have h7 := hb.at (i + 7)
  have h8 := hb.at (i + 8)
  exact ⟨h1.1, h1.2, h2.1, h2.2, by show 0 ≤ 256 * a.getD (i + 4) 0 + a.getD (i + 5) 0; omega, by show 256 * a.getD (i + 4) 0 + a.getD (i + 5) 0 ≤ 65535; omega, h6.1, h6.2, h7.1, h7.2, h8.1, h8.2⟩

theorem clearDot_ok (a : List Int) (d : Dot) (hb : bytesOk a) (hd : d.Ok) : (clearDot a d).Ok := by
  have h1 := hb.at 1
  have h2 := hb.at 2
  have h3 := hb.at 3
  have h4 := hb.at 4
  have h5 := hb.at 5
  have h6 := hb.at 6
  unfold clearDot
  refine ⟨?_, ?_, ?_, ?_, ?_, ?_, ?_, ?_, ?_, ?_⟩
  · dsimp only; split
    · exact hd.r0
    · exact h1.1
  · dsimp only; split
    · exact hd.r1
    · exact h1.2
  · dsimp only; split
    · exact hd.g0
    · exact h2.1
  · dsimp only; split
    · exact hd.g1
    · exact h2.2
  · dsimp only; split
    · exact hd.b0
    · exact h3.1
  · dsimp only; split
    · exact hd.b1
    · exact h3.2
  · dsimp only; split
    · exact hd.d0
    · omega
  · dsimp only; split
    · exact hd.d1
    · omega
  · dsimp only; split
    · exact hd.s0
    · exact h6.1
  · dsimp only; split
    · exact hd.s1
    · exact h6.2

theorem dot1_ok : dot1.Ok := ⟨by decide, by decide, by decide, by decide, by decide, by decide, by decide, by decide, by decide, by decide⟩

theorem tri_ok (st : St) (a b c : Cor) (K : Int) (h : st.Ok K) (ha : a.Ok) (hb : b.Ok) (hc : c.Ok) : (st.tri a b c).Ok (K + 9216) := by
  have h1 := h.wy1
  have h2 := h.H1
  have h3 := h.wy0
  have h4 := h.wh0
  unfold St.tri
  split
  · exact Ok_mono h (by omega)
  · next hn =>
    split
    · next hneg => exact Ok_mono (triY_ok a c b _ ha hc hb (by rw [edge_swap]) (by omega) _ _ _ K h) (by omega)
    · next hneg => exact Ok_mono (triY_ok a b c _ ha hb hc rfl (by omega) _ _ _ K h) (by omega)

theorem query_ok (st : St) (kind n K : Int) (h : st.Ok K) : (st.query kind n).1.Ok K := by
  have hK : 0 ≤ K := by have := h.work0; have := h.work1; omega
  have set_ok : ∀ (q : Qry) (i : Nat), 0 ≤ q.n ∧ q.n ≤ K → ({ st with qs := st.qs.set i q } : St).Ok K := fun q i hq =>
    ⟨h.W0, h.W1, h.H0, h.H1, h.len, h.dots, h.T, h.wx0, h.wy0, h.ww0, h.wh0, h.wx1, h.wy1, h.sh, h.shl, by simpa using h.qs, fun q' hq' => by
      rcases mem_set hq' with h1 | h1
      · exact h.qn q' h1
      · rw [h1]; exact hq, h.work0, h.work1⟩
  have out_ok : ∀ l : List Rep, ({ st with out := l } : St).Ok K := fun l =>
    ⟨h.W0, h.W1, h.H0, h.H1, h.len, h.dots, h.T, h.wx0, h.wy0, h.ww0, h.wh0, h.wx1, h.wy1, h.sh, h.shl, h.qs, h.qn, h.work0, h.work1⟩
  have hq : 0 ≤ (st.qs.getD n.toNat { ever := false, on := false, n := 0 }).n ∧ (st.qs.getD n.toNat { ever := false, on := false, n := 0 }).n ≤ K := by
    rw [List.getD_eq_getElem?_getD]
    cases hg : st.qs[n.toNat]? with
    | none => exact ⟨by decide, hK⟩
    | some q => exact h.qn q (List.mem_of_getElem? hg)
  unfold St.query
  dsimp only
  split
  · split
    · exact h
    · exact set_ok _ _ ⟨by decide, hK⟩
  · split
    · split
      · exact set_ok _ _ hq
      · exact h
    · split
      · exact h
      · split
        · exact out_ok _
        · exact h

theorem does_ok (st : St) (kind : Int) (a : List Int) (K : Int) (h : st.Ok K) (hb : bytesOk a) (hl : lenOk kind a) (hbad : badB st.W st.H kind a = false) : (st.does kind a).1.Ok (K + 9216) := by
  have hm := Ok_mono h (K' := K + 9216) (by omega)
  rcases hl with ⟨rfl, m, hm255, hl, hm0⟩ | ⟨h8, hk1, hl⟩
  · have e : st.does 8 a = ({ st with sh := a.tail }, 0) := by unfold St.does; simp
    rw [e]
    unfold badB at hbad
    simp at hbad
    have hsh := shOk_of a.tail (fun v hv => hb v (List.mem_of_mem_tail hv)) hbad.2 a.tail.length (Nat.le_refl _) (by rw [List.length_tail]; omega)
    have hlen : a.tail.length ≤ 64 := by
      rw [List.length_tail]
      have := hbad.1
      rw [← List.getD_eq_getElem?_getD, hm0] at this
      omega
    exact ⟨hm.W0, hm.W1, hm.H0, hm.H1, hm.len, hm.dots, hm.T, hm.wx0, hm.wy0, hm.ww0, hm.wh0, hm.wx1, hm.wy1, hsh, hlen, hm.qs, hm.qn, hm.work0, hm.work1⟩
  · have T_ok : ∀ T' : Tst, T'.Ok → ({ st with T := T' } : St).Ok (K + 9216) := fun T' hT =>
      ⟨hm.W0, hm.W1, hm.H0, hm.H1, hm.len, hm.dots, hT, hm.wx0, hm.wy0, hm.ww0, hm.wh0, hm.wx1, hm.wy1, hm.sh, hm.shl, hm.qs, hm.qn, hm.work0, hm.work1⟩
    have hT := h.T
    have b0 := hb.at 0
    have b1 := hb.at 1
    have b2 := hb.at 2
    have b3 := hb.at 3
    have b4 := hb.at 4
    have b5 := hb.at 5
    have b6 := hb.at 6
    rcases kinds hk1 with ⟨rfl, hk⟩ | ⟨rfl, hk⟩ | ⟨rfl, hk⟩ | ⟨rfl, hk⟩ | ⟨rfl, hk⟩ | ⟨rfl, hk⟩ | ⟨rfl, hk⟩ | ⟨rfl, hk⟩ | ⟨rfl, hk⟩ | ⟨rfl, hk⟩ | ⟨rfl, hk⟩ | ⟨rfl, hk⟩ | ⟨rfl, hk⟩ | ⟨rfl, hk⟩
    · have e : st.does 1 a = (st.resize (a.getD 0 0) (a.getD 1 0), 0) := by unfold St.does; simp
      rw [e]
      unfold badB at hbad
      simp only [if_true, Bool.or_eq_false_iff, decide_eq_false_iff_not] at hbad
      obtain ⟨q0, q1, q2⟩ := hbad
      have ab : ∀ v ∈ a, v ≤ 24 := fun v hv => by
        unfold aboveB at q2
        rw [List.any_eq_false] at q2
        have := q2 v hv
        simp at this
        omega
      have u0 : a.getD 0 0 ≤ 24 := by
        rw [List.getD_eq_getElem?_getD, List.getElem?_eq_getElem (show 0 < a.length by omega)]; exact ab _ (List.getElem_mem _)
      have u1 : a.getD 1 0 ≤ 24 := by
        rw [List.getD_eq_getElem?_getD, List.getElem?_eq_getElem (show 1 < a.length by omega)]; exact ab _ (List.getElem_mem _)
      have hpos : 0 ≤ a.getD 0 0 * a.getD 1 0 := Int.mul_nonneg b0.1 b1.1
      refine ⟨by show 1 ≤ a.getD 0 0; omega, u0, by show 1 ≤ a.getD 1 0; omega, u1, ?_, ?_, hm.T, Int.le_refl _, Int.le_refl _, b0.1, b1.1, by show 0 + a.getD 0 0 ≤ a.getD 0 0; omega, by show 0 + a.getD 1 0 ≤ a.getD 1 0; omega, hm.sh, hm.shl, hm.qs, hm.qn, hm.work0, hm.work1⟩
      · show ((List.replicate (a.getD 0 0 * a.getD 1 0).toNat dot1).length : Int) = a.getD 0 0 * a.getD 1 0
        rw [List.length_replicate]; omega
      · intro o ho
        have ho' : o ∈ List.replicate (a.getD 0 0 * a.getD 1 0).toNat dot1 := ho
        rw [List.eq_of_mem_replicate ho']
        exact dot1_ok
    · have e : st.does 2 a = (st.clear a, 0) := by unfold St.does; simp
      rw [e]
      refine ⟨hm.W0, hm.W1, hm.H0, hm.H1, by show ((st.dots.map (clearDot a)).length : Int) = _; rw [List.length_map]; exact hm.len, ?_, hm.T, hm.wx0, hm.wy0, hm.ww0, hm.wh0, hm.wx1, hm.wy1, hm.sh, hm.shl, hm.qs, hm.qn, hm.work0, hm.work1⟩
      intro o ho
      have ho' : o ∈ st.dots.map (clearDot a) := ho
      rw [List.mem_map] at ho'
      obtain ⟨d, hd, rfl⟩ := ho'
      exact clearDot_ok a d hb (h.dots d hd)
    · have e : st.does 3 a = ({ st with T := { st.T with depth := a.getD 0 0, write := a.getD 1 0 } }, 0) := by unfold St.does; simp
      rw [e]
      unfold badB at hbad
      simp only [show (3 : Int) ≠ 1 from by omega, show (3 : Int) ≠ 2 from by omega, if_false, if_true, Bool.or_eq_false_iff, decide_eq_false_iff_not] at hbad
      exact T_ok _ ⟨b0.1, by show a.getD 0 0 ≤ 7; omega, b1.1, by show a.getD 1 0 ≤ 1; omega, hT.test0, hT.test1, hT.value0, hT.value1, hT.which0, hT.which1, hT.writes0, hT.writes1, hT.fail0, hT.fail1, hT.dfail0, hT.dfail1, hT.pass0, hT.pass1, hT.faces0, hT.faces1, hT.colours0, hT.colours1⟩
    · have e : st.does 4 a = ({ st with T := { st.T with test := a.getD 0 0, value := a.getD 1 0, which := a.getD 2 0, writes := a.getD 3 0, fail := a.getD 4 0, dfail := a.getD 5 0, pass := a.getD 6 0 } }, 0) := by unfold St.does; simp
      rw [e]
      unfold badB at hbad
      simp only [show (4 : Int) ≠ 1 from by omega, show (4 : Int) ≠ 2 from by omega, show (4 : Int) ≠ 3 from by omega, if_false, if_true, Bool.or_eq_false_iff, decide_eq_false_iff_not] at hbad
      obtain ⟨q0, q1⟩ := hbad
      simp [aboveB] at q1
      rw [← List.getD_eq_getElem?_getD, ← List.getD_eq_getElem?_getD, ← List.getD_eq_getElem?_getD] at q1
      exact T_ok _ ⟨hT.depth0, hT.depth1, hT.write0, hT.write1, b0.1, by show a.getD 0 0 ≤ 7; omega, b1.1, b1.2, b2.1, b2.2, b3.1, b3.2, b4.1, by show a.getD 4 0 ≤ 7; omega, b5.1, by show a.getD 5 0 ≤ 7; omega, b6.1, by show a.getD 6 0 ≤ 7; omega, hT.faces0, hT.faces1, hT.colours0, hT.colours1⟩
    · have e : st.does 5 a = ({ st with wx := a.getD 0 0, wy := a.getD 1 0, ww := a.getD 2 0, wh := a.getD 3 0 }, 0) := by unfold St.does; simp
      rw [e]
      unfold badB at hbad
      simp only [show (5 : Int) ≠ 1 from by omega, show (5 : Int) ≠ 2 from by omega, show (5 : Int) ≠ 3 from by omega, show (5 : Int) ≠ 4 from by omega, if_false, if_true, Bool.or_eq_false_iff, decide_eq_false_iff_not] at hbad
      exact ⟨hm.W0, hm.W1, hm.H0, hm.H1, hm.len, hm.dots, hm.T, b0.1, b1.1, b2.1, b3.1, by show a.getD 0 0 + a.getD 2 0 ≤ st.W; omega, by show a.getD 1 0 + a.getD 3 0 ≤ st.H; omega, hm.sh, hm.shl, hm.qs, hm.qn, hm.work0, hm.work1⟩
    · have e : st.does 6 a = ({ st with T := { st.T with faces := a.getD 0 0 } }, 0) := by unfold St.does; simp
      rw [e]
      unfold badB at hbad
      simp only [show (6 : Int) ≠ 1 from by omega, show (6 : Int) ≠ 2 from by omega, show (6 : Int) ≠ 3 from by omega, show (6 : Int) ≠ 4 from by omega, show (6 : Int) ≠ 5 from by omega, if_false, if_true, decide_eq_false_iff_not] at hbad
      exact T_ok _ ⟨hT.depth0, hT.depth1, hT.write0, hT.write1, hT.test0, hT.test1, hT.value0, hT.value1, hT.which0, hT.which1, hT.writes0, hT.writes1, hT.fail0, hT.fail1, hT.dfail0, hT.dfail1, hT.pass0, hT.pass1, b0.1, by show a.getD 0 0 ≤ 2; omega, hT.colours0, hT.colours1⟩
    · have e : st.does 7 a = ({ st with T := { st.T with colours := a.getD 0 0 } }, 0) := by unfold St.does; simp
      rw [e]
      unfold badB at hbad
      simp only [show (7 : Int) ≠ 1 from by omega, show (7 : Int) ≠ 2 from by omega, show (7 : Int) ≠ 3 from by omega, show (7 : Int) ≠ 4 from by omega, show (7 : Int) ≠ 5 from by omega, show (7 : Int) ≠ 6 from by omega, if_false, if_true, decide_eq_false_iff_not] at hbad
      exact T_ok _ ⟨hT.depth0, hT.depth1, hT.write0, hT.write1, hT.test0, hT.test1, hT.value0, hT.value1, hT.which0, hT.which1, hT.writes0, hT.writes1, hT.fail0, hT.fail1, hT.dfail0, hT.dfail1, hT.pass0, hT.pass1, hT.faces0, hT.faces1, b0.1, by show a.getD 0 0 ≤ 7; omega⟩
    · exact absurd rfl h8
    · have e : st.does 9 a = (st.tri (cornerOf a 0) (cornerOf a 9) (cornerOf a 18), 0) := by unfold St.does; simp
      rw [e]
      exact tri_ok st _ _ _ K h (cornerOf_ok a hb 0) (cornerOf_ok a hb 9) (cornerOf_ok a hb 18)
    · have e : st.does 10 a = st.query 10 (a.getD 0 0) := by unfold St.does; simp
      rw [e]; exact Ok_mono (query_ok st _ _ K h) (by omega)
    · have e : st.does 11 a = st.query 11 (a.getD 0 0) := by unfold St.does; simp
      rw [e]; exact Ok_mono (query_ok st _ _ K h) (by omega)
    · have e : st.does 12 a = (st, 0) := by unfold St.does; simp
      rw [e]; exact hm
    · have e : st.does 13 a = (st.pixel (a.getD 0 0) (a.getD 1 0) (a.getD 2 0), 0) := by unfold St.does; simp
      rw [e]
      exact ⟨hm.W0, hm.W1, hm.H0, hm.H1, hm.len, hm.dots, hm.T, hm.wx0, hm.wy0, hm.ww0, hm.wh0, hm.wx1, hm.wy1, hm.sh, hm.shl, hm.qs, hm.qn, hm.work0, hm.work1⟩
    · have e : st.does 14 a = st.query 14 (a.getD 0 0) := by unfold St.does; simp
      rw [e]; exact Ok_mono (query_ok st _ _ K h) (by omega)

theorem kindLen_cases (k : Int) : kindLen k = -1 ∨ (1 ≤ kindLen k ∧ kindLen k ≤ 27) := by
  unfold kindLen
  repeat' split
  all_goals omega

theorem lenAt_bd (s : ByteArray) (i : Nat) : lenAt s i ≤ 1021 := by
  have h1 := byteAt_bd s (i + 1)
  have h2 := kindLen_cases (byteAt s i)
  unfold lenAt
  split
  · split <;> omega
  · omega

theorem lenOk_of {s : ByteArray} {k j : Nat} (h : lenAt s k = (j : Int)) : lenOk (byteAt s k) (argsAt s (k + 1) j) ∧ 1 ≤ j := by
  unfold lenAt at h
  have h1 := byteAt_bd s (k + 1)
  by_cases h8 : byteAt s k = 8
  · rw [if_pos h8] at h
    split at h
    · omega
    · obtain ⟨b, hb⟩ := Int.eq_ofNat_of_zero_le h1.1
      rw [hb] at h
      refine ⟨.inl ⟨h8, b, by omega, by rw [argsAt_len]; omega, ?_⟩, by omega⟩
      rw [argsAt_get s (k + 1) j 0 (by omega), Nat.add_zero, hb]
  · rw [if_neg h8] at h
    have := kindLen_cases (byteAt s k)
    exact ⟨.inr ⟨h8, by omega, by rw [argsAt_len]; omega⟩, by omega⟩

theorem T0_ok : T0.Ok := ⟨by decide, by decide, by decide, by decide, by decide, by decide, by decide, by decide, by decide, by decide, by decide, by decide, by decide, by decide, by decide, by decide, by decide, by decide, by decide, by decide, by decide, by decide⟩

theorem st0_ok : st0.Ok 0 := by
  refine ⟨by decide, by decide, by decide, by decide, by rw [show st0.dots = List.replicate 64 dot1 from rfl, List.length_replicate]; decide, ?_, T0_ok, by decide, by decide, by decide, by decide, by decide, by decide, trivial, by decide, rfl, ?_, by decide, by decide⟩
  · intro o ho
    rw [List.eq_of_mem_replicate (show o ∈ List.replicate 64 dot1 from ho)]
    exact dot1_ok
  · intro q hq
    have hq' : q ∈ [q0, q0, q0, q0] := hq
    simp at hq'
    subst hq'
    exact ⟨by decide, by decide⟩

theorem Ok_out {K : Int} {st : St} (h : st.Ok K) (l : List Rep) : St.Ok K { st with out := l } :=
  ⟨h.W0, h.W1, h.H0, h.H1, h.len, h.dots, h.T, h.wx0, h.wy0, h.ww0, h.wh0, h.wx1, h.wy1, h.sh, h.shl, h.qs, h.qn, h.work0, h.work1⟩

theorem one_ok (st : St) (kind : Int) (a : List Int) (i K : Int) (h : st.Ok K) (hb : bytesOk a) (hl : lenOk kind a) : (st.one kind a i).Ok (K + 9216) := by
  unfold St.one
  cases hbad : badB st.W st.H kind a
  · have h1 := does_ok st kind a K h hb hl hbad
    simp only [Bool.false_eq_true, if_false]
    split
    · exact h1
    · exact Ok_out h1 _
  · simp
    exact Ok_out (Ok_mono h (by omega)) _

theorem play_ok (s : ByteArray) : ∀ (f k : Nat) (st : St), k ≤ s.size → st.Ok (9216 * k) → (playFrom s f k st).Ok (9216 * s.size)
  | 0, k, st, hk, h => by rw [playFrom]; exact Ok_mono h (by omega)
  | f + 1, k, st, hk, h => by
    rw [playFrom]
    split
    · exact Ok_mono h (by omega)
    · split
      · exact Ok_out (Ok_mono h (by omega)) _
      · rename_i h1 h2
        obtain ⟨j, hj⟩ := Int.eq_ofNat_of_zero_le (show 0 ≤ lenAt s k by omega)
        obtain ⟨hlo, _⟩ := lenOk_of hj
        rw [hj, Int.toNat_natCast]
        exact play_ok s f (k + 1 + j) _ (by omega) (Ok_mono (one_ok st _ _ k _ h (argsAt_ok s (k + 1) j) hlo) (by push_cast; omega))

theorem tri_out' (st : St) (x y z : Cor) : (st.tri x y z).out = st.out := by
  have key : ∀ (a b c : Cor) (A : Int) (n : Nat) (y : Int) (st : St), (triY a b c A n y st).out = st.out := by
    intro a b c A n
    induction n with
    | zero => intro y st; rfl
    | succ n ih =>
      intro y st
      rw [triY, ih]
      exact (triX_same a b c A y st.ww.toNat st.wx st).2.2.2.2.2.2.2.2
  unfold St.tri
  split
  · rfl
  · split <;> exact key ..

theorem one_out (st : St) (kind : Int) (a : List Int) (i : Int) : (st.one kind a i).out.length ≤ st.out.length + 1 := by
  have hq : ∀ k n : Int, ((st.query k n).2 = 0 → (st.query k n).1.out.length ≤ st.out.length + 1) ∧ ((st.query k n).2 ≠ 0 → (st.query k n).1.out = st.out) := by
    intro k n
    unfold St.query
    dsimp only
    repeat' split
    all_goals exact ⟨fun _ => by simp, fun h => by simp at h ⊢⟩
  have hd : ((st.does kind a).2 = 0 → (st.does kind a).1.out.length ≤ st.out.length + 1) ∧ ((st.does kind a).2 ≠ 0 → (st.does kind a).1.out = st.out) := by
    unfold St.does
    split
    · exact ⟨fun _ => by simp [St.resize], fun h => by simp at h⟩
    split
    · exact ⟨fun _ => by simp [St.clear], fun h => by simp at h⟩
    split
    · exact ⟨fun _ => by simp, fun h => by simp at h⟩
    split
    · exact ⟨fun _ => by simp, fun h => by simp at h⟩
    split
    · exact ⟨fun _ => by simp, fun h => by simp at h⟩
    split
    · exact ⟨fun _ => by simp, fun h => by simp at h⟩
    split
    · exact ⟨fun _ => by simp, fun h => by simp at h⟩
    split
    · exact ⟨fun _ => by simp, fun h => by simp at h⟩
    split
    · exact ⟨fun _ => by rw [tri_out' st]; omega, fun h => by simp at h⟩
    split
    · exact hq _ _
    split
    · exact ⟨fun _ => by simp [St.pixel], fun h => by simp at h⟩
    · exact ⟨fun _ => by simp, fun h => by simp at h⟩
  unfold St.one
  dsimp only
  split
  · dsimp only
    rw [if_neg (by omega)]
    simp
  · split
    · next h => exact hd.1 h
    · next h => simp [hd.2 h]

end Go.Proofs.YthcikinkicpicaaGreatDoor

namespace Go.RowKit
theorem Below.drewN' {B : Nat} {a w : World} (h : Below B a w) (n : Nat) : Below B a (w.drewN n) := ⟨h.os, h.tape, h.output, h.size, h.block⟩
end Go.RowKit

namespace Go.Proofs.YthcikinkicpicaaGreatDoor
open Go.RowKit

theorem ret_int {k : IntKind} {a b : Int} (h : a = b) : Ending.returned (.int k a) = .returned (.int k b) := by rw [h]
theorem ret_bool {a b : Bool} (h : a = b) : Ending.returned (.bool a) = .returned (.bool b) := by rw [h]
theorem k64 {n : Int} (h : -9000000000000000000 ≤ n ∧ n ≤ 9000000000000000000) : IntKind.i64.wrap n = n := IntWalk.i64_in n (by omega)
theorem w64 {n : Int} (h : -9000000000000000000 ≤ n ∧ n ≤ 9000000000000000000) : wrap64 n = n := IntWalk.wrap64_in n (by omega)
theorem edge_wrap (a b : Cor) (x y : Int) (ha : a.Ok) (hb : b.Ok) (hx : -32768 ≤ x) (hx' : x ≤ 32767) (hy : -32768 ≤ y) (hy' : y ≤ 32767) :
    wrap64 (wrap64 (wrap64 (b.x - a.x) * wrap64 (y - a.y)) - wrap64 (wrap64 (b.y - a.y) * wrap64 (x - a.x))) = edge a b x y := by
  obtain ⟨a1, a2, a3, a4, _, _, _, _, _, _, _, _⟩ := ha
  obtain ⟨b1, b2, b3, b4, _, _, _, _, _, _, _, _⟩ := hb
  have h1 := mul_abs_le (b.x - a.x) (y - a.y) 65535 65535 (by omega) (by omega) (by omega) (by omega)
  have h2 := mul_abs_le (b.y - a.y) (x - a.x) 65535 65535 (by omega) (by omega) (by omega) (by omega)
  rw [w64 (n := b.x - a.x) (by omega), w64 (n := y - a.y) (by omega), w64 (n := b.y - a.y) (by omega), w64 (n := x - a.x) (by omega)]
  unfold edge
  generalize (b.x - a.x) * (y - a.y) = p at *
  generalize (b.y - a.y) * (x - a.x) = q at *
  rw [w64 (n := p) (by omega), w64 (n := q) (by omega), w64 (by omega)]
theorem below2 {w : World} {o1 o2 : Obj} : Below w.heap.size w ((w.alloc o1).alloc o2) := ((Below.refl _ _).alloc (Nat.le_refl _) _).alloc (by simp) _
theorem bcell {W w1 : World} (hb : Below W.heap.size W w1) : (∀ b o, b < W.heap.size → w1.cell? ⟨b, o, none⟩ = W.cell? ⟨b, o, none⟩) ∧ (∀ b o, b < W.heap.size → w1.frozen? ⟨b, o, none⟩ = W.frozen? ⟨b, o, none⟩) :=
  ⟨fun b o h => hb.cell (p := ⟨b, o, none⟩) h, fun b o h => hb.frozen (p := ⟨b, o, none⟩) h⟩
theorem below_trans3 {w w' : World} {o1 o2 o3 : Obj} (h : Below (((w.alloc o1).alloc o2).alloc o3).heap.size (((w.alloc o1).alloc o2).alloc o3) w') : Below w.heap.size w w' :=
  ((((Below.refl _ _).alloc (Nat.le_refl _) _).alloc (by simp) _).alloc (by simp; omega) _).trans (h.mono (by simp; omega))
theorem heap_set_same {w : World} {b : Nat} {c : Array Value} {e : TypeId} {f : Nat × Nat} (h : w.heap[b]? = some (.cells c e f)) (o : Nat) (v : Value) :
    (w.setCell ⟨b, o, none⟩ v).heap[b]? = some (.cells (c.setIfInBounds o v) e f) := by
  simp [World.setCell, Array.getElem?_modify, h]
theorem heap_set_ne {w : World} {b k : Nat} (h : k ≠ b) (o : Nat) (v : Value) : (w.setCell ⟨b, o, none⟩ v).heap[k]? = w.heap[k]? :=
  Below.heap_setCell w ⟨b, o, none⟩ v k h
theorem heap_alloc_old {w : World} {k : Nat} (h : k < w.heap.size) (o : Obj) : (w.alloc o).heap[k]? = w.heap[k]? := Below.heap_alloc w o k h
theorem heap_alloc_new (w : World) (o : Obj) : (w.alloc o).heap[w.heap.size]? = some o := by
  show (w.heap.push o)[w.heap.size]? = _
  simp
theorem heap_alloc_at {w : World} {k : Nat} (h : k = w.heap.size) (o : Obj) : (w.alloc o).heap[k]? = some o := by subst h; exact heap_alloc_new w o
theorem cell_of {w : World} {b : Nat} {c : Array Value} {e : TypeId} {f : Nat × Nat} (h : w.heap[b]? = some (.cells c e f)) (o : Nat) : w.cell? ⟨b, o, none⟩ = c[o]? := by
  simp [World.cell?, h]
theorem frozen_of {w : World} {b : Nat} {c : Array Value} {e : TypeId} (h : w.heap[b]? = some (.cells c e (0, 0))) (o : Nat) : w.frozen? ⟨b, o, none⟩ = false := by
  simp [World.frozen?, h]
theorem lt_of_heap {w : World} {b : Nat} {o : Obj} (h : w.heap[b]? = some o) : b < w.heap.size := by
  rcases Nat.lt_or_ge b w.heap.size with h1 | h1
  · exact h1
  · rw [Array.getElem?_eq_none h1] at h; cases h
/-- w' is w but for the blocks of S and for new ones. -/
structure Kept (S : Nat → Prop) (w w' : World) : Prop where
  os : w'.os = w.os
  tape : w'.tape = w.tape
  output : w'.output = w.output
  size : w.heap.size ≤ w'.heap.size
  block : ∀ k, k < w.heap.size → ¬ S k → w'.heap[k]? = w.heap[k]?
theorem Kept.refl (S : Nat → Prop) (w : World) : Kept S w w := ⟨rfl, rfl, rfl, Nat.le_refl _, fun _ _ _ => rfl⟩
theorem Kept.trans {S : Nat → Prop} {a b c : World} (h : Kept S a b) (k : Kept S b c) : Kept S a c :=
  ⟨k.os.trans h.os, k.tape.trans h.tape, k.output.trans h.output, Nat.le_trans h.size k.size, fun i hi hs => (k.block i (Nat.lt_of_lt_of_le hi h.size) hs).trans (h.block i hi hs)⟩
theorem Kept.mono {S S' : Nat → Prop} {a b : World} (h : Kept S a b) (hS : ∀ k, S k → S' k) : Kept S' a b :=
  ⟨h.os, h.tape, h.output, h.size, fun i hi hs => h.block i hi (fun x => hs (hS i x))⟩
theorem Kept.alloc {S : Nat → Prop} {a w : World} (h : Kept S a w) (o : Obj) : Kept S a (w.alloc o) :=
  h.trans ⟨rfl, rfl, rfl, by simp, fun k hk _ => heap_alloc_old hk o⟩
theorem Kept.set {S : Nat → Prop} {a w : World} (h : Kept S a w) {b : Nat} (hb : S b ∨ a.heap.size ≤ b) (o : Nat) (v : Value) : Kept S a (w.setCell ⟨b, o, none⟩ v) :=
  ⟨h.os, h.tape, h.output, by simpa [World.setCell] using h.size, fun k hk hs => by
    rw [heap_set_ne (by rintro rfl; rcases hb with hb | hb; exact hs hb; omega)]; exact h.block k hk hs⟩
theorem Kept.drew {S : Nat → Prop} {a w : World} (h : Kept S a w) : Kept S a w.drew := ⟨h.os, h.tape, h.output, h.size, h.block⟩
theorem Kept.drewN {S : Nat → Prop} {a w : World} (h : Kept S a w) (n : Nat) : Kept S a (w.drewN n) := ⟨h.os, h.tape, h.output, h.size, h.block⟩
theorem Kept.below {S : Nat → Prop} {a w w' : World} (h : Kept S a w) (hb : Below w.heap.size w w') : Kept S a w' :=
  h.trans ⟨hb.os, hb.tape, hb.output, hb.size, fun k hk _ => hb.block k hk⟩
theorem i64_and_nat (a b : Nat) (ha : a < 9223372036854775808) (hb : b < 9223372036854775808) : bits .and .i64 (a : Int) (b : Int) = ((a &&& b : Nat) : Int) := by
  have hx : a &&& b < 2 ^ 63 := Nat.and_lt_two_pow _ (by omega)
  have h1 : ∀ n : Nat, n < 9223372036854775808 → (BitVec.ofInt 64 (n : Int)).toNat = n := fun n h => by
    rw [BitVec.ofInt_natCast, BitVec.toNat_ofNat]; exact Nat.mod_eq_of_lt (by omega)
  show IntKind.i64.wrap ((BitVec.ofInt 64 (a : Int) &&& BitVec.ofInt 64 (b : Int)).toNat : Int) = _
  rw [BitVec.toNat_and, h1 a ha, h1 b hb, IntKind.wrap_i64]
  omega
theorem i64_or_nat (a b : Nat) (ha : a < 9223372036854775808) (hb : b < 9223372036854775808) : bits .or .i64 (a : Int) (b : Int) = ((a ||| b : Nat) : Int) := by
  have hx : a ||| b < 2 ^ 63 := Nat.or_lt_two_pow (by omega) (by omega)
  have h1 : ∀ n : Nat, n < 9223372036854775808 → (BitVec.ofInt 64 (n : Int)).toNat = n := fun n h => by
    rw [BitVec.ofInt_natCast, BitVec.toNat_ofNat]; exact Nat.mod_eq_of_lt (by omega)
  show IntKind.i64.wrap ((BitVec.ofInt 64 (a : Int) ||| BitVec.ofInt 64 (b : Int)).toNat : Int) = _
  rw [BitVec.toNat_or, h1 a ha, h1 b hb, IntKind.wrap_i64]
  omega
theorem i64_and (a b : Int) (h1 : 0 ≤ a) (h2 : a ≤ 1000000000) (h3 : 0 ≤ b) (h4 : b ≤ 1000000000) : bits .and .i64 a b = iand a b := by
  obtain ⟨A, rfl⟩ := Int.eq_ofNat_of_zero_le h1
  obtain ⟨B, rfl⟩ := Int.eq_ofNat_of_zero_le h3
  simpa [iand] using i64_and_nat A B (by omega) (by omega)
theorem i64_or (a b : Int) (h1 : 0 ≤ a) (h2 : a ≤ 1000000000) (h3 : 0 ≤ b) (h4 : b ≤ 1000000000) : bits .or .i64 a b = ior a b := by
  obtain ⟨A, rfl⟩ := Int.eq_ofNat_of_zero_le h1
  obtain ⟨B, rfl⟩ := Int.eq_ofNat_of_zero_le h3
  simpa [ior] using i64_or_nat A B (by omega) (by omega)
theorem i64_and7 (a : Int) (h1 : 0 ≤ a) (h2 : a ≤ 1000000000) : bits .and .i64 a 7 = a % 8 := by
  rw [i64_and a 7 h1 h2 (by omega) (by omega)]
  obtain ⟨A, rfl⟩ := Int.eq_ofNat_of_zero_le h1
  have : A &&& 7 = A % 8 := Nat.and_two_pow_sub_one_eq_mod A 3
  simp only [iand, Int.toNat_natCast, show (7 : Int).toNat = 7 from rfl, this]
  omega
theorem made_close (t : Tst) (n s : Int) (h1 : 0 ≤ s) (h2 : s ≤ 255) (h3 : 0 ≤ t.writes) (h4 : t.writes ≤ 255) (h5 : 0 ≤ n) (h6 : n ≤ 255) :
    bits .or .i64 (bits .and .i64 s (255 - t.writes)) (bits .and .i64 n t.writes) = ior (iand s (255 - t.writes)) (iand n t.writes) := by
  have a1 := iand_bd s (255 - t.writes) (by omega)
  have a2 := iand_bd n t.writes (by omega)
  rw [i64_and s _ (by omega) (by omega) (by omega) (by omega), i64_and n _ (by omega) (by omega) (by omega) (by omega), i64_or _ _ a1.1 (by omega) a2.1 (by omega)]
theorem below1 {w : World} {o1 : Obj} : Below w.heap.size w (w.alloc o1) := (Below.refl _ _).alloc (Nat.le_refl _) _
theorem below3 {w : World} {o1 o2 o3 : Obj} : Below w.heap.size w (((w.alloc o1).alloc o2).alloc o3) := (((Below.refl _ _).alloc (Nat.le_refl _) _).alloc (by simp) _).alloc (by simp; omega) _
/-- append onto a slice of the call's own, as one step of a region that draws its order. -/
theorem step_append_own {P : Program} {ops : Array Oper} {o : Oper} {a : Act} {w : World} {K : Act → World → Prop} {Q : Exit → Act → World → Prop} {E : Prop}
    (hg : o.guard = none) (s x : Operand) (t : TypeId) (hop : o.op = Op.call { callee := Callee.builtin Builtin.append, args := #[s, x], argTypes := #[t, t] })
    (base : Nat) (e : TypeId) (i : TypeInfo) (z : Value) (size bytes : Nat) (h1 : P.underlying t = some (.slice e)) (h2 : P.info? e = some i) (h3 : i.zero = some z) (h4 : i.size = size) (h5 : i.bytes = bytes) (h6 : z.cells.size = size) (h7 : 0 < size)
    (v : Value) (n : Nat) (xs : List Value) (hs : a.eval s = v) (hown : w.ownsRow base e size v n xs)
    (ad : Addr) (m c : Nat) (news : List Value) (hx : a.eval x = .slice (some ad) m c) (hn : news.length = m * size) (hc : ∀ j u, news[j]? = some u → w.cell? (ad.add j) = some u) (h1c : ∀ u ∈ news, u.oneCell' = true)
    (b1 : n + m ≤ maxLen) (b2 : (n + m) * bytes ≤ 140737488355328) (b3 : base ≤ w.heap.size)
    (hK : ∀ v' w', w'.ownsRow base e size v' (n + m) (xs ++ news) → w.grownBy w' v.ownBlock → K (a.put o.dst v') w') :
    if Region.wanted o (yielded ops a.tmps) = true then Oper.wp P o a w K Q else E := by
  have hw : Region.wanted o (yielded ops a.tmps) = true := by simp [Region.wanted, hg]
  rw [if_pos hw]
  obtain ⟨v', w', hrun, r1, r2, _⟩ := run_append_own (P := P) w base t o.type e i z size bytes h1 h2 h3 h4 h5 h6 h7 v n xs hown ad m c news hn hc h1c b1 b2 b3
  unfold Oper.wp
  simp [execOp, hop, resolve, invoke, builtin, hs, hx, hrun, Result.andThen]
  exact hK v' w' r1 r2
def rcells (l : List Rep) : List Value := l.flatMap fun r => [Value.int .i64 r.k, .int .i64 r.a, .int .i64 r.b, .int .i64 r.c]
theorem rcells_snoc (l : List Rep) (r : Rep) : rcells (l ++ [r]) = rcells l ++ [Value.int .i64 r.k, .int .i64 r.a, .int .i64 r.b, .int .i64 r.c] := by simp [rcells]
theorem owns_block {w : World} {base n : Nat} {e : TypeId} {size : Nat} {v : Value} {xs : List Value} (h : w.ownsRow base e size v n xs) : ∀ k, v.ownBlock = some k → ∃ cur, w.heap[k]? = some (.cells cur e (0, 0)) := by
  intro k hk
  obtain ⟨h1, h2⟩ := h
  rcases h2 with ⟨rfl, _⟩ | ⟨g, cap, cur, rfl, _, hh, _⟩
  · simp [Value.ownBlock] at hk
  · simp [Value.ownBlock] at hk; subst hk; exact ⟨cur, hh⟩
theorem lit4 (w : World) (a b c d : Value) (T : TypeId) : ∀ j u, [a, b, c, d][j]? = some u → (w.alloc (.cells #[a, b, c, d] T)).cell? ((⟨w.heap.size, 0, none⟩ : Addr).add j) = some u := by
  intro j u hj
  have : j = 0 ∨ j = 1 ∨ j = 2 ∨ j = 3 := by
    have := (List.getElem?_eq_some_iff.1 hj).1
    simp at this; omega
  rcases this with rfl | rfl | rfl | rfl <;> simp at hj <;> subst hj <;> simp [Addr.add]
theorem lit4d (w : World) (a b c d : Value) (T : TypeId) (B : Nat) (hB : B = w.heap.size) : ∀ j u, [a, b, c, d][j]? = some u → (w.alloc (.cells #[a, b, c, d] T)).drew.cell? ((⟨B, 0, none⟩ : Addr).add j) = some u := by
  subst hB; exact lit4 w a b c d T
theorem owned_form {w : World} {base n : Nat} {e : TypeId} {size : Nat} {v : Value} {xs : List Value} (h : w.ownsRow base e size v (n + 1) xs) : ∃ g cap, v = .slice (some ⟨g, 0, none⟩) (n + 1) cap := by
  rcases h.2 with ⟨_, h2⟩ | ⟨g, cap, cur, hv, _⟩
  · exact absurd h2 (by omega)
  · exact ⟨g, cap, hv⟩
theorem one4 (a b c d : Int) : ∀ u ∈ [Value.int .i64 a, .int .i64 b, .int .i64 c, .int .i64 d], u.oneCell' = true := by
  intro u hu
  simp at hu
  rcases hu with rfl | rfl | rfl | rfl <;> rfl

theorem lit4n (w : World) (a b c d : Value) (T : TypeId) (B n : Nat) (hB : B = w.heap.size) : ∀ j u, [a, b, c, d][j]? = some u → ((w.alloc (.cells #[a, b, c, d] T)).drewN n).cell? ((⟨B, 0, none⟩ : Addr).add j) = some u := by
  subst hB; exact lit4 w a b c d T

end Go.Proofs.YthcikinkicpicaaGreatDoor

namespace Go.Proofs.YthcikinkicpicaaGreatDoor

/-- A triangle's pixel, where it lies in the window. -/
def St.px (a b c : Cor) (area : Int) (st : St) (p : Int × Int) : St :=
  if covB a b c p.1 p.2 then st.dot (pix a b c area p.1 p.2) p.1 p.2 else st

def rowL (y : Int) : Nat → Int → List (Int × Int)
  | 0, _ => []
  | n + 1, x => (x, y) :: rowL y n (x + 1)
def rowsL (wx : Int) (ww : Nat) : Nat → Int → List (Int × Int)
  | 0, _ => []
  | n + 1, y => rowL y ww wx ++ rowsL wx ww n (y + 1)

theorem mem_rowL (y : Int) (p : Int × Int) : ∀ (n : Nat) (x : Int), p ∈ rowL y n x ↔ p.2 = y ∧ x ≤ p.1 ∧ p.1 < x + n
  | 0, x => by simp [rowL] <;> omega
  | n + 1, x => by
    rw [rowL, List.mem_cons, mem_rowL y p n (x + 1)]
    constructor
    · rintro (rfl | h)
      · exact ⟨rfl, Int.le_refl _, by show x < x + ((n + 1 : Nat) : Int); omega⟩
      · omega
    · intro h
      by_cases hx : p.1 = x
      · left; exact Prod.ext hx h.1
      · right; omega
theorem nodup_rowL (y : Int) : ∀ (n : Nat) (x : Int), (rowL y n x).Nodup
  | 0, x => by simp [rowL]
  | n + 1, x => by
    rw [rowL, List.nodup_cons]
    refine ⟨fun h => ?_, nodup_rowL y n (x + 1)⟩
    have := (mem_rowL y _ n (x + 1)).1 h
    simp only at this; omega
theorem mem_rowsL (wx : Int) (ww : Nat) (p : Int × Int) : ∀ (n : Nat) (y : Int), p ∈ rowsL wx ww n y ↔ y ≤ p.2 ∧ p.2 < y + n ∧ wx ≤ p.1 ∧ p.1 < wx + ww
  | 0, y => by simp [rowsL]; omega
  | n + 1, y => by
    rw [rowsL, List.mem_append, mem_rowsL wx ww p n (y + 1), mem_rowL]
    omega
theorem nodup_rowsL (wx : Int) (ww : Nat) : ∀ (n : Nat) (y : Int), (rowsL wx ww n y).Nodup
  | 0, y => by simp [rowsL]
  | n + 1, y => by
    rw [rowsL, List.nodup_append]
    refine ⟨nodup_rowL _ _ _, nodup_rowsL wx ww n (y + 1), ?_⟩
    intro p hp q hq e
    subst e
    rw [mem_rowL] at hp; rw [mem_rowsL] at hq
    omega

theorem px_same (a b c : Cor) (area : Int) (st : St) (p : Int × Int) : (st.px a b c area p).W = st.W ∧ (st.px a b c area p).H = st.H ∧ (st.px a b c area p).T = st.T ∧ (st.px a b c area p).wx = st.wx ∧ (st.px a b c area p).wy = st.wy ∧
    (st.px a b c area p).ww = st.ww ∧ (st.px a b c area p).wh = st.wh ∧ (st.px a b c area p).sh = st.sh ∧ (st.px a b c area p).out = st.out ∧ (st.px a b c area p).dots.length = st.dots.length := by
  unfold St.px
  split
  · exact dot_same _ _ _ _
  · simp

theorem triX_fold (a b c : Cor) (area y : Int) : ∀ (n : Nat) (x : Int) (st : St), triX a b c area y n x st = (rowL y n x).foldl (St.px a b c area) st
  | 0, x, st => rfl
  | n + 1, x, st => by
    rw [triX, rowL, List.foldl_cons, triX_fold a b c area y n]
    rfl
theorem triY_fold (a b c : Cor) (area : Int) : ∀ (n : Nat) (y : Int) (st : St), triY a b c area n y st = (rowsL st.wx st.ww.toNat n y).foldl (St.px a b c area) st
  | 0, y, st => rfl
  | n + 1, y, st => by
    have hs := triX_same a b c area y st.ww.toNat st.wx st
    rw [triY, rowsL, List.foldl_append, ← triX_fold, triY_fold a b c area n (y + 1), hs.2.2.2.1, hs.2.2.2.2.2.1]

theorem shRun_add : ∀ (n : Nat) (sh r : List Int) (d k j : Int), sh.length ≤ n → shRun sh r d (k + j) = ((shRun sh r d k).1 + j, (shRun sh r d k).2)
  | 0, [], r, d, k, j, _ => by simp [shRun]
  | n + 1, [], r, d, k, j, _ => by simp [shRun]
  | n + 1, [a], r, d, k, j, _ => by simp [shRun]
  | n + 1, [a, b], r, d, k, j, _ => by simp [shRun]
  | n + 1, [a, b, c], r, d, k, j, _ => by simp [shRun]
  | n + 1, a :: b :: c :: e :: rest, r, d, k, j, h => by
    rw [shRun, shRun]
    split
    · simp only; congr 1; omega
    · have e1 : k + j + 1 = k + 1 + j := by omega
      rw [e1]
      exact shRun_add n rest _ _ (k + 1) j (by simp at h; omega)

theorem shaded_add (sh : List Int) (d : Dot) (x y k : Int) : shaded sh d x y k = ((shaded sh d x y 0).1 + k, (shaded sh d x y 0).2) := by
  have h := shRun_add sh.length sh [d.r, d.g, d.b, x, y, d.d, 0, 0] d.d 0 k (Nat.le_refl _)
  rw [Int.zero_add] at h
  unfold shaded
  rw [h]
  cases shRun sh [d.r, d.g, d.b, x, y, d.d, 0, 0] d.d 0 with
  | mk n o => cases o with
    | none => rfl
    | some q => rfl

/-- What becomes of the state at a pixel: by its place, the state's own width unasked. -/
def eff (i : Nat) (n : Int) (o : Option Dot) (st : St) : St :=
  match o with
  | none => { st with work := n + st.work }
  | some f => { st with work := n + st.work, dots := st.dots.set i (dotRes st.T f (st.dots.getD i dot0)).1,
                        qs := if (dotRes st.T f (st.dots.getD i dot0)).2 then st.qs.map count else st.qs }
theorem dot_eff (st : St) (d : Dot) (x y : Int) : st.dot d x y = eff (y * st.W + x).toNat (shaded st.sh d x y 0).1 (shaded st.sh d x y 0).2 st := by
  unfold St.dot
  rw [shaded_add]
  cases (shaded st.sh d x y 0).2 <;> rfl
theorem eff_comm (i j : Nat) (h : i ≠ j) (n m : Int) (o o' : Option Dot) (st : St) : eff i n o (eff j m o' st) = eff j m o' (eff i n o st) := by
  have hn : n + (m + st.work) = m + (n + st.work) := by omega
  cases o with
  | none => cases o' with
    | none => simp only [eff]; rw [hn]
    | some f' => simp only [eff]; rw [hn]; rfl
  | some f => cases o' with
    | none => simp only [eff]; rw [hn]; rfl
    | some f' =>
      have g1 : ∀ v, (st.dots.set j v).getD i dot0 = st.dots.getD i dot0 := fun v => by
        rw [List.getD_eq_getElem?_getD, List.getElem?_set_ne (by omega), ← List.getD_eq_getElem?_getD]
      have g2 : ∀ v, (st.dots.set i v).getD j dot0 = st.dots.getD j dot0 := fun v => by
        rw [List.getD_eq_getElem?_getD, List.getElem?_set_ne (by omega), ← List.getD_eq_getElem?_getD]
      simp only [eff, g1, g2]
      rw [hn, List.set_comm _ _ (by omega : j ≠ i)]
      congr 1
      cases (dotRes st.T f (st.dots.getD i dot0)).2 <;> cases (dotRes st.T f' (st.dots.getD j dot0)).2 <;> rfl

/-- St.px with the shader and the width held fast. -/
def pxW (a b c : Cor) (area W : Int) (sh : List Int) (st : St) (p : Int × Int) : St :=
  if covB a b c p.1 p.2 then eff (p.2 * W + p.1).toNat (shaded sh (pix a b c area p.1 p.2) p.1 p.2 0).1 (shaded sh (pix a b c area p.1 p.2) p.1 p.2 0).2 st else st
theorem px_W (a b c : Cor) (area : Int) (st : St) (p : Int × Int) : st.px a b c area p = pxW a b c area st.W st.sh st p := by
  unfold St.px pxW
  rw [dot_eff]
theorem fold_W (a b c : Cor) (area : Int) : ∀ (l : List (Int × Int)) (st : St), l.foldl (St.px a b c area) st = l.foldl (pxW a b c area st.W st.sh) st
  | [], st => rfl
  | p :: l, st => by
    have h := px_same a b c area st p
    rw [List.foldl_cons, List.foldl_cons, fold_W a b c area l, h.1, h.2.2.2.2.2.2.2.1, px_W]

theorem place_ne {W x y x' y' : Int} (h0 : 0 ≤ x) (h1 : x < W) (h2 : 0 ≤ y) (h3 : 0 ≤ x') (h4 : x' < W) (h5 : 0 ≤ y') (h : ¬ (x = x' ∧ y = y')) : (y * W + x).toNat ≠ (y' * W + x').toNat := by
  intro e
  have a1 := Int.mul_nonneg h2 (by omega : 0 ≤ W)
  have a2 := Int.mul_nonneg h5 (by omega : 0 ≤ W)
  rcases Int.lt_trichotomy y y' with hy | hy | hy
  · have : (y + 1) * W ≤ y' * W := Int.mul_le_mul_of_nonneg_right (by omega) (by omega)
    rw [Int.add_mul, Int.one_mul] at this
    omega
  · subst hy; omega
  · have : (y' + 1) * W ≤ y * W := Int.mul_le_mul_of_nonneg_right (by omega) (by omega)
    rw [Int.add_mul, Int.one_mul] at this
    omega

/-- The order of a triangle's pixels is nothing. -/
theorem fold_perm (a b c : Cor) (area : Int) (l l' : List (Int × Int)) (st : St) (hp : l.Perm l') (hin : ∀ p ∈ l, 0 ≤ p.1 ∧ p.1 < st.W ∧ 0 ≤ p.2) :
    l.foldl (St.px a b c area) st = l'.foldl (St.px a b c area) st := by
  rw [fold_W, fold_W]
  refine hp.foldl_eq' ?_ st
  intro p hp1 q hq z
  by_cases e : p = q
  · rw [e]
  · have h1 := hin p hp1
    have h2 := hin q hq
    unfold pxW
    cases covB a b c p.1 p.2
    · simp
    · cases covB a b c q.1 q.2
      · simp
      · simp only [if_true]
        refine eff_comm _ _ (place_ne h2.1 h2.2.1 h2.2.2 h1.1 h1.2.1 h1.2.2 ?_) _ _ _ _ _
        rintro ⟨e1, e2⟩
        exact e (Prod.ext e1.symm e2.symm)

def tileRow (y : Int) : Nat → Int → List (Int × Int)
  | 0, _ => []
  | n + 1, x => (x, y) :: tileRow y n (x + 4)
def tilesL (x : Int) (nx : Nat) : Nat → Int → List (Int × Int)
  | 0, _ => []
  | n + 1, y => tileRow y nx x ++ tilesL x nx n (y + 4)
theorem mem_tileRow (y : Int) (p : Int × Int) : ∀ (n : Nat) (x : Int), p ∈ tileRow y n x ↔ p.2 = y ∧ ∃ k : Nat, k < n ∧ p.1 = x + 4 * k
  | 0, x => by simp [tileRow]
  | n + 1, x => by
    rw [tileRow, List.mem_cons, mem_tileRow y p n (x + 4)]
    constructor
    · rintro (rfl | ⟨h, k, hk, he⟩)
      · exact ⟨rfl, 0, by omega, by simp⟩
      · exact ⟨h, k + 1, by omega, by omega⟩
    · rintro ⟨h, k, hk, he⟩
      cases k with
      | zero => left; exact Prod.ext (by simpa using he) h
      | succ k => right; exact ⟨h, k, by omega, by omega⟩
theorem mem_tilesL (x : Int) (nx : Nat) (p : Int × Int) : ∀ (n : Nat) (y : Int), p ∈ tilesL x nx n y ↔ (∃ j : Nat, j < n ∧ p.2 = y + 4 * j) ∧ ∃ k : Nat, k < nx ∧ p.1 = x + 4 * k
  | 0, y => by simp [tilesL]
  | n + 1, y => by
    rw [tilesL, List.mem_append, mem_tilesL x nx p n (y + 4), mem_tileRow]
    constructor
    · rintro (⟨h, hk⟩ | ⟨⟨j, hj, he⟩, hk⟩)
      · exact ⟨⟨0, by omega, by simpa using h⟩, hk⟩
      · exact ⟨⟨j + 1, by omega, by omega⟩, hk⟩
    · rintro ⟨⟨j, hj, he⟩, hk⟩
      cases j with
      | zero => left; exact ⟨by simpa using he, hk⟩
      | succ j => right; exact ⟨⟨j, by omega, by omega⟩, hk⟩
theorem nodup_tileRow (y : Int) : ∀ (n : Nat) (x : Int), (tileRow y n x).Nodup
  | 0, x => by simp [tileRow]
  | n + 1, x => by
    rw [tileRow, List.nodup_cons]
    refine ⟨fun h => ?_, nodup_tileRow y n (x + 4)⟩
    obtain ⟨_, k, _, he⟩ := (mem_tileRow y _ n (x + 4)).1 h
    simp only at he; omega
theorem nodup_tilesL (x : Int) (nx : Nat) : ∀ (n : Nat) (y : Int), (tilesL x nx n y).Nodup
  | 0, y => by simp [tilesL]
  | n + 1, y => by
    rw [tilesL, List.nodup_append]
    refine ⟨nodup_tileRow _ _ _, nodup_tilesL x nx n (y + 4), ?_⟩
    intro p hp q hq e
    subst e
    rw [mem_tileRow] at hp; rw [mem_tilesL] at hq
    obtain ⟨⟨j, _, hj⟩, _⟩ := hq
    omega

/-- The window's tiles, and a tile's pixels in the window. -/
def winTiles (wx wy ww wh : Int) : List (Int × Int) := tilesL (wx - wx % 4) ((wx + ww - (wx - wx % 4) + 3) / 4).toNat ((wy + wh - (wy - wy % 4) + 3) / 4).toNat (wy - wy % 4)
def tilePx (wx wy ww wh : Int) (t : Int × Int) : List (Int × Int) :=
  rowsL (max t.1 wx) (min (t.1 + 4) (wx + ww) - max t.1 wx).toNat (min (t.2 + 4) (wy + wh) - max t.2 wy).toNat (max t.2 wy)

theorem mem_tilePx (wx wy ww wh : Int) (t p : Int × Int) : p ∈ tilePx wx wy ww wh t ↔ (t.2 ≤ p.2 ∧ wy ≤ p.2 ∧ p.2 < t.2 + 4 ∧ p.2 < wy + wh) ∧ (t.1 ≤ p.1 ∧ wx ≤ p.1 ∧ p.1 < t.1 + 4 ∧ p.1 < wx + ww) := by
  unfold tilePx
  rw [mem_rowsL]
  omega

theorem tiles_perm (wx wy ww wh : Int) (_h1 : 0 ≤ wx) (_h2 : 0 ≤ wy) (h3 : 0 ≤ ww) (h4 : 0 ≤ wh) :
    ((winTiles wx wy ww wh).flatMap (tilePx wx wy ww wh)).Perm (rowsL wx ww.toNat wh.toNat wy) := by
  have hin : ∀ t ∈ winTiles wx wy ww wh, ∀ p ∈ tilePx wx wy ww wh t, t = (p.1 - p.1 % 4, p.2 - p.2 % 4) := by
    intro t ht p hp
    unfold winTiles at ht
    rw [mem_tilesL] at ht
    rw [mem_tilePx] at hp
    obtain ⟨⟨j, hj, ej⟩, k, hk, ek⟩ := ht
    exact Prod.ext (by show t.1 = p.1 - p.1 % 4; omega) (by show t.2 = p.2 - p.2 % 4; omega)
  refine (List.perm_ext_iff_of_nodup ?_ (nodup_rowsL _ _ _ _)).2 ?_
  · show List.Pairwise _ _
    rw [List.pairwise_flatMap]
    refine ⟨fun t _ => nodup_rowsL _ _ _ _, ?_⟩
    have hn : (winTiles wx wy ww wh).Nodup := nodup_tilesL _ _ _ _
    refine List.Pairwise.imp_of_mem ?_ hn
    intro t t' ht ht' hne p hp q hq e
    subst e
    exact hne ((hin t ht p hp).trans (hin t' ht' p hq).symm)
  · intro p
    rw [List.mem_flatMap, mem_rowsL]
    constructor
    · rintro ⟨t, ht, hp⟩
      rw [mem_tilePx] at hp
      omega
    · intro h
      refine ⟨(p.1 - p.1 % 4, p.2 - p.2 % 4), ?_, ?_⟩
      · unfold winTiles
        rw [mem_tilesL]
        refine ⟨⟨((p.2 - p.2 % 4 - (wy - wy % 4)) / 4).toNat, ?_, ?_⟩, ⟨((p.1 - p.1 % 4 - (wx - wx % 4)) / 4).toNat, ?_, ?_⟩⟩
        · omega
        · show p.2 - p.2 % 4 = _; omega
        · omega
        · show p.1 - p.1 % 4 = _; omega
      · rw [mem_tilePx]
        simp only; omega

/-- A triangle, tile by tile. -/
theorem triY_tiles (a b c : Cor) (area : Int) (st : St) (K : Int) (hok : st.Ok K) :
    triY a b c area st.wh.toNat st.wy st = (winTiles st.wx st.wy st.ww st.wh).foldl (fun s t => (tilePx st.wx st.wy st.ww st.wh t).foldl (St.px a b c area) s) st := by
  rw [triY_fold, ← List.foldl_flatMap]
  refine (fold_perm a b c area _ _ st (tiles_perm _ _ _ _ hok.wx0 hok.wy0 hok.ww0 hok.wh0) ?_).symm
  intro p hp
  have hp' := (tiles_perm _ _ _ _ hok.wx0 hok.wy0 hok.ww0 hok.wh0).mem_iff.1 hp
  rw [mem_rowsL] at hp'
  have := hok.wx0; have := hok.wy0; have := hok.wx1; have := hok.ww0
  omega

theorem px_ok (a b c : Cor) (area : Int) (ha : a.Ok) (hb : b.Ok) (hc : c.Ok) (harea : edge a b c.x c.y = area) (hpos : 0 < area) (st : St) (p : Int × Int) (K : Int) (h : st.Ok K) : (st.px a b c area p).Ok (K + 16) := by
  unfold St.px
  cases hcov : covB a b c p.1 p.2
  · rw [if_neg (by simp)]; exact Ok_mono h (by omega)
  · rw [if_pos rfl]; exact dot_ok st _ _ _ K h (pix_ok a b c area _ _ ha hb hc harea hpos hcov)

end Go.Proofs.YthcikinkicpicaaGreatDoor

namespace Go.Proofs.YthcikinkicpicaaGreatDoor

theorem rowL_snoc (y : Int) : ∀ (n : Nat) (x : Int), rowL y (n + 1) x = rowL y n x ++ [(x + n, y)]
  | 0, x => by simp [rowL]
  | n + 1, x => by
    rw [rowL, rowL_snoc y n (x + 1)]
    simp only [rowL, List.cons_append]
    congr 3
    simp only [Prod.mk.injEq, and_true]
    omega
theorem rowsL_snoc (x : Int) (nx : Nat) : ∀ (n : Nat) (y : Int), rowsL x nx (n + 1) y = rowsL x nx n y ++ rowL (y + n) nx x
  | 0, y => by simp [rowsL]
  | n + 1, y => by
    rw [rowsL, rowsL_snoc x nx n (y + 1)]
    simp only [rowsL, List.append_assoc]
    congr 3
    omega
theorem rowL_length (y : Int) : ∀ (n : Nat) (x : Int), (rowL y n x).length = n
  | 0, _ => rfl
  | n + 1, x => by simp [rowL, rowL_length y n]
theorem rowsL_length (x : Int) (nx : Nat) : ∀ (n : Nat) (y : Int), (rowsL x nx n y).length = nx * n
  | 0, _ => by simp [rowsL]
  | n + 1, y => by simp [rowsL, rowL_length, rowsL_length x nx n, Nat.mul_add, Nat.add_comm]
theorem tileRow_length (y : Int) : ∀ (n : Nat) (x : Int), (tileRow y n x).length = n
  | 0, _ => rfl
  | n + 1, x => by simp [tileRow, tileRow_length y n]
theorem tilesL_length (x : Int) (nx : Nat) : ∀ (n : Nat) (y : Int), (tilesL x nx n y).length = nx * n
  | 0, _ => by simp [tilesL]
  | n + 1, y => by simp [tilesL, tileRow_length, tilesL_length x nx n, Nat.mul_add, Nat.add_comm]

theorem winTiles_length (x y c r : Int) (x0 : 0 ≤ x) (y0 : 0 ≤ y) (x1 : x + c ≤ 24) (y1 : y + r ≤ 24) : (winTiles x y c r).length ≤ 36 := by
  unfold winTiles
  rw [tilesL_length]
  have h1 : ((x + c - (x - x % 4) + 3) / 4).toNat ≤ 6 := by omega
  have h2 : ((y + r - (y - y % 4) + 3) / 4).toNat ≤ 6 := by omega
  exact Nat.mul_le_mul h1 h2
theorem tilePx_length (x y c r : Int) (t : Int × Int) : (tilePx x y c r t).length ≤ 16 := by
  unfold tilePx
  rw [rowsL_length]
  have h1 : (min (t.1 + 4) (x + c) - max t.1 x).toNat ≤ 4 := by omega
  have h2 : (min (t.2 + 4) (y + r) - max t.2 y).toNat ≤ 4 := by omega
  exact Nat.mul_le_mul h1 h2
theorem flatPx_length (x y c r : Int) : ∀ l : List (Int × Int), (l.flatMap (tilePx x y c r)).length ≤ 16 * l.length
  | [] => by simp
  | t :: l => by
    have h1 := tilePx_length x y c r t
    have h2 := flatPx_length x y c r l
    rw [List.flatMap_cons, List.length_append, List.length_cons]
    omega

/-- What pixels leave as it was. -/
theorem fold_keeps (a b c : Cor) (area : Int) : ∀ (l : List (Int × Int)) (st : St), (l.foldl (St.px a b c area) st).W = st.W ∧ (l.foldl (St.px a b c area) st).H = st.H ∧ (l.foldl (St.px a b c area) st).sh = st.sh ∧ (l.foldl (St.px a b c area) st).out = st.out
  | [], _ => ⟨rfl, rfl, rfl, rfl⟩
  | p :: l, st => by
    have h := px_same a b c area st p
    have h2 := fold_keeps a b c area l (st.px a b c area p)
    rw [List.foldl_cons]
    exact ⟨h2.1.trans h.1, h2.2.1.trans h.2.1, h2.2.2.1.trans h.2.2.2.2.2.2.2.1, h2.2.2.2.trans h.2.2.2.2.2.2.2.2.1⟩
theorem fold_ok (a b c : Cor) (area : Int) (ha : a.Ok) (hb : b.Ok) (hc : c.Ok) (harea : edge a b c.x c.y = area) (hpos : 0 < area) : ∀ (l : List (Int × Int)) (st : St) (K : Int), st.Ok K → (l.foldl (St.px a b c area) st).Ok (K + 16 * l.length)
  | [], st, K, h => by simpa using h
  | p :: l, st, K, h => by
    have h2 := fold_ok a b c area ha hb hc harea hpos l (st.px a b c area p) (K + 16) (px_ok a b c area ha hb hc harea hpos st p K h)
    rw [List.foldl_cons, List.length_cons]
    exact Ok_mono h2 (by push_cast; omega)

/-- A tile of the window, with what lies ahead of it. -/
theorem tile_split {x y c r : Int} {pre : List (Int × Int)} {t : Int × Int} {rest : List (Int × Int)} (x0 : 0 ≤ x) (y0 : 0 ≤ y) (x1 : x + c ≤ 24) (y1 : y + r ≤ 24) (h : (if c = 0 ∨ r = 0 then [] else winTiles x y c r) = pre ++ t :: rest) :
    pre.length < 36 ∧ 0 ≤ t.1 ∧ t.1 < x + c ∧ x - 4 < t.1 ∧ 0 ≤ t.2 ∧ t.2 < y + r ∧ y - 4 < t.2 := by
  split at h
  · simp at h
  · have hl := winTiles_length x y c r x0 y0 x1 y1
    have hm : t ∈ winTiles x y c r := by rw [h]; simp
    rw [h] at hl
    simp only [List.length_append, List.length_cons] at hl
    unfold winTiles at hm
    rw [mem_tilesL] at hm
    obtain ⟨⟨j, hj, ej⟩, k, hk, ek⟩ := hm
    omega
end Go.Proofs.YthcikinkicpicaaGreatDoor

namespace Go.Proofs.YthcikinkicpicaaGreatDoor

/-- b is a but for the steps that were made: no more, and (pl) just as many. -/
structure Near (pl : Prop) (a b : St) : Prop where
  eq : b = { a with work := b.work }
  le : b.work ≤ a.work
  pl : pl → b.work = a.work

theorem Near.refl (pl : Prop) (a : St) : Near pl a a := ⟨rfl, Int.le_refl _, fun _ => rfl⟩
theorem Near.trans {pl : Prop} {a b c : St} (h : Near pl a b) (h' : Near pl b c) : Near pl a c :=
  ⟨by rw [h'.eq, h.eq], Int.le_trans h'.le h.le, fun p => (h'.pl p).trans (h.pl p)⟩
theorem Near.mk' {pl : Prop} (a : St) (n : Int) (h : n ≤ a.work) (h' : pl → n = a.work) : Near pl a { a with work := n } := ⟨rfl, h, h'⟩

theorem eff_work (i : Nat) (m : Int) (o : Option Dot) (st : St) (n : Int) : eff i m o { st with work := n } = { eff i m o st with work := m + n } ∧ (eff i m o st).work = m + st.work := by
  cases o <;> exact ⟨rfl, rfl⟩
theorem px_work (a b c : Cor) (area : Int) (st : St) (p : Int × Int) (n : Int) : ∃ m : Int, St.px a b c area { st with work := n } p = { St.px a b c area st p with work := m + n } ∧ (St.px a b c area st p).work = m + st.work := by
  rw [px_W, px_W]
  unfold pxW
  cases covB a b c p.1 p.2
  · exact ⟨0, by simp, by simp⟩
  · exact ⟨_, eff_work _ _ _ _ _⟩
theorem Near.px {pl : Prop} {s t : St} (h : Near pl s t) (a b c : Cor) (area : Int) (p : Int × Int) : Near pl (s.px a b c area p) (t.px a b c area p) := by
  obtain ⟨m, h1, h2⟩ := px_work a b c area s p t.work
  rw [h.eq, h1]
  have := h.le
  exact Near.mk' _ _ (by omega) (fun q => by have := h.pl q; omega)
theorem Near.fold {pl : Prop} (a b c : Cor) (area : Int) : ∀ (l : List (Int × Int)) {s t : St}, Near pl s t → Near pl (l.foldl (St.px a b c area) s) (l.foldl (St.px a b c area) t)
  | [], _, _, h => h
  | p :: l, _, _, h => Near.fold a b c area l (h.px a b c area p)

/-- What a near state has in common. -/
theorem Near.same {pl : Prop} {s t : St} (h : Near pl s t) : t.W = s.W ∧ t.H = s.H ∧ t.dots = s.dots ∧ t.T = s.T ∧ t.wx = s.wx ∧ t.wy = s.wy ∧ t.ww = s.ww ∧ t.wh = s.wh ∧ t.sh = s.sh ∧ t.qs = s.qs ∧ t.out = s.out := by
  rw [h.eq]; exact ⟨rfl, rfl, rfl, rfl, rfl, rfl, rfl, rfl, rfl, rfl, rfl⟩
theorem Near.ok {pl : Prop} {s t : St} {K : Int} (h : Near pl s t) (hs : s.Ok K) (h0 : 0 ≤ t.work) : t.Ok K := by
  rw [h.eq]
  exact ⟨hs.W0, hs.W1, hs.H0, hs.H1, hs.len, hs.dots, hs.T, hs.wx0, hs.wy0, hs.ww0, hs.wh0, hs.wx1, hs.wy1, hs.sh, hs.shl, hs.qs, hs.qn, h0, Int.le_trans h.le hs.work1⟩

/-- A triangle is a fold over the window's pixels. -/
theorem tri_fold (st : St) (a b c : Cor) : ∃ (l : List (Int × Int)) (u v x : Cor) (ar : Int), ∀ n, St.tri { st with work := n } a b c = l.foldl (St.px u v x ar) { st with work := n } := by
  by_cases h : edge a b c.x c.y = 0 ∨ (st.T.faces = 1 ∧ edge a b c.x c.y < 0) ∨ (st.T.faces = 2 ∧ 0 < edge a b c.x c.y)
  · exact ⟨[], a, b, c, 0, fun n => by unfold St.tri; rw [if_pos h]; rfl⟩
  · by_cases h' : edge a b c.x c.y < 0
    · exact ⟨rowsL st.wx st.ww.toNat st.wh.toNat st.wy, a, c, b, -edge a b c.x c.y, fun n => by unfold St.tri; rw [if_neg h, if_pos h', triY_fold]⟩
    · exact ⟨rowsL st.wx st.ww.toNat st.wh.toNat st.wy, a, b, c, edge a b c.x c.y, fun n => by unfold St.tri; rw [if_neg h, if_neg h', triY_fold]⟩
theorem Near.tri {pl : Prop} {s t : St} (h : Near pl s t) (a b c : Cor) : Near pl (s.tri a b c) (t.tri a b c) := by
  obtain ⟨l, u, v, x, ar, hl⟩ := tri_fold s a b c
  have h1 := hl s.work
  have h2 := hl t.work
  rw [← h.eq] at h2
  rw [h2, show s.tri a b c = _ from h1]
  exact Near.fold u v x ar l h

theorem badB_same (s t : St) (hW : t.W = s.W) (hH : t.H = s.H) (kind : Int) (l : List Int) : badB t.W t.H kind l = badB s.W s.H kind l := by rw [hW, hH]

/-- No other command asks how many steps were made. -/
theorem does_work (st : St) (kind : Int) (l : List Int) (n : Int) (h9 : kind ≠ 9) : St.does { st with work := n } kind l = ({ (st.does kind l).1 with work := n }, (st.does kind l).2) ∧ (st.does kind l).1.work = st.work := by
  unfold St.does
  by_cases h1 : kind = 1
  · simp only [h1, if_true]; exact ⟨rfl, rfl⟩
  by_cases h2 : kind = 2
  · simp only [h2, if_true]; exact ⟨rfl, rfl⟩
  by_cases h3 : kind = 3
  · simp only [h3, if_true]; exact ⟨rfl, rfl⟩
  by_cases h4 : kind = 4
  · simp only [h4, if_true]; exact ⟨rfl, rfl⟩
  by_cases h5 : kind = 5
  · simp only [h5, if_true]; exact ⟨rfl, rfl⟩
  by_cases h6 : kind = 6
  · simp only [h6, if_true]; exact ⟨rfl, rfl⟩
  by_cases h7 : kind = 7
  · simp only [h7, if_true]; exact ⟨rfl, rfl⟩
  by_cases h8 : kind = 8
  · simp only [h8, if_true]; exact ⟨rfl, rfl⟩
  rw [if_neg h1, if_neg h2, if_neg h3, if_neg h4, if_neg h5, if_neg h6, if_neg h7, if_neg h8, if_neg h9, if_neg h1, if_neg h2, if_neg h3, if_neg h4, if_neg h5, if_neg h6, if_neg h7, if_neg h8, if_neg h9]
  by_cases hq : kind = 10 ∨ kind = 11 ∨ kind = 14
  · rw [if_pos hq, if_pos hq]
    unfold St.query
    dsimp only
    repeat' split
    all_goals exact ⟨rfl, rfl⟩
  · rw [if_neg hq, if_neg hq]
    split
    · unfold St.pixel
      dsimp only
      repeat' split
      all_goals exact ⟨rfl, rfl⟩
    · exact ⟨rfl, rfl⟩

end Go.Proofs.YthcikinkicpicaaGreatDoor

namespace Go.Proofs.YthcikinkicpicaaGreatDoor

/-- A triangle whose area is above 0. -/
structure Tr where
  a : Cor
  b : Cor
  c : Cor
  ar : Int
  f : Bool

structure Tr.Ok (t : Tr) : Prop where
  a : t.a.Ok
  b : t.b.Ok
  c : t.c.Ok
  ar : edge t.a t.b t.c.x t.c.y = t.ar
  pos : 0 < t.ar

def Tr.px (t : Tr) (s : St) (p : Int × Int) : St := s.px t.a t.b t.c t.ar p

/-- What a triangle does in a tile. -/
def tileOp (wx wy ww wh : Int) (t : Tr) (tile : Int × Int) (s : St) : St := (tilePx wx wy ww wh tile).foldl t.px s
def tileOps (wx wy ww wh : Int) (l : List Tr) (tile : Int × Int) (s : St) : St := l.foldl (fun s t => tileOp wx wy ww wh t tile s) s
/-- What the waiting triangles of all bins do, tile by tile. -/
def binsRun (wx wy ww wh : Int) (bin : Int × Int → List Tr) (tiles : List (Int × Int)) (s : St) : St := tiles.foldl (fun s tile => tileOps wx wy ww wh (bin tile) tile s) s

theorem px_comm (t u : Tr) (s : St) (p q : Int × Int) (hp : 0 ≤ p.1 ∧ p.1 < s.W ∧ 0 ≤ p.2) (hq : 0 ≤ q.1 ∧ q.1 < s.W ∧ 0 ≤ q.2) (h : p ≠ q) : t.px (u.px s p) q = u.px (t.px s q) p := by
  unfold Tr.px
  have e1 := px_same u.a u.b u.c u.ar s p
  have e2 := px_same t.a t.b t.c t.ar s q
  rw [px_W _ _ _ _ (St.px u.a u.b u.c u.ar s p), px_W _ _ _ _ (St.px t.a t.b t.c t.ar s q), e1.1, e2.1, e1.2.2.2.2.2.2.2.1, e2.2.2.2.2.2.2.2.1, px_W, px_W]
  unfold pxW
  cases covB t.a t.b t.c q.1 q.2
  · simp
  · cases covB u.a u.b u.c p.1 p.2
    · simp
    · simp only [if_true]
      refine eff_comm _ _ (place_ne hq.1 hq.2.1 hq.2.2 hp.1 hp.2.1 hp.2.2 ?_) _ _ _ _ _
      rintro ⟨h1, h2⟩
      exact h (Prod.ext h1.symm h2.symm)

theorem trpx_W (t : Tr) (s : St) (p : Int × Int) : (t.px s p).W = s.W := (px_same t.a t.b t.c t.ar s p).1
theorem foldpx_W (t : Tr) : ∀ (l : List (Int × Int)) (s : St), (l.foldl t.px s).W = s.W
  | [], _ => rfl
  | p :: l, s => (foldpx_W t l _).trans (trpx_W t s p)

def inW (W : Int) (l : List (Int × Int)) : Prop := ∀ p ∈ l, 0 ≤ p.1 ∧ p.1 < W ∧ 0 ≤ p.2

theorem fold_px_comm (t u : Tr) (q : Int × Int) : ∀ (l : List (Int × Int)) (s : St), inW s.W l → inW s.W [q] → q ∉ l → t.px (l.foldl u.px s) q = l.foldl u.px (t.px s q)
  | [], _, _, _, _ => rfl
  | p :: l, s, h1, h2, h3 => by
    rw [List.foldl_cons, List.foldl_cons, fold_px_comm t u q l (u.px s p) (by rw [trpx_W]; exact fun x hx => h1 x (List.mem_cons_of_mem _ hx)) (by rw [trpx_W]; exact h2) (fun h => h3 (List.mem_cons_of_mem _ h)),
      px_comm t u s p q (h1 p List.mem_cons_self) (h2 q List.mem_cons_self) (fun e => h3 (by rw [e]; exact List.mem_cons_self))]
theorem fold_fold_comm (t u : Tr) : ∀ (k l : List (Int × Int)) (s : St), inW s.W l → inW s.W k → (∀ q ∈ k, q ∉ l) → k.foldl t.px (l.foldl u.px s) = l.foldl u.px (k.foldl t.px s)
  | [], _, _, _, _, _ => rfl
  | q :: k, l, s, h1, h2, h3 => by
    rw [List.foldl_cons, List.foldl_cons, fold_px_comm t u q l s h1 (fun x hx => by rw [List.mem_singleton] at hx; rw [hx]; exact h2 q List.mem_cons_self) (h3 q List.mem_cons_self)]
    exact fold_fold_comm t u k l _ (by rw [trpx_W]; exact h1) (by rw [trpx_W]; exact fun x hx => h2 x (List.mem_cons_of_mem _ hx)) (fun x hx => h3 x (List.mem_cons_of_mem _ hx))

section
variable {wx wy ww wh : Int}

theorem tileOp_W (t : Tr) (tile : Int × Int) (s : St) : (tileOp wx wy ww wh t tile s).W = s.W := foldpx_W t _ s
theorem tileOps_W (tile : Int × Int) : ∀ (l : List Tr) (s : St), (tileOps wx wy ww wh l tile s).W = s.W
  | [], _ => rfl
  | t :: l, s => (tileOps_W tile l _).trans (tileOp_W t tile s)

/-- The window lies in the pane. -/
structure WinIn (wx wy ww wh W : Int) : Prop where
  x : 0 ≤ wx
  y : 0 ≤ wy
  w : wx + ww ≤ W

theorem WinIn.tile {W : Int} (h : WinIn wx wy ww wh W) (tile : Int × Int) : inW W (tilePx wx wy ww wh tile) := by
  intro p hp
  rw [mem_tilePx] at hp
  have := h.x; have := h.y; have := h.w
  omega

/-- Tiles have nothing to do with one another. -/
def Apart (t u : Int × Int) : Prop := t.1 + 4 ≤ u.1 ∨ u.1 + 4 ≤ t.1 ∨ t.2 + 4 ≤ u.2 ∨ u.2 + 4 ≤ t.2

theorem tileOp_comm (t u : Tr) (k l : Int × Int) (s : St) (hW : WinIn wx wy ww wh s.W) (h : Apart k l) : tileOp wx wy ww wh t k (tileOp wx wy ww wh u l s) = tileOp wx wy ww wh u l (tileOp wx wy ww wh t k s) := by
  refine fold_fold_comm t u _ _ s (hW.tile l) (hW.tile k) ?_
  intro q hq hq'
  rw [mem_tilePx] at hq hq'
  unfold Apart at h
  omega
theorem tileOp_ops_comm (t : Tr) (k l : Int × Int) (h : Apart k l) : ∀ (us : List Tr) (s : St), WinIn wx wy ww wh s.W → tileOp wx wy ww wh t k (tileOps wx wy ww wh us l s) = tileOps wx wy ww wh us l (tileOp wx wy ww wh t k s)
  | [], _, _ => rfl
  | u :: us, s, hW => by
    show tileOp wx wy ww wh t k (tileOps wx wy ww wh us l (tileOp wx wy ww wh u l s)) = tileOps wx wy ww wh us l (tileOp wx wy ww wh u l (tileOp wx wy ww wh t k s))
    rw [tileOp_ops_comm t k l h us _ (by rw [tileOp_W]; exact hW), tileOp_comm t u k l s hW h]
theorem binsRun_W (bin : Int × Int → List Tr) : ∀ (tiles : List (Int × Int)) (s : St), (binsRun wx wy ww wh bin tiles s).W = s.W
  | [], _ => rfl
  | t :: l, s => (binsRun_W bin l _).trans (tileOps_W t _ s)
theorem tileOp_run_comm (t : Tr) (k : Int × Int) (bin : Int × Int → List Tr) : ∀ (tiles : List (Int × Int)) (s : St), WinIn wx wy ww wh s.W → (∀ l ∈ tiles, Apart k l) →
    tileOp wx wy ww wh t k (binsRun wx wy ww wh bin tiles s) = binsRun wx wy ww wh bin tiles (tileOp wx wy ww wh t k s)
  | [], _, _, _ => rfl
  | l :: tiles, s, hW, h => by
    show tileOp wx wy ww wh t k (binsRun wx wy ww wh bin tiles (tileOps wx wy ww wh (bin l) l s)) = binsRun wx wy ww wh bin tiles (tileOps wx wy ww wh (bin l) l (tileOp wx wy ww wh t k s))
    rw [tileOp_run_comm t k bin tiles _ (by rw [tileOps_W]; exact hW) (fun x hx => h x (List.mem_cons_of_mem _ hx)), tileOp_ops_comm t k l (h l List.mem_cons_self) _ s hW]

/-- One more triangle waits in some of the bins, and does nothing in the others. -/
theorem binsRun_add (t : Tr) (bin bin' : Int × Int → List Tr) : ∀ (tiles : List (Int × Int)) (s : St), WinIn wx wy ww wh s.W → tiles.Pairwise Apart →
    (∀ k ∈ tiles, bin' k = bin k ++ [t] ∨ (bin' k = bin k ∧ ∀ s', tileOp wx wy ww wh t k s' = s')) →
    tiles.foldl (fun s k => tileOp wx wy ww wh t k s) (binsRun wx wy ww wh bin tiles s) = binsRun wx wy ww wh bin' tiles s
  | [], _, _, _, _ => rfl
  | k :: tiles, s, hW, hP, h => by
    rw [List.pairwise_cons] at hP
    show tiles.foldl (fun s k => tileOp wx wy ww wh t k s) (tileOp wx wy ww wh t k (binsRun wx wy ww wh bin tiles (tileOps wx wy ww wh (bin k) k s))) = binsRun wx wy ww wh bin' tiles (tileOps wx wy ww wh (bin' k) k s)
    have hW2 : WinIn wx wy ww wh (tileOps wx wy ww wh (bin k) k s).W := by rw [tileOps_W]; exact hW
    rw [tileOp_run_comm t k bin tiles _ hW2 (fun l hl => hP.1 l hl), binsRun_add t bin bin' tiles _ (by rw [tileOp_W]; exact hW2) hP.2 (fun x hx => h x (List.mem_cons_of_mem _ hx))]
    congr 1
    rcases h k List.mem_cons_self with e | ⟨e, e2⟩
    · rw [e]; unfold tileOps; rw [List.foldl_append]; rfl
    · rw [e, e2]

theorem apart_tiles (x y : Int) (nx ny : Nat) : (tilesL x nx ny y).Pairwise Apart := by
  refine List.Pairwise.imp_of_mem ?_ (nodup_tilesL x nx ny y)
  intro a b ha hb hne
  rw [mem_tilesL] at ha hb
  obtain ⟨⟨j, _, ej⟩, i, _, ei⟩ := ha
  obtain ⟨⟨j', _, ej'⟩, i', _, ei'⟩ := hb
  unfold Apart
  by_cases h1 : a.1 = b.1
  · have h2 : a.2 ≠ b.2 := fun h2 => hne (Prod.ext h1 h2)
    omega
  · omega

theorem binsRun_nil (bin : Int × Int → List Tr) : ∀ (tiles : List (Int × Int)) (s : St), (∀ k ∈ tiles, bin k = []) → binsRun wx wy ww wh bin tiles s = s
  | [], _, _ => rfl
  | k :: tiles, s, h => by
    show binsRun wx wy ww wh bin tiles (tileOps wx wy ww wh (bin k) k s) = s
    rw [h k List.mem_cons_self]
    exact binsRun_nil bin tiles s (fun x hx => h x (List.mem_cons_of_mem _ hx))

theorem Near.tileOp {pl : Prop} {s u : St} (h : Near pl s u) (t : Tr) (k : Int × Int) : Near pl (tileOp wx wy ww wh t k s) (tileOp wx wy ww wh t k u) := Near.fold _ _ _ _ _ h
theorem Near.tileOps {pl : Prop} (k : Int × Int) : ∀ (l : List Tr) {s u : St}, Near pl s u → Near pl (tileOps wx wy ww wh l k s) (tileOps wx wy ww wh l k u)
  | [], _, _, h => h
  | t :: l, _, _, h => Near.tileOps k l (h.tileOp t k)
theorem Near.binsRun {pl : Prop} (bin : Int × Int → List Tr) : ∀ (tiles : List (Int × Int)) {s u : St}, Near pl s u → Near pl (binsRun wx wy ww wh bin tiles s) (binsRun wx wy ww wh bin tiles u)
  | [], _, _, h => h
  | k :: tiles, _, _, h => Near.binsRun bin tiles (h.tileOps k _)
end
end Go.Proofs.YthcikinkicpicaaGreatDoor

namespace Go.Proofs.YthcikinkicpicaaGreatDoor

/-- A rectangle of pixels. -/
structure Bx where
  x : Int
  y : Int
  c : Int
  r : Int
def Bx.meet (b o : Bx) : Bx :=
  { x := max b.x o.x, y := max b.y o.y, c := max 0 (min (b.x + b.c) (o.x + o.c) - max b.x o.x), r := max 0 (min (b.y + b.r) (o.y + o.r) - max b.y o.y) }
def Bx.has (b : Bx) (p : Int × Int) : Prop := b.x ≤ p.1 ∧ p.1 < b.x + b.c ∧ b.y ≤ p.2 ∧ p.2 < b.y + b.r
theorem meet_has (b o : Bx) (p : Int × Int) : (b.meet o).has p ↔ b.has p ∧ o.has p := by
  unfold Bx.meet Bx.has; dsimp only; omega
def Bx.px (b : Bx) : List (Int × Int) := rowsL b.x b.c.toNat b.r.toNat b.y
theorem mem_bxPx (b : Bx) (p : Int × Int) : p ∈ b.px ↔ b.has p := by
  unfold Bx.px Bx.has
  rw [mem_rowsL]
  omega
def winBx (st : St) : Bx := { x := st.wx, y := st.wy, c := st.ww, r := st.wh }
def tileBx (t : Int × Int) : Bx := { x := t.1, y := t.2, c := 4, r := 4 }
theorem mem_tile (st : St) (t p : Int × Int) : p ∈ tilePx st.wx st.wy st.ww st.wh t ↔ (winBx st).has p ∧ (tileBx t).has p := by
  rw [mem_tilePx]; unfold winBx tileBx Bx.has; dsimp only; omega

def Tr.cov (t : Tr) (p : Int × Int) : Bool := covB t.a t.b t.c p.1 p.2

theorem px_not (t : Tr) (s : St) (p : Int × Int) (h : t.cov p = false) : t.px s p = s := by
  unfold Tr.px St.px
  unfold Tr.cov at h
  rw [h]; rfl
theorem fold_filter (t : Tr) : ∀ (l : List (Int × Int)) (s : St), l.foldl t.px s = (l.filter t.cov).foldl t.px s
  | [], _ => rfl
  | p :: l, s => by
    rw [List.foldl_cons, fold_filter t l]
    cases h : t.cov p
    · rw [px_not t s p h, List.filter_cons_of_neg (by simp [h])]
    · rw [List.filter_cons_of_pos h]; rfl
theorem fold_none (t : Tr) (l : List (Int × Int)) (s : St) (h : ∀ p ∈ l, t.cov p = false) : l.foldl t.px s = s := by
  rw [fold_filter, List.filter_eq_nil_iff.2 (fun p hp => by simp [h p hp])]; rfl
theorem fold_cover (t : Tr) (l k : List (Int × Int)) (s : St) (hl : l.Nodup) (hk : k.Nodup) (hin : inW s.W l) (h : ∀ p, t.cov p = true → (p ∈ l ↔ p ∈ k)) : l.foldl t.px s = k.foldl t.px s := by
  rw [fold_filter, fold_filter t k]
  refine fold_perm t.a t.b t.c t.ar _ _ s ?_ (fun p hp => hin p (List.mem_filter.1 hp).1)
  refine (List.perm_ext_iff_of_nodup (hl.filter _) (hk.filter _)).2 (fun p => ?_)
  rw [List.mem_filter, List.mem_filter]
  constructor
  · rintro ⟨h1, h2⟩; exact ⟨(h p h2).1 h1, h2⟩
  · rintro ⟨h1, h2⟩; exact ⟨(h p h2).2 h1, h2⟩

/-- A sum of three products is 0: of the three numbers not all lie on one side. -/
theorem not_all_pos (u v w x y z : Int) (hu : 0 ≤ u) (hv : 0 ≤ v) (hw : 0 ≤ w) (hs : 0 < u + v + w) (h : u * x + v * y + w * z = 0) : ¬ (0 < x ∧ 0 < y ∧ 0 < z) := by
  rintro ⟨h1, h2, h3⟩
  have a1 := Int.mul_nonneg hu (by omega : 0 ≤ x)
  have a2 := Int.mul_nonneg hv (by omega : 0 ≤ y)
  have a3 := Int.mul_nonneg hw (by omega : 0 ≤ z)
  rcases Int.lt_or_eq_of_le hu with g | g
  · have := Int.mul_pos g h1; omega
  · rcases Int.lt_or_eq_of_le hv with g' | g'
    · have := Int.mul_pos g' h2; omega
    · have := Int.mul_pos (show 0 < w by omega) h3; omega
theorem not_all_neg (u v w x y z : Int) (hu : 0 ≤ u) (hv : 0 ≤ v) (hw : 0 ≤ w) (hs : 0 < u + v + w) (h : u * x + v * y + w * z = 0) : ¬ (x < 0 ∧ y < 0 ∧ z < 0) := by
  rintro ⟨h1, h2, h3⟩
  refine not_all_pos u v w (-x) (-y) (-z) hu hv hw hs ?_ ⟨by omega, by omega, by omega⟩
  rw [Int.mul_neg, Int.mul_neg, Int.mul_neg]; omega

theorem cross_x (ax ay bx by_ cx cy : Int) : (bx * cy - by_ * cx) * ax + (cx * ay - cy * ax) * bx + (ax * by_ - ay * bx) * cx = 0 := by
  simp only [Int.sub_mul]
  simp only [Int.mul_comm, Int.mul_left_comm]
  omega
theorem cross_y (ax ay bx by_ cx cy : Int) : (bx * cy - by_ * cx) * ay + (cx * ay - cy * ax) * by_ + (ax * by_ - ay * bx) * cy = 0 := by
  simp only [Int.sub_mul]
  simp only [Int.mul_comm, Int.mul_left_comm]
  omega
theorem edge_cross (a b : Cor) (x y : Int) : edge a b x y = (a.x - x) * (b.y - y) - (a.y - y) * (b.x - x) := by
  unfold edge
  simp only [Int.sub_mul, Int.mul_sub, Int.mul_comm b.y, Int.mul_comm a.y, Int.mul_comm y]
  omega

/-- A covered pixel's middle lies between the corners. -/
theorem cov_between {a b c : Cor} {area x y : Int} (ha : edge a b c.x c.y = area) (hpos : 0 < area) (h : covB a b c x y = true) :
    (min (min a.x b.x) c.x ≤ 16 * x + 8 ∧ 16 * x + 8 ≤ max (max a.x b.x) c.x) ∧ (min (min a.y b.y) c.y ≤ 16 * y + 8 ∧ 16 * y + 8 ≤ max (max a.y b.y) c.y) := by
  obtain ⟨hu, hv, hw⟩ := cov_parts h
  have hs := edge_sum a b c (16 * x + 8) (16 * y + 8)
  rw [ha] at hs
  have hx := cross_x (a.x - (16 * x + 8)) (a.y - (16 * y + 8)) (b.x - (16 * x + 8)) (b.y - (16 * y + 8)) (c.x - (16 * x + 8)) (c.y - (16 * y + 8))
  have hy := cross_y (a.x - (16 * x + 8)) (a.y - (16 * y + 8)) (b.x - (16 * x + 8)) (b.y - (16 * y + 8)) (c.x - (16 * x + 8)) (c.y - (16 * y + 8))
  rw [← edge_cross b c, ← edge_cross c a, ← edge_cross a b] at hx hy
  generalize edge b c (16 * x + 8) (16 * y + 8) = u at *
  generalize edge c a (16 * x + 8) (16 * y + 8) = v at *
  generalize edge a b (16 * x + 8) (16 * y + 8) = w at *
  have n1 := not_all_pos u v w _ _ _ hu hv hw (by omega) hx
  have n2 := not_all_neg u v w _ _ _ hu hv hw (by omega) hx
  have n3 := not_all_pos u v w _ _ _ hu hv hw (by omega) hy
  have n4 := not_all_neg u v w _ _ _ hu hv hw (by omega) hy
  omega

/-- The pixels of a line whose middles lie between two places: the first, and how many. -/
def mids (lo hi : Int) : Int × Int := ((lo + 7) / 16, max 0 ((hi - 8) / 16 - (lo + 7) / 16 + 1))
def Tr.lx (t : Tr) : Int := min (min t.a.x t.b.x) t.c.x
def Tr.hx (t : Tr) : Int := max (max t.a.x t.b.x) t.c.x
def Tr.ly (t : Tr) : Int := min (min t.a.y t.b.y) t.c.y
def Tr.hy (t : Tr) : Int := max (max t.a.y t.b.y) t.c.y
def Tr.bounds (t : Tr) : Bx := { x := (mids t.lx t.hx).1, y := (mids t.ly t.hy).1, c := (mids t.lx t.hx).2, r := (mids t.ly t.hy).2 }
theorem cov_bounds {t : Tr} (ht : t.Ok) {p : Int × Int} (h : t.cov p = true) : t.bounds.has p := by
  obtain ⟨⟨h1, h2⟩, h3, h4⟩ := cov_between ht.ar ht.pos h
  unfold Tr.bounds Bx.has mids Tr.lx Tr.hx Tr.ly Tr.hy
  dsimp only
  omega

/-- What is looked at: the window, or what the bounds have of it. -/
def lookBx (bd : Bool) (st : St) (t : Tr) : Bx := if bd then (winBx st).meet t.bounds else winBx st
theorem look_cov {bd : Bool} {st : St} {t : Tr} (ht : t.Ok) {p : Int × Int} (hc : t.cov p = true) : (lookBx bd st t).has p ↔ (winBx st).has p := by
  unfold lookBx
  cases bd
  · rfl
  · rw [if_pos rfl, meet_has]
    exact ⟨fun h => h.1, fun h => ⟨h, cov_bounds ht hc⟩⟩
theorem look_sub {bd : Bool} {st : St} {t : Tr} {p : Int × Int} (h : (lookBx bd st t).has p) : (winBx st).has p := by
  unfold lookBx at h
  cases bd
  · exact h
  · rw [if_pos rfl, meet_has] at h; exact h.1
def partBx (bd : Bool) (st : St) (t : Tr) (tile : Int × Int) : Bx := (lookBx bd st t).meet (tileBx tile)
theorem nodup_bx (b : Bx) : b.px.Nodup := nodup_rowsL _ _ _ _

theorem win_of (st : St) (K : Int) (h : st.Ok K) : WinIn st.wx st.wy st.ww st.wh st.W := ⟨h.wx0, h.wy0, h.wx1⟩

/-- A tile's part has all that the triangle covers of the tile. -/
theorem part_fold (bd : Bool) (st : St) (K : Int) (hok : st.Ok K) (t : Tr) (ht : t.Ok) (tile : Int × Int) (s : St) (hW : s.W = st.W) :
    (partBx bd st t tile).px.foldl t.px s = tileOp st.wx st.wy st.ww st.wh t tile s := by
  refine (fold_cover t (tilePx st.wx st.wy st.ww st.wh tile) _ s (nodup_rowsL _ _ _ _) (nodup_bx _) (by rw [hW]; exact (win_of st K hok).tile tile) (fun p hc => ?_)).symm
  rw [mem_bxPx, mem_tile]
  unfold partBx
  rw [meet_has, look_cov ht hc]

/-- Tiles of the window that have all that is covered: the triangle is drawn in them. -/
theorem tiles_fold (st : St) (K : Int) (hok : st.Ok K) (t : Tr) (tiles : List (Int × Int)) (hP : tiles.Pairwise Apart) (h : ∀ p, t.cov p = true → (winBx st).has p → ∃ k ∈ tiles, (tileBx k).has p) :
    tiles.foldl (fun s k => tileOp st.wx st.wy st.ww st.wh t k s) st = triY t.a t.b t.c t.ar st.wh.toNat st.wy st := by
  have e : tiles.foldl (fun s k => tileOp st.wx st.wy st.ww st.wh t k s) st = (tiles.flatMap (tilePx st.wx st.wy st.ww st.wh)).foldl t.px st := by rw [List.foldl_flatMap]; rfl
  rw [e, triY_fold]
  refine fold_cover t _ _ st ?_ (nodup_rowsL _ _ _ _) ?_ (fun p hc => ?_)
  · show List.Pairwise _ _
    rw [List.pairwise_flatMap]
    refine ⟨fun k _ => nodup_rowsL _ _ _ _, hP.imp ?_⟩
    intro k l hkl p hp q hq e
    subst e
    rw [mem_tilePx] at hp hq
    unfold Apart at hkl
    omega
  · intro p hp
    obtain ⟨k, _, hk⟩ := List.mem_flatMap.1 hp
    exact (win_of st K hok).tile k p hk
  · rw [List.mem_flatMap, mem_rowsL]
    constructor
    · rintro ⟨k, _, hk⟩
      rw [mem_tilePx] at hk
      omega
    · intro hp
      have hw : (winBx st).has p := by unfold winBx Bx.has; dsimp only; have := hok.ww0; have := hok.wh0; omega
      obtain ⟨k, hk, hh⟩ := h p hc hw
      exact ⟨k, hk, (mem_tile st k p).2 ⟨hw, hh⟩⟩

/-- Does an edge leave a rectangle outside, by its corners? -/
def outB (a b : Cor) (x y : Int) : Bool := !hasB a b (edge a b (16 * x + 8) (16 * y + 8))
def leavesB (a b : Cor) (o : Bx) : Bool :=
  outB a b o.x o.y && outB a b o.x (o.y + o.r - 1) && outB a b (o.x + o.c - 1) o.y && outB a b (o.x + o.c - 1) (o.y + o.r - 1)
def lineM (a b : Cor) : Int := if hasB a b 0 then -1 else 0
theorem outB_iff (a b : Cor) (x y : Int) : outB a b x y = true ↔ edge a b (16 * x + 8) (16 * y + 8) ≤ lineM a b := by
  unfold outB lineM
  generalize edge a b (16 * x + 8) (16 * y + 8) = e
  unfold hasB
  simp only [if_true]
  by_cases h0 : e = 0
  · subst h0
    simp only [if_true]
    cases (decide (b.y < a.y) || decide (b.y = a.y) && decide (a.x < b.x)) <;> simp
  · rw [if_neg h0]
    cases (decide (b.y < a.y) || decide (b.y = a.y) && decide (a.x < b.x)) <;> simp <;> omega
theorem edge_dx (a b : Cor) (x y d : Int) : edge a b (x + d) y = edge a b x y - (b.y - a.y) * d := by
  unfold edge
  rw [show x + d - a.x = (x - a.x) + d from by omega, Int.mul_add]; omega
theorem edge_dy (a b : Cor) (x y d : Int) : edge a b x (y + d) = edge a b x y + (b.x - a.x) * d := by
  unfold edge
  rw [show y + d - a.y = (y - a.y) + d from by omega, Int.mul_add]; omega
theorem line_x (a b : Cor) (x0 x1 x y m : Int) (h0 : x0 ≤ x) (h1 : x ≤ x1) (e0 : edge a b x0 y ≤ m) (e1 : edge a b x1 y ≤ m) : edge a b x y ≤ m := by
  have g0 := edge_dx a b x0 y (x - x0)
  have g1 := edge_dx a b x y (x1 - x)
  rw [show x0 + (x - x0) = x from by omega] at g0
  rw [show x + (x1 - x) = x1 from by omega] at g1
  rcases Int.le_total 0 (b.y - a.y) with h | h
  · have := Int.mul_nonneg h (by omega : 0 ≤ x - x0); omega
  · have := Int.mul_nonneg (show 0 ≤ -(b.y - a.y) by omega) (by omega : 0 ≤ x1 - x)
    rw [Int.neg_mul] at this; omega
theorem line_y (a b : Cor) (y0 y1 x y m : Int) (h0 : y0 ≤ y) (h1 : y ≤ y1) (e0 : edge a b x y0 ≤ m) (e1 : edge a b x y1 ≤ m) : edge a b x y ≤ m := by
  have g0 := edge_dy a b x y0 (y - y0)
  have g1 := edge_dy a b x y (y1 - y)
  rw [show y0 + (y - y0) = y from by omega] at g0
  rw [show y + (y1 - y) = y1 from by omega] at g1
  rcases Int.le_total 0 (b.x - a.x) with h | h
  · have := Int.mul_nonneg h (by omega : 0 ≤ y1 - y); omega
  · have := Int.mul_nonneg (show 0 ≤ -(b.x - a.x) by omega) (by omega : 0 ≤ y - y0)
    rw [Int.neg_mul] at this; omega
theorem leaves_out (a b : Cor) (o : Bx) (h : leavesB a b o = true) (p : Int × Int) (hp : o.has p) : hasB a b (edge a b (16 * p.1 + 8) (16 * p.2 + 8)) = false := by
  unfold leavesB at h
  simp only [Bool.and_eq_true, outB_iff] at h
  obtain ⟨⟨⟨h1, h2⟩, h3⟩, h4⟩ := h
  unfold Bx.has at hp
  have : outB a b p.1 p.2 = true := by
    rw [outB_iff]
    refine line_y a b (16 * o.y + 8) (16 * (o.y + o.r - 1) + 8) _ _ _ (by omega) (by omega) ?_ ?_
    · exact line_x a b (16 * o.x + 8) (16 * (o.x + o.c - 1) + 8) _ _ _ (by omega) (by omega) h1 h3
    · exact line_x a b (16 * o.x + 8) (16 * (o.x + o.c - 1) + 8) _ _ _ (by omega) (by omega) h2 h4
  unfold outB at this
  simpa using this
/-- One of the three edges leaves the rectangle outside. -/
def Tr.leaves (t : Tr) (o : Bx) : Bool := leavesB t.b t.c o || leavesB t.c t.a o || leavesB t.a t.b o
theorem leaves_cov (t : Tr) (o : Bx) (h : t.leaves o = true) (p : Int × Int) (hp : o.has p) : t.cov p = false := by
  unfold Tr.leaves at h
  unfold Tr.cov covB
  simp only [Bool.or_eq_true] at h
  rcases h with (h | h) | h
  · rw [leaves_out _ _ _ h p hp]; rfl
  · rw [leaves_out _ _ _ h p hp]; simp
  · rw [leaves_out _ _ _ h p hp]; simp
theorem op_none (st : St) (t : Tr) (k : Int × Int) (h : ∀ p, t.cov p = true → (winBx st).has p → ¬ (tileBx k).has p) (s : St) : tileOp st.wx st.wy st.ww st.wh t k s = s := by
  refine fold_none t _ s (fun p hp => ?_)
  rw [mem_tile] at hp
  cases hc : t.cov p
  · rfl
  · exact absurd hp.2 (h p hc hp.1)
end Go.Proofs.YthcikinkicpicaaGreatDoor

namespace Go.Proofs.YthcikinkicpicaaGreatDoor

def chB (T : Tst) (k : Int) : Bool := decide (k ≠ 0) && decide (T.writes ≠ 0)
/-- May anything change where a test fails? -/
def failB (T : Tst) : Bool := (decide (T.test ≠ 7) && chB T T.fail) || (decide (T.test ≠ 0) && decide (T.depth ≠ 7) && chB T T.dfail)
/-- May anything change, or be counted, where both pass? -/
def passB (T : Tst) (cnt : Bool) : Bool := if T.test = 0 ∨ T.depth = 0 then false else cnt || decide (T.write = 1) || decide (T.colours ≠ 0) || chB T T.pass
def anyOn (qs : List Qry) : Bool := qs.any (·.on)

theorem byte_bits (s m : Nat) (hs : s < 256) (hm : m < 256) : (s &&& (255 - m)) ||| (s &&& m) = s := by
  have e : 255 - m = 2 ^ 8 - (m + 1) := by omega
  rw [e]
  apply Nat.eq_of_testBit_eq
  intro i
  rw [Nat.testBit_or, Nat.testBit_and, Nat.testBit_and, Nat.testBit_two_pow_sub_succ (by omega : m < 2 ^ 8)]
  by_cases hi : i < 8
  · cases Nat.testBit s i <;> cases Nat.testBit m i <;> simp [hi]
  · have : Nat.testBit s i = false := Nat.testBit_lt_two_pow (Nat.lt_of_lt_of_le (show s < 2 ^ 8 from hs) (Nat.pow_le_pow_right (by decide) (Nat.le_of_not_lt hi)))
    simp [this]

theorem made_same (T : Tst) (hT : T.Ok) (k s : Int) (hs : 0 ≤ s) (hs' : s ≤ 255) (h : chB T k = false) : made T k s = s := by
  have w0 := hT.writes0
  have w1 := hT.writes1
  unfold chB at h
  unfold made
  by_cases hk : k = 0
  · subst hk
    have e : stenNew 0 T.value s = s := by simp [stenNew]
    rw [e]
    unfold ior iand
    have hb := byte_bits s.toNat T.writes.toNat (by omega) (by omega)
    have e1 : (255 - T.writes).toNat = 255 - T.writes.toNat := by omega
    rw [e1, Int.toNat_natCast, Int.toNat_natCast, hb]
    omega
  · have hw : T.writes = 0 := by
      by_cases hw : T.writes = 0
      · exact hw
      · simp [hk, hw] at h
    rw [hw]
    unfold ior iand
    have hb := byte_bits s.toNat 0 (by omega) (by omega)
    have e1 : ((255 : Int) - 0).toNat = 255 - 0 := by decide
    have e2 : (0 : Int).toNat = 0 := rfl
    rw [e1, e2, Int.toNat_natCast, Int.toNat_natCast, Nat.and_zero]
    rw [Nat.and_zero] at hb
    rw [hb]; omega

theorem testB_seven (a b : Int) : testB 7 a b = true := by simp [testB]
theorem testB_zero (a b : Int) : testB 0 a b = false := by simp [testB]

/-- Where a test fails, nothing happens. -/
theorem idle_fail (T : Tst) (hT : T.Ok) (f o : Dot) (ho : o.Ok) (hf : failB T = false) (h : (dotRes T f o).2 = false) : dotRes T f o = (o, false) := by
  unfold failB at hf
  rw [Bool.or_eq_false_iff] at hf
  obtain ⟨f1, f2⟩ := hf
  unfold dotRes at h ⊢
  by_cases h1 : testB T.test (iand T.value T.which) (iand o.s T.which) = false
  · rw [if_pos h1]
    have hne : T.test ≠ 7 := fun e => by rw [e, testB_seven] at h1; cases h1
    have hc : chB T T.fail = false := by simpa [hne] using f1
    rw [made_same T hT _ _ ho.s0 ho.s1 hc]
  · rw [if_neg h1] at h ⊢
    by_cases h2 : testB T.depth f.d o.d = false
    · rw [if_pos h2]
      have hne : T.depth ≠ 7 := fun e => by rw [e, testB_seven] at h2; cases h2
      have hne0 : T.test ≠ 0 := fun e => by rw [e, testB_zero] at h1; exact h1 rfl
      have hc : chB T T.dfail = false := by simpa [hne, hne0] using f2
      rw [made_same T hT _ _ ho.s0 ho.s1 hc]
    · rw [if_neg h2] at h; cases h
theorem idle_depth (T : Tst) (hT : T.Ok) (f o : Dot) (ho : o.Ok) (hf : failB T = false) (h : testB T.depth f.d o.d = false) : dotRes T f o = (o, false) := by
  refine idle_fail T hT f o ho hf ?_
  unfold dotRes
  split
  · rfl
  · rfl
theorem iand_zero (b : Int) : iand 0 b = 0 := by unfold iand; simp
theorem idle_pass (T : Tst) (hT : T.Ok) (f o : Dot) (ho : o.Ok) (cnt : Bool) (hf : failB T = false) (hp : passB T cnt = false) : (dotRes T f o).1 = o ∧ ((dotRes T f o).2 = true → cnt = false) := by
  cases h : (dotRes T f o).2
  · rw [idle_fail T hT f o ho hf h]; exact ⟨rfl, fun h => by cases h⟩
  · have h' := h
    unfold dotRes at h h' ⊢
    by_cases h1 : testB T.test (iand T.value T.which) (iand o.s T.which) = false
    · rw [if_pos h1] at h; cases h
    · rw [if_neg h1] at h ⊢
      by_cases h2 : testB T.depth f.d o.d = false
      · rw [if_pos h2] at h; cases h
      · rw [if_neg h2]
        have n0 : T.test ≠ 0 := fun e => by rw [e, testB_zero] at h1; exact h1 rfl
        have n1 : T.depth ≠ 0 := fun e => by rw [e, testB_zero] at h2; exact h2 rfl
        unfold passB at hp
        rw [if_neg (by omega)] at hp
        simp only [Bool.or_eq_false_iff, decide_eq_false_iff_not] at hp
        obtain ⟨⟨⟨hc, hw⟩, hcol⟩, hch⟩ := hp
        have hcol' : T.colours = 0 := by omega
        refine ⟨?_, fun _ => hc⟩
        dsimp only
        rw [hcol', iand_zero, iand_zero, iand_zero, if_pos rfl, if_pos rfl, if_pos rfl, if_neg hw, made_same T hT _ _ ho.s0 ho.s1 hch]

theorem count_none (qs : List Qry) (h : anyOn qs = false) : qs.map count = qs := by
  unfold anyOn at h
  rw [List.any_eq_false] at h
  conv => rhs; rw [← List.map_id qs]
  refine List.map_congr_left (fun q hq => ?_)
  have := h q hq
  unfold count
  rw [if_neg (by simpa using this)]; rfl
theorem set_getD (l : List Dot) (i : Nat) : l.set i (l.getD i dot0) = l := by
  by_cases h : i < l.length
  · rw [List.getD_eq_getElem?_getD, List.getElem?_eq_getElem h]
    exact List.set_getElem_self h
  · rw [List.set_eq_of_length_le (by omega)]
theorem dots_getD {l : List Dot} (h : ∀ o ∈ l, o.Ok) (i : Nat) : (l.getD i dot0).Ok := by
  rw [List.getD_eq_getElem?_getD]
  cases hg : l[i]? with
  | none => exact dot0_ok
  | some o => exact h o (List.mem_of_getElem? hg)

/-- A pixel at which nothing is to be seen. -/
theorem px_idle (t : Tr) (ht : t.Ok) (st : St) (K : Int) (hok : st.Ok K) (p : Int × Int)
    (h : t.cov p = true → ∀ f, (shaded st.sh (pix t.a t.b t.c t.ar p.1 p.2) p.1 p.2 0).2 = some f → (dotRes st.T f (st.dots.getD (p.2 * st.W + p.1).toNat dot0)).1 = st.dots.getD (p.2 * st.W + p.1).toNat dot0 ∧ ((dotRes st.T f (st.dots.getD (p.2 * st.W + p.1).toNat dot0)).2 = true → anyOn st.qs = false)) :
    ∃ m, 0 ≤ m ∧ m ≤ 16 ∧ t.px st p = { st with work := st.work + m } := by
  unfold Tr.px
  rw [px_W]
  unfold pxW
  cases hc : covB t.a t.b t.c p.1 p.2
  · exact ⟨0, by omega, by omega, by simp⟩
  · have h := h hc
    have hs := shaded_ok st.sh (pix t.a t.b t.c t.ar p.1 p.2) p.1 p.2 0 (pix_ok _ _ _ _ _ _ ht.a ht.b ht.c ht.ar ht.pos hc) hok.shl
    rw [if_pos rfl]
    generalize shaded st.sh (pix t.a t.b t.c t.ar p.1 p.2) p.1 p.2 0 = r at *
    obtain ⟨n, o⟩ := r
    simp only at h hs ⊢
    cases o with
    | none => exact ⟨n, hs.1, by omega, by unfold eff; rw [Int.add_comm]⟩
    | some f =>
      obtain ⟨h1, h2⟩ := h f rfl
      refine ⟨n, hs.1, by omega, ?_⟩
      unfold eff
      dsimp only
      rw [h1, set_getD]
      have hq : (if (dotRes st.T f (st.dots.getD (p.2 * st.W + p.1).toNat dot0)).2 then st.qs.map count else st.qs) = st.qs := by
        split
        · rename_i hh; rw [count_none _ (h2 hh)]
        · rfl
      rw [hq, Int.add_comm]

theorem work_mono {st : St} {K m : Int} (h : st.Ok K) (h0 : 0 ≤ m) (h1 : m ≤ 16) : St.Ok (K + 16) { st with work := st.work + m } := by
  have := h.work0; have := h.work1
  exact ⟨h.W0, h.W1, h.H0, h.H1, h.len, h.dots, h.T, h.wx0, h.wy0, h.ww0, h.wh0, h.wx1, h.wy1, h.sh, h.shl, h.qs, fun q hq => ⟨(h.qn q hq).1, by have := (h.qn q hq).2; omega⟩, by show 0 ≤ st.work + m; omega, by show st.work + m ≤ K + 16; omega⟩

theorem fold_idle (t : Tr) (ht : t.Ok) : ∀ (l : List (Int × Int)) (st : St) (K : Int), st.Ok K →
    (∀ p ∈ l, t.cov p = true → ∀ f, (shaded st.sh (pix t.a t.b t.c t.ar p.1 p.2) p.1 p.2 0).2 = some f → (dotRes st.T f (st.dots.getD (p.2 * st.W + p.1).toNat dot0)).1 = st.dots.getD (p.2 * st.W + p.1).toNat dot0 ∧ ((dotRes st.T f (st.dots.getD (p.2 * st.W + p.1).toNat dot0)).2 = true → anyOn st.qs = false)) →
    ∃ m, 0 ≤ m ∧ l.foldl t.px st = { st with work := st.work + m }
  | [], st, _, _, _ => ⟨0, by omega, by simp⟩
  | p :: l, st, K, hok, h => by
    obtain ⟨m, h0, h1, e⟩ := px_idle t ht st K hok p (h p List.mem_cons_self)
    rw [List.foldl_cons, e]
    obtain ⟨m', h0', e'⟩ := fold_idle t ht l { st with work := st.work + m } (K + 16) (work_mono hok h0 h1) (fun q hq => h q (List.mem_cons_of_mem _ hq))
    exact ⟨m + m', by omega, by rw [e']; dsimp only; rw [Int.add_assoc]⟩
/-- Where nothing is to be seen, leaving it out is near. -/
theorem near_idle {pl : Prop} (hpl : ¬ pl) {st st' : St} {m : Int} (h0 : 0 ≤ m) (e : st' = { st with work := st.work + m }) : Near pl st' st := by
  rw [e]
  exact ⟨rfl, by show st.work ≤ st.work + m; omega, fun h => absurd h hpl⟩

/-- A triangle that cannot be seen by the rules. -/
theorem unseen (t : Tr) (ht : t.Ok) (st : St) (K : Int) (hok : st.Ok K) (hf : failB st.T = false) (hp : passB st.T (anyOn st.qs) = false) (l : List (Int × Int)) : ∃ m, 0 ≤ m ∧ l.foldl t.px st = { st with work := st.work + m } := by
  refine fold_idle t ht l st K hok (fun p _ hc f hfs => ?_)
  exact idle_pass st.T hok.T f _ (dots_getD hok.dots _) _ hf hp

/-- What comes may pass against what is there: both by their ends. -/
def mayB (k cl cm tl tm : Int) : Bool :=
  if k = 1 ∨ k = 3 then testB k cl tm else if k = 4 ∨ k = 6 then testB k cm tl else if k = 2 then decide (cl ≤ tm) && decide (tl ≤ cm) else if k = 5 then decide (cl ≠ tm) || decide (cm ≠ tl) else decide (k = 7)
theorem may_not (k cl cm tl tm d z : Int) (k0 : 0 ≤ k) (k7 : k ≤ 7) (h : mayB k cl cm tl tm = false) (h1 : cl ≤ d) (h2 : d ≤ cm) (h3 : tl ≤ z) (h4 : z ≤ tm) : testB k d z = false := by
  have hk : k = 0 ∨ k = 1 ∨ k = 2 ∨ k = 3 ∨ k = 4 ∨ k = 5 ∨ k = 6 ∨ k = 7 := by omega
  rcases hk with rfl | rfl | rfl | rfl | rfl | rfl | rfl | rfl <;> simp [mayB, testB] at h ⊢ <;> omega

/-- A mean lies between its numbers. -/
theorem mean_bd2 (u v w s p q r A B : Int) (hu : 0 ≤ u) (hv : 0 ≤ v) (hw : 0 ≤ w) (hs : 0 < s) (he : u + v + w = s) (p0 : A ≤ p) (p1 : p ≤ B) (q0 : A ≤ q) (q1 : q ≤ B) (r0 : A ≤ r) (r1 : r ≤ B) :
    A ≤ (u * p + v * q + w * r) / s ∧ (u * p + v * q + w * r) / s ≤ B := by
  have a1 := Int.mul_le_mul_of_nonneg_left p0 hu
  have a2 := Int.mul_le_mul_of_nonneg_left q0 hv
  have a3 := Int.mul_le_mul_of_nonneg_left r0 hw
  have b1 := Int.mul_le_mul_of_nonneg_left p1 hu
  have b2 := Int.mul_le_mul_of_nonneg_left q1 hv
  have b3 := Int.mul_le_mul_of_nonneg_left r1 hw
  have hB : u * B + v * B + w * B = s * B := by rw [← he, Int.add_mul, Int.add_mul]
  have hA : u * A + v * A + w * A = s * A := by rw [← he, Int.add_mul, Int.add_mul]
  refine ⟨?_, ?_⟩
  · have : (s * A) / s ≤ (u * p + v * q + w * r) / s := Int.ediv_le_ediv hs (by omega)
    rwa [Int.mul_ediv_cancel_left A (by omega)] at this
  · have : (u * p + v * q + w * r) / s ≤ (s * B) / s := Int.ediv_le_ediv hs (by omega)
    rwa [Int.mul_ediv_cancel_left B (by omega)] at this

def Tr.ld (t : Tr) : Int := min (min t.a.d t.b.d) t.c.d
def Tr.hd (t : Tr) : Int := max (max t.a.d t.b.d) t.c.d
theorem pix_depth (t : Tr) (ht : t.Ok) (p : Int × Int) (hc : t.cov p = true) : t.ld ≤ (pix t.a t.b t.c t.ar p.1 p.2).d ∧ (pix t.a t.b t.c t.ar p.1 p.2).d ≤ t.hd := by
  obtain ⟨h1, h2, h3⟩ := cov_parts hc
  have hs := edge_sum t.a t.b t.c (16 * p.1 + 8) (16 * p.2 + 8)
  rw [ht.ar] at hs
  unfold pix mix Tr.ld Tr.hd
  exact mean_bd2 _ _ _ t.ar _ _ _ _ _ h1 h2 h3 ht.pos hs (by omega) (by omega) (by omega) (by omega) (by omega) (by omega)

/-- A shader's steps: does one give up, does one bring a depth? -/
def givesB : List Int → Bool
  | a :: _ :: _ :: _ :: rest => decide (a = 7) || givesB rest
  | _ => false
def bringsB : List Int → Bool
  | a :: _ :: _ :: _ :: rest => decide (a = 8) || bringsB rest
  | _ => false
theorem run_brings : ∀ (n : Nat) (sh r : List Int) (d k : Int), sh.length ≤ n → bringsB sh = false → ∀ r' z, (shRun sh r d k).2 = some (r', z) → z = d
  | 0, [], r, d, k, _, _, r', z, h => by simp [shRun] at h; omega
  | n + 1, [], r, d, k, _, _, r', z, h => by simp [shRun] at h; omega
  | n + 1, [a], r, d, k, _, _, r', z, h => by simp [shRun] at h; omega
  | n + 1, [a, b], r, d, k, _, _, r', z, h => by simp [shRun] at h; omega
  | n + 1, [a, b, c], r, d, k, _, _, r', z, h => by simp [shRun] at h; omega
  | n + 1, a :: b :: c :: e :: rest, r, d, k, hl, hb, r', z, h => by
    rw [shRun] at h
    simp only [bringsB, Bool.or_eq_false_iff, decide_eq_false_iff_not] at hb
    split at h
    · simp at h
    · rw [if_neg hb.1] at h
      exact run_brings n rest _ _ _ (by simp at hl; omega) hb.2 r' z h
theorem run_gives : ∀ (n : Nat) (sh r : List Int) (d k : Int), sh.length ≤ n → givesB sh = false → ∃ r' z, shRun sh r d k = (k + sh.length / 4, some (r', z))
  | 0, [], r, d, k, _, _ => ⟨r, d, by simp [shRun]⟩
  | n + 1, [], r, d, k, _, _ => ⟨r, d, by simp [shRun]⟩
  | n + 1, [a], r, d, k, _, _ => ⟨r, d, by simp [shRun]⟩
  | n + 1, [a, b], r, d, k, _, _ => ⟨r, d, by simp [shRun]⟩
  | n + 1, [a, b, c], r, d, k, _, _ => ⟨r, d, by simp [shRun]⟩
  | n + 1, a :: b :: c :: e :: rest, r, d, k, hl, hb => by
    simp only [givesB, Bool.or_eq_false_iff, decide_eq_false_iff_not] at hb
    rw [shRun, if_neg (fun h => hb.1 h.1)]
    obtain ⟨r', z, h⟩ := run_gives n rest (if a < 7 then r.set b.toNat (within (shVal a c e (reg r c) (reg r e)) (-2147483648) 2147483647) else r) (if a = 8 then within (reg r c) 0 65535 else d) (k + 1) (by simp at hl; omega) hb.2
    refine ⟨r', z, ?_⟩
    rw [h]
    congr 1
    simp only [List.length_cons]
    omega
theorem shaded_keeps (sh : List Int) (d : Dot) (x y k : Int) (hb : bringsB sh = false) (f : Dot) (h : (shaded sh d x y k).2 = some f) : f.d = d.d := by
  have hr := run_brings sh.length sh [d.r, d.g, d.b, x, y, d.d, 0, 0] d.d k (Nat.le_refl _) hb
  unfold shaded at h
  generalize shRun sh [d.r, d.g, d.b, x, y, d.d, 0, 0] d.d k = r at *
  obtain ⟨n, o⟩ := r
  cases o with
  | none => simp at h
  | some q =>
    obtain ⟨r', z⟩ := q
    simp only [Option.some.injEq] at h
    rw [← h]
    exact hr r' z rfl

/-- A tile's part that the depths' ends decide. -/
theorem decided (t : Tr) (ht : t.Ok) (st : St) (K : Int) (hok : st.Ok K) (l : List (Int × Int)) (cl cm tl tm : Int) (hf : failB st.T = false) (hm : mayB st.T.depth cl cm tl tm = false)
    (hc : if bringsB st.sh then cl ≤ 0 ∧ 65535 ≤ cm else cl ≤ t.ld ∧ t.hd ≤ cm) (hz : ∀ p ∈ l, tl ≤ (st.dots.getD (p.2 * st.W + p.1).toNat dot0).d ∧ (st.dots.getD (p.2 * st.W + p.1).toNat dot0).d ≤ tm) : ∃ m, 0 ≤ m ∧ l.foldl t.px st = { st with work := st.work + m } := by
  refine fold_idle t ht l st K hok (fun p hp hcv f hfs => ?_)
  have hpo := pix_ok t.a t.b t.c t.ar p.1 p.2 ht.a ht.b ht.c ht.ar ht.pos hcv
  have hd : cl ≤ f.d ∧ f.d ≤ cm := by
    cases hb : bringsB st.sh
    · rw [hb, if_neg (by simp)] at hc
      have := pix_depth t ht p hcv
      rw [shaded_keeps _ _ _ _ _ hb f hfs]
      omega
    · rw [hb, if_pos rfl] at hc
      have hfo := (shaded_ok st.sh _ p.1 p.2 0 hpo hok.shl).2.2 f hfs
      have := hfo.d0; have := hfo.d1
      omega
  have hd2 := hz p hp
  have ht0 := may_not st.T.depth cl cm tl tm f.d _ hok.T.depth0 hok.T.depth1 hm hd.1 hd.2 hd2.1 hd2.2
  rw [idle_depth st.T hok.T f _ (dots_getD hok.dots _) hf ht0]
  exact ⟨rfl, fun h => by cases h⟩
end Go.Proofs.YthcikinkicpicaaGreatDoor
