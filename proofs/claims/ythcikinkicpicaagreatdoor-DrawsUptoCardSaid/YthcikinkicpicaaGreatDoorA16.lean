import Derived.Test.YthcikinkicpicaaGreatDoorA15
import Derived.Test.YthcikinkicpicaaGreatDoorA10

namespace Go.Proofs.YthcikinkicpicaaGreatDoor
open Go.RowKit

theorem smul (W Y X : Nat) : ((Y : Int) * (W : Int) + X).toNat = Y * W + X := by
  rw [show (Y : Int) * (W : Int) + X = ((Y * W + X : Nat) : Int) from by rw [Int.natCast_add, Int.natCast_mul]]; rfl

section
variable (base : Nat) (p cB zB sB A n : Nat) (s : ByteArray) (k : Int) (ways : Wy) (shV outV : Value) (st : St) (w : World)

/-- The three surfaces, opened. -/
structure Open (w : World) (fc : Nat → Nat → Col) (fz fs : Nat → Nat → Int) : Prop where
  pix : Pix st A fc fz fs
  c : SurfC w p 8 cB A n 196 fc
  z : SurfU w p 10 zB A n .u16 201 fz
  s : SurfU w p 12 sB A n .u8 206 fs

theorem Dr.open_ {base p cB zB sB A n : Nat} {s : ByteArray} {k : Int} {ways : Wy} {shV outV : Value} {st : St} {w : World} (h : Dr base w p cB zB sB A n s k ways shV outV st) : ∃ fc fz fs, Open p cB zB sB A n st w fc fz fs := by
  obtain ⟨fc, fz, fs, hp, t1, t2, t3⟩ := h.sf.ex
  have cp := cell_of h.bp
  exact ⟨fc, fz, fs, hp, ⟨cp 8, cp 9, t1⟩, ⟨cp 10, cp 11, t2⟩, ⟨cp 12, cp 13, t3⟩⟩

/-- A pixel of the pane lies in a tile. -/
theorem in_tile {st : St} {A n X Y : Nat} (hA : A = ((st.W + 3) / 4).toNat) (hn : n = A * ((st.H + 3) / 4).toNat) (hX : (X : Int) < st.W) (hY : (Y : Int) < st.H) (hW : st.W ≤ 24) (hH : st.H ≤ 24) : tNo A X Y < n ∧ A ≤ 6 ∧ n ≤ 36 := by
  have h1 : X / 4 < A := by omega
  have h2 : Y / 4 + 1 ≤ ((st.H + 3) / 4).toNat := by omega
  have h3 : (Y / 4 + 1) * A ≤ ((st.H + 3) / 4).toNat * A := Nat.mul_le_mul_right A h2
  have h4 : A * ((st.H + 3) / 4).toNat ≤ 6 * 6 := Nat.mul_le_mul (by omega) (by omega)
  rw [Nat.add_mul, Nat.one_mul, Nat.mul_comm ((st.H + 3) / 4).toNat A] at h3
  unfold tNo
  exact ⟨by omega, by omega, by omega⟩

end
end Go.Proofs.YthcikinkicpicaaGreatDoor

namespace Go.Proofs.YthcikinkicpicaaGreatDoor
open Go.RowKit

section
variable {base p cB zB sB A n : Nat} {s : ByteArray} {k : Int} {ways : Wy} {shV outV : Value} {st : St} {w w' : World} {fc : Nat → Nat → Col} {fz fs : Nat → Nat → Int}

/-- A block of a surface turns: the drawer is what it was but for the pixels. -/
theorem Dr.surf (h : Dr base w p cB zB sB A n s k ways shV outV st) {S : Nat → Prop} (hk : Kept S w w') (hS : ∀ g, S g → g = cB ∨ g = zB ∨ g = sB) (dots : List Dot) (hsf : Surfs w' cB zB sB A n { st with dots := dots }) :
    Dr base w' p cB zB sB A n s k ways shV outV { st with dots := dots } ∧ Low base w w' := by
  obtain ⟨_, _, _, _, ⟨c1, b1, t1⟩, ⟨c2, b2, t2⟩, c3, b3, t3⟩ := h.sf.ex
  have no : ∀ {g : Nat} {cu : Array Value} {T : TypeId}, w.heap[g]? = some (.cells cu T (0, 0)) → T ≠ 196 → T ≠ 201 → T ≠ 206 → ¬ S g := by
    intro g cu T hg n1 n2 n3 hs
    rcases hS g hs with rfl | rfl | rfl
    · exact ne_types hg b1 n1 rfl
    · exact ne_types hg b2 n2 rfl
    · exact ne_types hg b3 n3 rfl
  have lp := lt_of_heap h.bp
  have nom : ¬ S ways.m := by
    intro hs
    rcases hS _ hs with e | e | e
    · exact ne_map h.mp b1 e
    · exact ne_map h.mp b2 e
    · exact ne_map h.mp b3 e
  refine ⟨⟨(hk.block _ lp (no h.bp (by decide) (by decide) (by decide))).trans h.bp, hsf, h.sh.kept hk (fun g cur hg => no hg (by decide) (by decide) (by decide)), owns_kept h.out hk (fun g cur hg => no hg (by decide) (by decide) (by decide)), h.b0, h.b1, h.b2, h.b3, (hk.block _ (lt_of_heap h.mp) nom).trans h.mp, h.b4⟩, ?_⟩
  refine low_kept hk (fun g hs => ?_) (fun g hs => ?_) (by have := h.b0; omega)
  · rcases hS g hs with rfl | rfl | rfl
    · exact h.b1
    · exact h.b2
    · exact h.b3
  · rcases hS g hs with rfl | rfl | rfl
    · exact ⟨_, _, b1, by decide⟩
    · exact ⟨_, _, b2, by decide⟩
    · exact ⟨_, _, b3, by decide⟩

/-- One pixel's colour, depth and stencil become others. -/
theorem Pix.put (h : Pix st A fc fz fs) (hW : 0 ≤ st.W) (hA : A = ((st.W + 3) / 4).toNat) (hlen : (st.dots.length : Int) = st.W * st.H) {X Y : Nat} (hX : (X : Int) < st.W) (hY : (Y : Int) < st.H) (c : Col) (z u : Int) :
    Pix { st with dots := st.dots.set ((Y : Int) * st.W + X).toNat { r := c.r, g := c.g, b := c.b, d := z, s := u } } A (updC fc (tNo A X Y) (iNo X Y) c) (upd fz (tNo A X Y) (iNo X Y) z) (upd fs (tNo A X Y) (iNo X Y) u) := by
  intro X' Y' hX' hY'
  have hX2 : (X' : Int) < st.W := hX'
  have hY2 : (Y' : Int) < st.H := hY'
  show (st.dots.set ((Y : Int) * st.W + X).toNat _).getD ((Y' : Int) * st.W + X').toNat dot0 = _
  rw [List.getD_eq_getElem?_getD]
  by_cases e : X = X' ∧ Y = Y'
  · obtain ⟨rfl, rfl⟩ := e
    have h1 : ((Y : Int) + 1) * st.W ≤ st.H * st.W := Int.mul_le_mul_of_nonneg_right (by omega) hW
    rw [Int.add_mul, Int.one_mul, Int.mul_comm st.H] at h1
    have h3 : 0 ≤ (Y : Int) * st.W := Int.mul_nonneg (by omega) hW
    rw [List.getElem?_set_self (by omega)]
    simp [upd, updC]
  · have hne : ((Y : Int) * st.W + X).toNat ≠ ((Y' : Int) * st.W + X').toNat := place_ne (by omega) hX (by omega) (by omega) hX2 (by omega) (by omega)
    rw [List.getElem?_set_ne hne, ← List.getD_eq_getElem?_getD, h X' Y' hX2 hY2]
    have ht : ¬ (tNo A X' Y' = tNo A X Y ∧ iNo X' Y' = iNo X Y) := by
      rintro ⟨h1, h2⟩
      apply e
      unfold tNo at h1
      unfold iNo at h2
      have q1 : X / 4 < A := by omega
      have q2 : X' / 4 < A := by omega
      have hy : Y' / 4 = Y / 4 := by
        rcases Nat.lt_trichotomy (Y' / 4) (Y / 4) with hl | hl | hl
        · have := Nat.mul_le_mul_right A (show Y' / 4 + 1 ≤ Y / 4 by omega)
          rw [Nat.add_mul, Nat.one_mul] at this; omega
        · exact hl
        · have := Nat.mul_le_mul_right A (show Y / 4 + 1 ≤ Y' / 4 by omega)
          rw [Nat.add_mul, Nat.one_mul] at this; omega
      rw [hy] at h1
      omega
    simp only [upd, updC, if_neg ht]
end
end Go.Proofs.YthcikinkicpicaaGreatDoor

namespace Go.Proofs.YthcikinkicpicaaGreatDoor
open Go.RowKit

theorem ofInt8 (n : Nat) (h : n < 256) : (BitVec.ofInt 8 (n : Int)).toNat = n := by
  rw [BitVec.ofInt_natCast, BitVec.toNat_ofNat]; exact Nat.mod_eq_of_lt h
theorem wrap8 (n : Nat) (h : n < 256) : IntKind.u8.wrap (n : Int) = n := by
  rw [IntKind.wrap_u8]; omega
theorem u8_and (a b : Int) (h1 : 0 ≤ a) (h2 : a ≤ 255) (h3 : 0 ≤ b) (h4 : b ≤ 255) : bits .and .u8 a b = iand a b := by
  obtain ⟨A, rfl⟩ := Int.eq_ofNat_of_zero_le h1
  obtain ⟨B, rfl⟩ := Int.eq_ofNat_of_zero_le h3
  have hx : A &&& B ≤ A := Nat.and_le_left
  show IntKind.u8.wrap ((BitVec.ofInt 8 (A : Int) &&& BitVec.ofInt 8 (B : Int)).toNat : Int) = _
  rw [BitVec.toNat_and, ofInt8 A (by omega), ofInt8 B (by omega), wrap8 _ (by omega)]
  rfl
theorem u8_or (a b : Int) (h1 : 0 ≤ a) (h2 : a ≤ 255) (h3 : 0 ≤ b) (h4 : b ≤ 255) : bits .or .u8 a b = ior a b := by
  obtain ⟨A, rfl⟩ := Int.eq_ofNat_of_zero_le h1
  obtain ⟨B, rfl⟩ := Int.eq_ofNat_of_zero_le h3
  have hx : A ||| B < 2 ^ 8 := Nat.or_lt_two_pow (by omega) (by omega)
  show IntKind.u8.wrap ((BitVec.ofInt 8 (A : Int) ||| BitVec.ofInt 8 (B : Int)).toNat : Int) = _
  rw [BitVec.toNat_or, ofInt8 A (by omega), ofInt8 B (by omega), wrap8 _ (by omega)]
  rfl
theorem u8_andNot (a b : Int) (h1 : 0 ≤ a) (h2 : a ≤ 255) (h3 : 0 ≤ b) (h4 : b ≤ 255) : bits .andNot .u8 a b = iand a (255 - b) := by
  obtain ⟨A, rfl⟩ := Int.eq_ofNat_of_zero_le h1
  obtain ⟨B, rfl⟩ := Int.eq_ofNat_of_zero_le h3
  have hB : B ≤ 255 := by omega
  have hx : A &&& (255 - B) ≤ A := Nat.and_le_left
  show IntKind.u8.wrap ((BitVec.ofInt 8 (A : Int) &&& ~~~ BitVec.ofInt 8 (B : Int)).toNat : Int) = _
  rw [BitVec.toNat_and, BitVec.toNat_not, ofInt8 A (by omega), ofInt8 B (by omega), show 2 ^ 8 - 1 - B = 255 - B from rfl, wrap8 _ (by omega)]
  unfold iand
  rw [show ((255 : Int) - (B : Int)).toNat = 255 - B from by omega]
  rfl
theorem made_bits (t : Tst) (k s : Int) (ht : t.Ok) (h1 : 0 ≤ s) (h2 : s ≤ 255) : bits .or .u8 (bits .andNot .u8 s t.writes) (bits .and .u8 (stenNew k t.value s) t.writes) = made t k s := by
  have v0 := ht.value0
  have v1 := ht.value1
  have hn : 0 ≤ stenNew k t.value s ∧ stenNew k t.value s ≤ 255 := by
    unfold stenNew
    repeat' split
    all_goals omega
  have a0 := ht.writes0
  have a1 := ht.writes1
  have b1 := iand_bd s (255 - t.writes) (by omega)
  have b2 := iand_bd (stenNew k t.value s) t.writes (by omega)
  rw [u8_andNot _ _ h1 h2 a0 a1, u8_and _ _ hn.1 hn.2 a0 a1, u8_or _ _ b1.1 b1.2 b2.1 b2.2]
  rfl

theorem upd_self (f : Nat → Nat → Int) (t i : Nat) : upd f t i (f t i) = f := by
  funext a b
  unfold upd
  split
  · rename_i h; rw [h.1, h.2]
  · rfl
theorem updC_self (f : Nat → Nat → Col) (t i : Nat) : updC f t i (f t i) = f := by
  funext a b
  unfold updC
  split
  · rename_i h; rw [h.1, h.2]
  · rfl

section
variable {base p cB zB sB A n : Nat} {s : ByteArray} {k : Int} {ways : Wy} {shV outV : Value} {st : St} {w w0 : World}

/-- A pixel's stencil is set. -/
theorem sten_set (h : Dr base w p cB zB sB A n s k ways shV outV st) (hb : Below w.heap.size w w0) (W1 : st.W ≤ 24) (H1 : st.H ≤ 24) (W0 : 0 ≤ st.W) (len : (st.dots.length : Int) = st.W * st.H) {X Y : Nat} (hX : (X : Int) < st.W) (hY : (Y : Int) < st.H) (v : Int) :
    Calls Tryz.prog 147 #[.pointer (some ⟨p, 12, none⟩), .int .i64 X, .int .i64 Y, .int .u8 v] w0 fun e w3 => e = .returned (.tuple #[]) ∧
      Dr base w3 p cB zB sB A n s k ways shV outV { st with dots := st.dots.set ((Y : Int) * st.W + X).toNat { st.dots.getD ((Y : Int) * st.W + X).toNat dot0 with s := v } } ∧ Kept (· = sB) w w3 := by
  have h0 := h.frame hb
  obtain ⟨fc, fz, fs, ho⟩ := h0.open_
  obtain ⟨hn, hA6, hn36⟩ := in_tile h.sf.hA h.sf.hn hX hY W1 H1
  refine (set8 p 12 sB n A X Y fs v w0 ho.s (by omega) (by omega) hA6 hn hn36).mono ?_
  rintro e w3 ⟨rfl, ⟨cur', hc', ht'⟩, hk⟩
  obtain ⟨cuc, hgc, htc⟩ := ho.c.blk
  obtain ⟨cuz, hgz, htz⟩ := ho.z.blk
  obtain ⟨cus, hgs, hts⟩ := ho.s.blk
  have hsz : zB ≠ sB := ne_types hgz hgs (by decide)
  have hsc : cB ≠ sB := ne_types hgc hgs (by decide)
  have hpx := ho.pix.put W0 h.sf.hA len hX hY (fc (tNo A X Y) (iNo X Y)) (fz (tNo A X Y) (iNo X Y)) v
  rw [upd_self fz, updC_self fc] at hpx
  rw [ho.pix X Y hX hY]
  refine ⟨rfl, (h0.surf hk (fun g e => .inr (.inr e)) (st.dots.set ((Y : Int) * st.W + X).toNat { r := (fc (tNo A X Y) (iNo X Y)).r, g := (fc (tNo A X Y) (iNo X Y)).g, b := (fc (tNo A X Y) (iNo X Y)).b, d := fz (tNo A X Y) (iNo X Y), s := v }) ⟨h0.sf.hA, h0.sf.hn, _, _, _, hpx, ⟨cuc, (hk.block _ (lt_of_heap hgc) hsc).trans hgc, htc⟩, ⟨cuz, (hk.block _ (lt_of_heap hgz) hsz).trans hgz, htz⟩, cur', hc', ht'⟩).1, ((Kept.refl _ w).below hb).trans hk⟩
end
end Go.Proofs.YthcikinkicpicaaGreatDoor

namespace Go.Proofs.YthcikinkicpicaaGreatDoor
open Go.RowKit

def setRGB (c : Col) (d : Dot) : Dot := { d with r := c.r, g := c.g, b := c.b }
def setZ (z : Int) (d : Dot) : Dot := { d with d := z }
def setS (u : Int) (d : Dot) : Dot := { d with s := u }

section
variable {base p cB zB sB A n : Nat} {s : ByteArray} {k : Int} {ways : Wy} {shV outV : Value} {st : St} {w w' : World} {fc : Nat → Nat → Col} {fz fs : Nat → Nat → Int}

theorem map_dot (hW : 0 ≤ st.W) (hlen : (st.dots.length : Int) = st.W * st.H) (g : Dot → Dot) (X Y : Nat) (hX : (X : Int) < st.W) (hY : (Y : Int) < st.H) :
    (st.dots.map g).getD ((Y : Int) * st.W + X).toNat dot0 = g (st.dots.getD ((Y : Int) * st.W + X).toNat dot0) := by
  have h1 : ((Y : Int) + 1) * st.W ≤ st.H * st.W := Int.mul_le_mul_of_nonneg_right (by omega) hW
  rw [Int.add_mul, Int.one_mul, Int.mul_comm st.H] at h1
  have h3 : 0 ≤ (Y : Int) * st.W := Int.mul_nonneg (by omega) hW
  have h4 : ((Y : Int) * st.W + X).toNat < st.dots.length := by omega
  rw [List.getD_eq_getElem?_getD, List.getD_eq_getElem?_getD, List.getElem?_map, List.getElem?_eq_getElem h4]
  rfl

theorem Pix.col (h : Pix st A fc fz fs) (hW : 0 ≤ st.W) (hlen : (st.dots.length : Int) = st.W * st.H) (c : Col) : Pix { st with dots := st.dots.map (setRGB c) } A (fun _ _ => c) fz fs := by
  intro X Y hX hY
  show (st.dots.map _).getD ((Y : Int) * st.W + X).toNat dot0 = _
  rw [map_dot hW hlen _ X Y hX hY, h X Y hX hY]
  rfl
theorem Pix.dep (h : Pix st A fc fz fs) (hW : 0 ≤ st.W) (hlen : (st.dots.length : Int) = st.W * st.H) (z : Int) : Pix { st with dots := st.dots.map (setZ z) } A fc (fun _ _ => z) fs := by
  intro X Y hX hY
  show (st.dots.map _).getD ((Y : Int) * st.W + X).toNat dot0 = _
  rw [map_dot hW hlen _ X Y hX hY, h X Y hX hY]
  rfl
theorem Pix.ste (h : Pix st A fc fz fs) (hW : 0 ≤ st.W) (hlen : (st.dots.length : Int) = st.W * st.H) (u : Int) : Pix { st with dots := st.dots.map (setS u) } A fc fz (fun _ _ => u) := by
  intro X Y hX hY
  show (st.dots.map _).getD ((Y : Int) * st.W + X).toNat dot0 = _
  rw [map_dot hW hlen _ X Y hX hY, h X Y hX hY]
  rfl

theorem Dr.drewN (h : Dr base w p cB zB sB A n s k ways shV outV st) (m : Nat) : Dr base (w.drewN m) p cB zB sB A n s k ways shV outV st := h.frame ((Below.refl _ _).drewN' m)

theorem clrC_in (h : Dr base w p cB zB sB A n s k ways shV outV st) (hW : 0 ≤ st.W) (hn : n ≤ 36) (d1 : List Dot) (hd1 : d1 = st.dots) (hlen : (d1.length : Int) = st.W * st.H) (v : Col) (by_ : Bool) :
    Calls Tryz.prog 81 #[.pointer (some ⟨p, 8, none⟩), v.v, .bool by_] w fun e w' =>
      e = .returned (.tuple #[]) ∧ Dr base w' p cB zB sB A n s k ways shV outV { st with dots := d1.map (setRGB v) } ∧ Low base w w' := by
  subst hd1
  obtain ⟨fc, fz, fs, ho⟩ := h.open_
  obtain ⟨c1, b1, t1⟩ := ho.c.blk
  obtain ⟨c2, b2, t2⟩ := ho.z.blk
  obtain ⟨c3, b3, t3⟩ := ho.s.blk
  refine (clearC p 8 cB n A fc v by_ w ho.c (ne_types b1 h.bp (by decide)) hn).mono ?_
  rintro e w' ⟨rfl, ⟨cur', hb', hT'⟩, hk⟩
  have hs := h.surf hk (fun g e => .inl e) (st.dots.map (setRGB v)) ⟨h.sf.hA, h.sf.hn, _, _, _, ho.pix.col hW hlen v, ⟨cur', hb', hT'⟩, ⟨c2, (hk.block _ (lt_of_heap b2) (ne_types b2 b1 (by decide))).trans b2, t2⟩, ⟨c3, (hk.block _ (lt_of_heap b3) (ne_types b3 b1 (by decide))).trans b3, t3⟩⟩
  exact ⟨rfl, hs.1, hs.2⟩
theorem clrZ_in (h : Dr base w p cB zB sB A n s k ways shV outV st) (hW : 0 ≤ st.W) (hn : n ≤ 36) (d1 : List Dot) (hd1 : d1 = st.dots) (hlen : (d1.length : Int) = st.W * st.H) (v : Int) (by_ : Bool) :
    Calls Tryz.prog 82 #[.pointer (some ⟨p, 10, none⟩), .int .u16 v, .bool by_] w fun e w' =>
      e = .returned (.tuple #[]) ∧ Dr base w' p cB zB sB A n s k ways shV outV { st with dots := d1.map (setZ v) } ∧ Low base w w' := by
  subst hd1
  obtain ⟨fc, fz, fs, ho⟩ := h.open_
  obtain ⟨c1, b1, t1⟩ := ho.c.blk
  obtain ⟨c2, b2, t2⟩ := ho.z.blk
  obtain ⟨c3, b3, t3⟩ := ho.s.blk
  refine (clear16 p 10 zB n A fz v by_ w ho.z (ne_types b2 h.bp (by decide)) hn).mono ?_
  rintro e w' ⟨rfl, ⟨cur', hb', hT'⟩, hk⟩
  have hs := h.surf hk (fun g e => .inr (.inl e)) (st.dots.map (setZ v)) ⟨h.sf.hA, h.sf.hn, _, _, _, ho.pix.dep hW hlen v, ⟨c1, (hk.block _ (lt_of_heap b1) (ne_types b1 b2 (by decide))).trans b1, t1⟩, ⟨cur', hb', hT'⟩, ⟨c3, (hk.block _ (lt_of_heap b3) (ne_types b3 b2 (by decide))).trans b3, t3⟩⟩
  exact ⟨rfl, hs.1, hs.2⟩
theorem clrS_in (h : Dr base w p cB zB sB A n s k ways shV outV st) (hW : 0 ≤ st.W) (hn : n ≤ 36) (d1 : List Dot) (hd1 : d1 = st.dots) (hlen : (d1.length : Int) = st.W * st.H) (v : Int) (by_ : Bool) :
    Calls Tryz.prog 84 #[.pointer (some ⟨p, 12, none⟩), .int .u8 v, .bool by_] w fun e w' =>
      e = .returned (.tuple #[]) ∧ Dr base w' p cB zB sB A n s k ways shV outV { st with dots := d1.map (setS v) } ∧ Low base w w' := by
  subst hd1
  obtain ⟨fc, fz, fs, ho⟩ := h.open_
  obtain ⟨c1, b1, t1⟩ := ho.c.blk
  obtain ⟨c2, b2, t2⟩ := ho.z.blk
  obtain ⟨c3, b3, t3⟩ := ho.s.blk
  refine (clear8 p 12 sB n A fs v by_ w ho.s (ne_types b3 h.bp (by decide)) hn).mono ?_
  rintro e w' ⟨rfl, ⟨cur', hb', hT'⟩, hk⟩
  have hs := h.surf hk (fun g e => .inr (.inr e)) (st.dots.map (setS v)) ⟨h.sf.hA, h.sf.hn, _, _, _, ho.pix.ste hW hlen v, ⟨c1, (hk.block _ (lt_of_heap b1) (ne_types b1 b3 (by decide))).trans b1, t1⟩, ⟨c2, (hk.block _ (lt_of_heap b2) (ne_types b2 b3 (by decide))).trans b2, t2⟩, ⟨cur', hb', hT'⟩⟩
  exact ⟨rfl, hs.1, hs.2⟩
theorem n36 (h : Dr base w p cB zB sB A n s k ways shV outV st) {K : Int} (hok : st.Ok K) : n ≤ 36 := by
  have hA := h.sf.hA
  have hn := h.sf.hn
  have h1 := hok.W1
  have h2 := hok.H1
  rw [hn]
  exact Nat.mul_le_mul (show A ≤ 6 by omega) (show ((st.H + 3) / 4).toNat ≤ 6 by omega)
theorem clear_eq (st : St) (l : List Int) (f1 f2 f3 : Dot → Dot) (h : ∀ d, clearDot l d = f3 (f2 (f1 d))) : st.clear l = { st with dots := ((st.dots.map f1).map f2).map f3 } := by
  unfold St.clear
  rw [List.map_map, List.map_map]
  congr 2
  funext d
  exact h d
end
end Go.Proofs.YthcikinkicpicaaGreatDoor
