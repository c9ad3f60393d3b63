import Derived.Scope
import Derived.Test.YthcikinkicpicaaGreatDoorA14
import Derived.Test.YthcikinkicpicaaGreatDoorA16
import Derived.Test.YthcikinkicpicaaGreatDoorA24
import Derived.Test.YthcikinkicpicaaGreatDoorA22

namespace Go.Proofs.YthcikinkicpicaaGreatDoor
open Go.RowKit Go.Shelf
attribute [local go_sem] Oper.semAt_some

section
variable (base p cB zB sB A n : Nat) (s : ByteArray) (k : Int) (ways : Wy) (shV outV : Value) (st : St) (q : Nat) (t : Tr) (w : World)

/-- What lies under the call stays: so does the drawer. -/
theorem Dr.under {base p cB zB sB A n : Nat} {s : ByteArray} {k : Int} {ways : Wy} {shV outV : Value} {st st1 : St} {w A' B : World} (h : Dr base w p cB zB sB A n s k ways shV outV st) (h1 : Dr base A' p cB zB sB A n s k ways shV outV st1) (eS : st1.sh = st.sh) (eO : st1.out = st.out)
    (hk : Kept (PS p cB zB sB) w B) (hlow : ∀ i, i < w.heap.size → B.heap[i]? = A'.heap[i]?) : Dr base B p cB zB sB A n s k ways shV outV st1 := by
  obtain ⟨_, _, _, _, ⟨c1, b1, t1⟩, ⟨c2, b2, t2⟩, c3, b3, t3⟩ := h.sf.ex
  have no : ∀ {g : Nat} {cu : Array Value} {T : TypeId}, w.heap[g]? = some (.cells cu T (0, 0)) → T ≠ 94 → T ≠ 196 → T ≠ 201 → T ≠ 206 → ¬ (PS p cB zB sB g) := by
    rintro g cu T hg n0 n1 n2 n3 (rfl | rfl | rfl | rfl)
    · exact ne_types hg h.bp n0 rfl
    · exact ne_types hg b1 n1 rfl
    · exact ne_types hg b2 n2 rfl
    · exact ne_types hg b3 n3 rfl
  obtain ⟨fc, fz, fs, hp, ⟨d1, e1, u1⟩, ⟨d2, e2, u2⟩, d3, e3, u3⟩ := h1.sf.ex
  refine ⟨(hlow _ (lt_of_heap h.bp)).trans h1.bp, ⟨h1.sf.hA, h1.sf.hn, fc, fz, fs, hp, ⟨d1, (hlow _ (lt_of_heap b1)).trans e1, u1⟩, ⟨d2, (hlow _ (lt_of_heap b2)).trans e2, u2⟩, d3, (hlow _ (lt_of_heap b3)).trans e3, u3⟩, ?_, ?_, h1.b0, h1.b1, h1.b2, h1.b3, (hlow _ (lt_of_heap h.mp)).trans h1.mp, h1.b4⟩
  · rw [eS]; exact h.sh.kept hk (fun g cur hg => no hg (by decide) (by decide) (by decide) (by decide))
  · rw [eO]; exact owns_kept h.out hk (fun g cur hg => no hg (by decide) (by decide) (by decide) (by decide))

theorem tr_not_ps {base p cB zB sB A n : Nat} {s : ByteArray} {k : Int} {ways : Wy} {shV outV : Value} {st : St} {w : World} (h : Dr base w p cB zB sB A n s k ways shV outV st) {g : Nat} {cu : Array Value} (hg : w.heap[g]? = some (.cells cu 165 (0, 0))) : ¬ PS p cB zB sB g := by
  obtain ⟨_, _, _, _, ⟨c1, b1, t1⟩, ⟨c2, b2, t2⟩, c3, b3, t3⟩ := h.sf.ex
  rintro (rfl | rfl | rfl | rfl)
  · exact ne_types hg h.bp (by decide) rfl
  · exact ne_types hg b1 (by decide) rfl
  · exact ne_types hg b2 (by decide) rfl
  · exact ne_types hg b3 (by decide) rfl
theorem ps_lt {base p cB zB sB A n : Nat} {s : ByteArray} {k : Int} {ways : Wy} {shV outV : Value} {st : St} {w : World} (h : Dr base w p cB zB sB A n s k ways shV outV st) : ∀ g, PS p cB zB sB g → g < w.heap.size := by
  obtain ⟨_, _, _, _, ⟨c1, b1, t1⟩, ⟨c2, b2, t2⟩, c3, b3, t3⟩ := h.sf.ex
  have h0 := lt_of_heap h.bp
  have h1 := lt_of_heap b1
  have h2 := lt_of_heap b2
  have h3 := lt_of_heap b3
  rintro g (rfl | rfl | rfl | rfl) <;> assumption

/-- A tile in which a triangle has a part. -/
structure TileIn (st : St) (bd : Bool) (t : Tr) (kx ky : Nat) : Prop where
  ax : kx % 4 = 0
  ay : ky % 4 = 0
  c1 : 1 ≤ (partBx bd st t ((kx : Int), (ky : Int))).c
  r1 : 1 ≤ (partBx bd st t ((kx : Int), (ky : Int))).r

theorem TileIn.part {st : St} {bd : Bool} {t : Tr} {kx ky : Nat} (h : TileIn st bd t kx ky) {K : Int} (hok : st.Ok K) : ∃ x y nx ny : Nat, partBx bd st t ((kx : Int), (ky : Int)) = ⟨x, y, nx, ny⟩ ∧ (∀ A n, PartIn st A n x y nx ny) ∧ (kx : Int) < st.W ∧ (ky : Int) < st.H ∧ nx ≤ 4 ∧ ny ≤ 4 := by
  obtain ⟨ax, ay, c1, r1⟩ := h
  have hsub : ∀ X Y : Int, (partBx bd st t ((kx : Int), (ky : Int))).has (X, Y) → (winBx st).has (X, Y) ∧ (tileBx ((kx : Int), (ky : Int))).has (X, Y) := by
    intro X Y hh
    unfold partBx at hh
    rw [meet_has] at hh
    exact ⟨look_sub hh.1, hh.2⟩
  generalize hP : partBx bd st t ((kx : Int), (ky : Int)) = P at *
  obtain ⟨x, y, c, r⟩ := P
  unfold Bx.has winBx tileBx at hsub
  dsimp only at c1 r1 hsub
  have w0 := hok.wx0
  have w1 := hok.wy0
  have w2 := hok.wx1
  have w3 := hok.wy1
  have a1 := hsub x y (by omega)
  have a2 := hsub (x + c - 1) (y + r - 1) (by omega)
  refine ⟨x.toNat, y.toNat, c.toNat, r.toNat, ?_, fun A n => ⟨by omega, by omega, by omega, by omega, fun X Y h1 h2 h3 h4 => by omega⟩, by omega, by omega, by omega, by omega⟩
  rw [Int.toNat_of_nonneg (by omega), Int.toNat_of_nonneg (by omega), Int.toNat_of_nonneg (by omega), Int.toNat_of_nonneg (by omega)]

/-- The call's boxes. -/
structure TB (w : World) (p q kx ky : Nat) (W : World) : Prop where
  b0 : W.heap[w.heap.size]? = some (.cells #[.pointer (some ⟨p, 0, none⟩)] 61 (0, 0))
  b1 : W.heap[w.heap.size + 1]? = some (.cells #[.pointer (some ⟨q, 0, none⟩)] 132 (0, 0))
  b2 : W.heap[w.heap.size + 2]? = some (.cells #[.int .i64 kx, .int .i64 ky, .int .i64 4, .int .i64 4] 66 (0, 0))
theorem TB.next {w : World} {p q kx ky : Nat} {W W' : World} {S : Nat → Prop} (h : TB w p q kx ky W) (hk : Kept S W W') (hS : ∀ g, S g → g < w.heap.size) : TB w p q kx ky W' :=
  ⟨(hk.block _ (lt_of_heap h.b0) (fun e => by have := hS _ e; omega)).trans h.b0, (hk.block _ (lt_of_heap h.b1) (fun e => by have := hS _ e; omega)).trans h.b1, (hk.block _ (lt_of_heap h.b2) (fun e => by have := hS _ e; omega)).trans h.b2⟩
theorem TB.below {w : World} {p q kx ky : Nat} {W W' : World} {m : Nat} (h : TB w p q kx ky W) (hb : Below m W W') (hm : w.heap.size + 3 ≤ m) : TB w p q kx ky W' :=
  ⟨(hb.block _ (by omega)).trans h.b0, (hb.block _ (by omega)).trans h.b1, (hb.block _ (by omega)).trans h.b2⟩

/-- The call's boxes, and what lay there before. -/
structure TBB (w : World) (p q kx ky : Nat) (W : World) : Prop where
  tb : TB w p q kx ky W
  lo : Below w.heap.size w W
theorem TBB.sz {w : World} {p q kx ky : Nat} {W : World} (h : TBB w p q kx ky W) : w.heap.size + 3 ≤ W.heap.size := by have := lt_of_heap h.tb.b2; omega
theorem TBB.next {w : World} {p q kx ky : Nat} {W W' : World} (h : TBB w p q kx ky W) (hb : Below W.heap.size W W') : TBB w p q kx ky W' := ⟨h.tb.below hb h.sz, h.lo.trans (hb.mono h.lo.size)⟩
theorem TBB.alloc {w : World} {p q kx ky : Nat} {W : World} (h : TBB w p q kx ky W) (ob : Obj) : TBB w p q kx ky (W.alloc ob) := h.next ((Below.refl _ _).alloc (Nat.le_refl _) ob)
theorem TBB.ne {w : World} {p q kx ky : Nat} {W : World} (h : TBB w p q kx ky W) : W.heap.size ≠ w.heap.size ∧ W.heap.size ≠ w.heap.size + 1 ∧ W.heap.size ≠ w.heap.size + 2 := by have := h.sz; omega
/-- What is held of them. -/
def TBH (w : World) (p q kx ky : Nat) (w' : World) : Prop := w'.cell? ⟨w.heap.size, 0, none⟩ = some (.pointer (some ⟨p, 0, none⟩)) ∧ w'.cell? ⟨w.heap.size + 1, 0, none⟩ = some (.pointer (some ⟨q, 0, none⟩)) ∧
      w'.cell? ⟨w.heap.size + 2, 0, none⟩ = some (.int .i64 kx) ∧ w'.cell? ⟨w.heap.size + 2, 1, none⟩ = some (.int .i64 ky) ∧ w'.cell? ⟨w.heap.size + 2, 2, none⟩ = some (.int .i64 4) ∧ w'.cell? ⟨w.heap.size + 2, 3, none⟩ = some (.int .i64 4)
theorem TBB.held {w : World} {p q kx ky : Nat} {W : World} (h : TBB w p q kx ky W) : TBH w p q kx ky W := by
  have c2 := cell_of h.tb.b2
  exact ⟨cell_of h.tb.b0 0, cell_of h.tb.b1 0, c2 0, c2 1, c2 2, c2 3⟩

theorem TBB.put4 {w : World} {p q kx ky : Nat} {W : World} (h : TBB w p q kx ky W) {C : Nat} (hC : w.heap.size + 3 ≤ C) {z0 z1 z2 z3 : Value} (hz : W.heap[C]? = some (.cells #[z0, z1, z2, z3] 66 (0, 0))) (a b c d : Value) :
    TBB w p q kx ky ((((W.setCell ⟨C, 0, none⟩ a).setCell ⟨C, 1, none⟩ b).setCell ⟨C, 2, none⟩ c).setCell ⟨C, 3, none⟩ d) ∧ ((((W.setCell ⟨C, 0, none⟩ a).setCell ⟨C, 1, none⟩ b).setCell ⟨C, 2, none⟩ c).setCell ⟨C, 3, none⟩ d).heap[C]? = some (.cells #[a, b, c, d] 66 (0, 0)) := by
  have hb : Below (w.heap.size + 3) W ((((W.setCell ⟨C, 0, none⟩ a).setCell ⟨C, 1, none⟩ b).setCell ⟨C, 2, none⟩ c).setCell ⟨C, 3, none⟩ d) := ((((Below.refl _ _).setCell hC _).setCell hC _).setCell hC _).setCell hC _
  refine ⟨⟨h.tb.below hb (Nat.le_refl _), h.lo.trans (hb.mono (by omega))⟩, ?_⟩
  exact (heap_set_same (heap_set_same (heap_set_same (heap_set_same hz 0 a) 1 b) 2 c) 3 d).trans rfl

/-- A tile of depths is joined: the pane is as it was. -/
theorem joinTile {base p cB zB sB A n : Nat} {s : ByteArray} {k : Int} {ways : Wy} {shV outV : Value} {st : St} {K : Int} (hok : st.Ok K) {kx ky : Nat} (ax : kx % 4 = 0) (ay : ky % 4 = 0) (hkW : (kx : Int) < st.W) (hkH : (ky : Int) < st.H) :
    ∃ mx my : Nat, (⟨0, 0, st.W, st.H⟩ : Bx).meet (tileBx ((kx : Int), (ky : Int))) = ⟨kx, ky, mx, my⟩ ∧ ∀ W, Dr base W p cB zB sB A n s k ways shV outV st →
      Calls Tryz.prog 104 #[.pointer (some ⟨p, 10, none⟩), boxV kx ky mx my] W fun e w' => e = .returned (.tuple #[]) ∧ Dr base w' p cB zB sB A n s k ways shV outV st ∧ Kept (· = zB) W w' := by
  have W1 := hok.W1
  have H1 := hok.H1
  have W0 := hok.W0
  have H0 := hok.H0
  refine ⟨(min 4 (st.W - kx)).toNat, (min 4 (st.H - ky)).toNat, ?_, ?_⟩
  · unfold Bx.meet tileBx
    simp only [Bx.mk.injEq]
    omega
  intro W h
  obtain ⟨fc, fz, fs, ho⟩ := h.open_
  obtain ⟨_, _, _, _, ⟨c1, b1, t1⟩, ⟨c2, b2, t2⟩, c3, b3, t3⟩ := h.sf.ex
  have hin : ∀ X Y, kx ≤ X → X < kx + (min 4 (st.W - kx)).toNat → ky ≤ Y → Y < ky + (min 4 (st.H - ky)).toNat → tNo A X Y < n ∧ tNo A X Y = tNo A kx ky := by
    intro X Y h1 h2 h3 h4
    refine ⟨(in_tile h.sf.hA h.sf.hn (X := X) (Y := Y) (by omega) (by omega) W1 H1).1, ?_⟩
    unfold tNo
    rw [show X / 4 = kx / 4 by omega, show Y / 4 = ky / 4 by omega]
  obtain ⟨hn, hA6, hn36⟩ := in_tile h.sf.hA h.sf.hn hkW hkH W1 H1
  refine (join16 p 10 zB n A fz kx ky _ _ W ho.z (ne_types b2 h.bp (by decide)) (by omega) (by omega) (by omega) (by omega) hA6 hn36 hin).mono ?_
  rintro e w' ⟨rfl, ⟨f', hS, hf1, hf2⟩, hk⟩
  refine ⟨rfl, ?_, hk⟩
  have nc : cB ≠ zB := ne_types b1 b2 (by decide)
  have ns : sB ≠ zB := ne_types b3 b2 (by decide)
  obtain ⟨cz, hz1, hz2⟩ := hS.blk
  obtain ⟨cc, hc1, hc2⟩ := ho.c.blk
  obtain ⟨cs, hs1, hs2⟩ := ho.s.blk
  refine (h.surf hk (fun g e => .inr (.inl e)) st.dots ⟨h.sf.hA, h.sf.hn, fc, f', fs, ?_, ⟨cc, (hk.block _ (lt_of_heap hc1) nc).trans hc1, hc2⟩, ⟨cz, hz1, hz2⟩, ⟨cs, (hk.block _ (lt_of_heap hs1) ns).trans hs1, hs2⟩⟩).1
  intro X Y hX hY
  rw [show (({ st with dots := st.dots } : St).dots) = st.dots from rfl]
  have hX' : (X : Int) < st.W := hX
  have hY' : (Y : Int) < st.H := hY
  show st.dots.getD ((Y : Int) * st.W + X).toNat dot0 = _
  rw [ho.pix X Y hX' hY']
  have e : f' (tNo A X Y) (iNo X Y) = fz (tNo A X Y) (iNo X Y) := by
    by_cases ht : tNo A X Y = tNo A kx ky
    · have hAx : X / 4 < A := by have := h.sf.hA; omega
      have hAk : kx / 4 < A := by have := h.sf.hA; omega
      have hq : Y / 4 = ky / 4 := by
        unfold tNo at ht
        have h1 : (Y / 4 * A + X / 4) / A = Y / 4 := by rw [Nat.add_comm, Nat.add_mul_div_right _ _ (by omega), Nat.div_eq_of_lt hAx, Nat.zero_add]
        have h2 : (ky / 4 * A + kx / 4) / A = ky / 4 := by rw [Nat.add_comm, Nat.add_mul_div_right _ _ (by omega), Nat.div_eq_of_lt hAk, Nat.zero_add]
        rw [← h1, ← h2, ht]
      have hqx : X / 4 = kx / 4 := by
        unfold tNo at ht
        rw [hq] at ht
        omega
      exact hf2 X Y (by omega) (by omega) (by omega) (by omega)
    · exact hf1 _ _ ht
  rw [e]

theorem TBH.of {w : World} {p q kx ky : Nat} {W : World} (h : TB w p q kx ky W) : TBH w p q kx ky W := by
  have c2 := cell_of h.b2
  exact ⟨cell_of h.b0 0, cell_of h.b1 0, c2 0, c2 1, c2 2, c2 3⟩
/-- What drawTile leaves. -/
def DonePost (w : World) (pl : Prop) (kx ky : Nat) (w' : World) : Prop := (∃ st', Near pl (tileOp st.wx st.wy st.ww st.wh t ((kx : Int), (ky : Int)) st) st' ∧ st.work ≤ st'.work ∧ Dr base w' p cB zB sB A n s k ways shV outV st') ∧ Kept (PS p cB zB sB) w w'

/-- While a tile's pixels are drawn. -/
structure TpI (pl : Prop) (w : World) (kx ky : Nat) (st : St) (px : List (Int × Int)) (W : World) : Prop where
  dr : ∃ st', Near pl (px.foldl t.px st) st' ∧ st.work ≤ st'.work ∧ Dr base W p cB zB sB A n s k ways shV outV st'
  hq : W.heap[q]? = some (.cells (trT t) 165 (0, 0))
  tb : TB w p q kx ky W
  kp : Kept (PS p cB zB sB) w W

theorem TpI.under {pl : Prop} {base p cB zB sB A n : Nat} {s : ByteArray} {k : Int} {ways : Wy} {shV outV : Value} {st : St} {q : Nat} {t : Tr} {w : World} {kx ky : Nat} {px : List (Int × Int)} {W B : World} (h : Dr base w p cB zB sB A n s k ways shV outV st) (hq : q < w.heap.size) (hi : TpI base p cB zB sB A n s k ways shV outV q t pl w kx ky st px W) (m : Nat) (hm : w.heap.size + 3 ≤ m) (hb : Below m W B) :
    TpI base p cB zB sB A n s k ways shV outV q t pl w kx ky st px B := by
  obtain ⟨⟨st', hn, hw, hd⟩, hq', tb, kp⟩ := hi
  have hsame := fold_keeps t.a t.b t.c t.ar px st
  have hns := hn.same
  have kpB : Kept (PS p cB zB sB) w B := ⟨hb.os.trans kp.os, hb.tape.trans kp.tape, hb.output.trans kp.output, Nat.le_trans kp.size hb.size, fun i hi hs' => (hb.block i (by omega)).trans (kp.block i hi hs')⟩
  exact ⟨⟨st', hn, hw, h.under hd (hns.2.2.2.2.2.2.2.2.1.trans hsame.2.2.1) (hns.2.2.2.2.2.2.2.2.2.2.trans hsame.2.2.2) kpB (fun i hi => hb.block i (by omega))⟩, (hb.block _ (by omega)).trans hq', tb.below hb hm, kpB⟩

set_option maxRecDepth 100000 in
set_option maxHeartbeats 1000000 in
theorem drawTile_in (pl : Prop) (hpl : pl → ∀ x, useB ways.v x = false) (K : Int) (h : Dr base w p cB zB sB A n s k ways shV outV st) (hok : st.Ok K) (hK : K + 300 ≤ 1000000000000000)
    (ht : t.Ok) (hq : w.heap[q]? = some (.cells (trT t) 165 (0, 0))) (kx ky : Nat) (hT : TileIn st (useB ways.v 128) t kx ky) :
    Calls Tryz.prog 68 #[.pointer (some ⟨p, 0, none⟩), .pointer (some ⟨q, 0, none⟩), boxV kx ky 4 4] w fun e w' =>
      e = .returned (.tuple #[]) ∧ (∃ st', Near pl (tileOp st.wx st.wy st.ww st.wh t ((kx : Int), (ky : Int)) st) st' ∧ st.work ≤ st'.work ∧ Dr base w' p cB zB sB A n s k ways shV outV st') ∧ Kept (PS p cB zB sB) w w' := by
  have lp := lt_of_heap h.bp
  have lq := lt_of_heap hq
  have W1 := hok.W1
  have H1 := hok.H1
  obtain ⟨x, y, nx, ny, eP, hPI, hkW, hkH, hnx, hny⟩ := hT.part hok
  have pi := hPI A n
  have px1 := pi.x1
  have py1 := pi.y1
  have hop : ∀ s' : St, s'.W = st.W → (rowsL (x : Int) nx ny y).foldl t.px s' = tileOp st.wx st.wy st.ww st.wh t ((kx : Int), (ky : Int)) s' := by
    intro s' hs
    rw [← part_fold (useB ways.v 128) st K hok t ht ((kx : Int), (ky : Int)) s' hs, eP]
    rfl
  have hps := ps_lt h
  have HB0 : Hid (TBB w p q kx ky (((w.alloc (.cells #[.pointer (some ⟨p, 0, none⟩)] 61)).alloc (.cells #[.pointer (some ⟨q, 0, none⟩)] 132)).alloc (.cells #[.int .i64 kx, .int .i64 ky, .int .i64 4, .int .i64 4] 66))) := by
    refine ⟨⟨?_, ?_, ?_⟩, (((Below.refl _ _).alloc (Nat.le_refl _) _).alloc (by simp) _).alloc (by simp; omega) _⟩
    · exact (heap_alloc_old (by simp; omega) _).trans ((heap_alloc_old (by simp) _).trans (heap_alloc_new _ _))
    · exact (heap_alloc_old (by simp) _).trans (heap_alloc_at (by simp) _)
    · exact heap_alloc_at (by simp) _
  have HL : Hid (∀ W, TBB w p q kx ky W → Calls Tryz.prog 89 #[.pointer (some ⟨p, 0, none⟩), .pointer (some ⟨q, 0, none⟩)] W fun e w' => e = .returned (bxV (lookBx (useB ways.v 128) st t)) ∧ TBB w p q kx ky w' ∧ Below W.heap.size W w') := by
    intro W hW
    refine (lookedAt_in base p cB zB sB A n s k ways shV outV st W (h.frame hW.lo) K hok q t ht ((hW.lo.block _ lq).trans hq)).mono ?_
    rintro e w' ⟨rfl, hb'⟩
    exact ⟨rfl, hW.next hb', hb'⟩
  have HM : Hid (∀ W, TBB w p q kx ky W → Calls Tryz.prog 90 #[bxV (lookBx (useB ways.v 128) st t), .agg #[.int .i64 kx, .int .i64 ky, .int .i64 4, .int .i64 4]] W fun e w' => e = .returned (boxV x y nx ny) ∧ TBB w p q kx ky w' ∧ Below W.heap.size W w') := by
    intro W hW
    refine (meet_any (lookBx (useB ways.v 128) st t) (tileBx ((kx : Int), (ky : Int))) (look_in _ st K hok t ht) (tile_in _ (by dsimp only; omega) (by dsimp only; omega) (by dsimp only; omega) (by dsimp only; omega)) W).mono ?_
    rintro e w' ⟨rfl, hb'⟩
    refine ⟨?_, hW.next hb', hb'⟩
    show Ending.returned (bxV (partBx (useB ways.v 128) st t ((kx : Int), (ky : Int)))) = _
    rw [eP]
  refine (callsIn_wide (n := 0)).1 ?_
  refine callsIn_of_wp_marks Tryz.func68 rfl trivial ?_ rfl
  simp only [Tryz.ntmps68, List.size_toArray, List.length_cons, List.length_nil, Nat.reduceAdd, Nat.reduceSub, Array.replicate_succ, Array.replicate_zero, List.push_toArray, List.append_toArray, List.nil_append, List.cons_append]
  gi_wp2_with fail
  refine gen_w (TBB w p q kx ky) (Code.wpIn Fence.wide 0 _ _ _ _) _ HB0.out ?_
  intro W0 hB0
  have HW0 : Hid (TBB w p q kx ky W0.drew) := hB0.next (Below.refl W0.heap.size W0).drew
  obtain ⟨k0, k1, k2, k3, k4, k5⟩ := hB0.held
  have s0 := hB0.sz
  obtain ⟨n00, n01, n02⟩ := hB0.ne
  clear hB0 HB0
  refine (wpIn_wide (n := 0)).2 (Code.wp_mono (Q := Exit.then (fun a' W' => ∃ C : Nat, a' = { tmps := #[.pointer (some ⟨p, 0, none⟩), .pointer (some ⟨q, 0, none⟩), boxV kx ky 4 4, .pointer (some ⟨w.heap.size, 0, none⟩), .pointer (some ⟨w.heap.size + 1, 0, none⟩), .pointer (some ⟨w.heap.size + 1 + 1, 0, none⟩), .pointer (some ⟨C, 0, none⟩), undef, undef, .pointer (some ⟨p, 0, none⟩), .pointer (some ⟨q, 0, none⟩), bxV (lookBx (useB ways.v 128) st t), .agg #[.int .i64 kx, .int .i64 ky, .int .i64 4, .int .i64 4], boxV x y nx ny, undef, undef, undef, undef, undef, undef, undef, undef, undef, undef, undef, undef, undef, undef, undef, undef, undef, undef, undef, undef, undef, undef, undef, undef, undef, undef, undef, undef, undef, undef, undef, undef, undef, undef], defers := [] } ∧ w.heap.size + 3 ≤ C ∧ TBB w p q kx ky W' ∧ W'.heap[C]? = some (.cells #[.int .i64 x, .int .i64 y, .int .i64 nx, .int .i64 ny] 66 (0, 0))) (fun _ _ _ => False)) ?mono ?_)
  case mono =>
    intro e a' W' h'
    cases e
    case normal =>
      obtain ⟨C, rfl, hC, hB, hP⟩ := h'
      have HU : Hid (∀ (way : Int) (W : World), TBB w p q kx ky W → Calls Tryz.prog 80 #[.pointer (some ⟨p, 14, none⟩), .int .i64 way] W fun e w' => e = .returned (.bool (useB ways.v way)) ∧ w' = W) := fun way W hW => Dr.uses base p cB zB sB A n s k ways shV outV st W (h.frame hW.lo) way
      have HDd : Hid (∀ W, TBB w p q kx ky W → Calls Tryz.prog 101 #[.pointer (some ⟨p, 0, none⟩), .pointer (some ⟨q, 0, none⟩), boxV x y nx ny] W fun e w' =>
          ∃ r, e = .returned (.bool r) ∧ (r = true → ∃ m, 0 ≤ m ∧ (rowsL (x : Int) nx ny y).foldl t.px st = { st with work := st.work + m }) ∧ Below W.heap.size W w') := fun W hW => depthsDecide_in base p cB zB sB A n s k ways shV outV st W (h.frame hW.lo) K hok q t ht ((hW.lo.block _ lq).trans hq) x y nx ny pi
      have HEnd0 : Hid (useB ways.v 4 = true → (∃ m, 0 ≤ m ∧ (rowsL (x : Int) nx ny y).foldl t.px st = { st with work := st.work + m }) → ∀ W, TBB w p q kx ky W →
          (∃ st', Near pl (tileOp st.wx st.wy st.ww st.wh t ((kx : Int), (ky : Int)) st) st' ∧ st.work ≤ st'.work ∧ Dr base W p cB zB sB A n s k ways shV outV st') ∧ Kept (PS p cB zB sB) w W) := by
        rintro hu ⟨m, m0, hm⟩ W hW
        refine ⟨⟨st, near_idle (fun e => by rw [hpl e] at hu; cases hu) m0 ?_, Int.le_refl _, h.frame hW.lo⟩, (Kept.refl _ w).below hW.lo⟩
        rw [← hop st rfl]; exact hm
      have HI0 : Hid (∀ W, TBB w p q kx ky W → TpI base p cB zB sB A n s k ways shV outV q t pl w kx ky st [] W) := fun W hW => ⟨⟨st, Near.refl _ _, Int.le_refl _, h.frame hW.lo⟩, (hW.lo.block _ lq).trans hq, hW.tb, (Kept.refl _ w).below hW.lo⟩
      have HU4 := fun W hW => HU.out 4 W hW
      generalize hu4 : useB ways.v 4 = u4 at *
      have HU4' : Hid (∀ (W : World), TBB w p q kx ky W → Calls Tryz.prog 80 #[.pointer (some ⟨p, 14, none⟩), .int .i64 4] W fun e w' => e = .returned (.bool u4) ∧ w' = W) := HU4
      clear HU4 hu4
      obtain ⟨k0, k1, k2, k3, k4, k5⟩ := hB.held
      have cP := cell_of hP
      have HB : Hid (TBB w p q kx ky W') := hB
      have HP : Hid (W'.heap[C]? = some (.cells #[.int .i64 x, .int .i64 y, .int .i64 nx, .int .i64 ny] 66 (0, 0))) := hP
      clear hB hP
      simp only [Exit.then]
      have HPx : Hid (∀ (pre : List (Int × Int)) (t1 : Int × Int) (rest : List (Int × Int)) (W2 : World), rowsL (x : Int) nx ny y = pre ++ t1 :: rest → TpI base p cB zB sB A n s k ways shV outV q t pl w kx ky st pre W2 →
          Calls Tryz.prog 103 #[.pointer (some ⟨p, 0, none⟩), .pointer (some ⟨q, 0, none⟩), .int .i64 t1.1, .int .i64 t1.2] W2 fun e W3 => e = .returned (.tuple #[]) ∧ TpI base p cB zB sB A n s k ways shV outV q t pl w kx ky st (pre ++ [t1]) W3 ∧ Kept (PS p cB zB sB) W2 W3) := by
        intro pre t1 rest W2 hx hi
        have hmem : t1 ∈ rowsL (x : Int) nx ny y := by rw [hx]; simp
        rw [mem_rowsL] at hmem
        obtain ⟨X, Y, rfl⟩ : ∃ X Y : Nat, t1 = ((X : Int), (Y : Int)) := ⟨t1.1.toNat, t1.2.toNat, Prod.ext (by show t1.1 = _; omega) (by show t1.2 = _; omega)⟩
        dsimp only at hmem ⊢
        have hlen : pre.length ≤ 16 := by
          have h1 := congrArg List.length hx
          rw [rowsL_length, List.length_append, List.length_cons] at h1
          have : nx * ny ≤ 4 * 4 := Nat.mul_le_mul hnx hny
          omega
        obtain ⟨⟨st', hn', hw', hd'⟩, hq', tb', kp'⟩ := hi
        have hfk := fold_keeps t.a t.b t.c t.ar pre st
        have hfo := fold_ok t.a t.b t.c t.ar ht.a ht.b ht.c ht.ar ht.pos pre st K hok
        have hns := hn'.same
        have hw0 := hok.work0
        have hok' : st'.Ok (K + 16 * pre.length) := hn'.ok hfo (by omega)
        refine (drawPixel_in pl (fun e => hpl e 8) q t ht st' _ X Y W2 hd' hok' (by omega) (by rw [hns.1, show (pre.foldl t.px st).W = st.W from hfk.1]; omega) (by rw [hns.2.1, show (pre.foldl t.px st).H = st.H from hfk.2.1]; omega) hq').mono ?_
        rintro e W3 ⟨rfl, ⟨st3, hn3, hw3, hd3⟩, hk3⟩
        refine ⟨rfl, ⟨⟨st3, ?_, by omega, hd3⟩, (hk3.block q (lt_of_heap hq') (tr_not_ps hd' hq')).trans hq', tb'.next hk3 hps, kp'.trans hk3⟩, hk3⟩
        rw [List.foldl_append]
        exact (hn'.px t.a t.b t.c t.ar ((X : Int), (Y : Int))).trans hn3
      have HFin : Hid (∀ (D : Nat) (W2 : World), w.heap.size + 3 ≤ D → TpI base p cB zB sB A n s k ways shV outV q t pl w kx ky st (rowsL (x : Int) nx ny y) W2 → W2.heap[D]? = some (.deferred (some [])) →
          (Calls Tryz.prog 80 #[.pointer (some ⟨p, 14, none⟩), .int .i64 32] W2 fun e w' => e = .returned (.bool (useB ways.v 32)) ∧ w' = W2) ∧ (∀ f, DonePost base p cB zB sB A n s k ways shV outV st t w pl kx ky (W2.putObj D f)) ∧
          ∃ mx my : Nat, (∀ W, Below W2.heap.size W2 W → Calls Tryz.prog 105 #[.pointer (some ⟨p, 2, none⟩)] W fun e w' => e = .returned (bxV ⟨0, 0, st.W, st.H⟩) ∧ Below W2.heap.size W2 w' ∧ TBH w p q kx ky w') ∧
            (∀ W, Below W2.heap.size W2 W → Calls Tryz.prog 90 #[bxV ⟨0, 0, st.W, st.H⟩, .agg #[.int .i64 kx, .int .i64 ky, .int .i64 4, .int .i64 4]] W fun e w' => e = .returned (boxV kx ky mx my) ∧ Below W2.heap.size W2 w' ∧ TBH w p q kx ky w') ∧
            (∀ W, Below W2.heap.size W2 W → Calls Tryz.prog 104 #[.pointer (some ⟨p, 10, none⟩), boxV kx ky mx my] W fun e w' => e = .returned (.tuple #[]) ∧ w'.heap[D]? = some (.deferred (some [])) ∧ (∀ f, DonePost base p cB zB sB A n s k ways shV outV st t w pl kx ky (w'.putObj D f)) ∧ TBH w p q kx ky w')) := by
        intro D W2 hD hi hDf
        obtain ⟨⟨st', hn', hw', hd'⟩, hq', tb', kp'⟩ := hi
        have hfk := fold_keeps t.a t.b t.c t.ar (rowsL (x : Int) nx ny y) st
        have hfo := fold_ok t.a t.b t.c t.ar ht.a ht.b ht.c ht.ar ht.pos (rowsL (x : Int) nx ny y) st K hok
        have hns := hn'.same
        have hw0 := hok.work0
        have hok' := hn'.ok hfo (by omega)
        have eW : st'.W = st.W := hns.1.trans hfk.1
        have eH : st'.H = st.H := hns.2.1.trans hfk.2.1
        have eS : st'.sh = st.sh := hns.2.2.2.2.2.2.2.2.1.trans hfk.2.2.1
        have eO : st'.out = st.out := hns.2.2.2.2.2.2.2.2.2.2.trans hfk.2.2.2
        have hnr : Near pl (tileOp st.wx st.wy st.ww st.wh t ((kx : Int), (ky : Int)) st) st' := by rw [← hop st rfl]; exact hn'
        obtain ⟨mx, my, em, hj⟩ := joinTile (base := base) (p := p) (cB := cB) (zB := zB) (sB := sB) (A := A) (n := n) (s := s) (k := k) (ways := ways) (shV := shV) (outV := outV) hok' hT.ax hT.ay (by rw [eW]; exact hkW) (by rw [eH]; exact hkH)
        rw [eW, eH] at em
        have hend : ∀ (W3 : World) f, Dr base W3 p cB zB sB A n s k ways shV outV st' → Kept (PS p cB zB sB) w W3 → DonePost base p cB zB sB A n s k ways shV outV st t w pl kx ky (W3.putObj D f) := by
          intro W3 f hd3 hk3
          have hkB : Kept (PS p cB zB sB) w (W3.putObj D f) := ⟨hk3.os, hk3.tape, hk3.output, by rw [World.putObj_size]; exact hk3.size, fun i hi hs' => (World.putObj_heap_other (by omega)).trans (hk3.block i hi hs')⟩
          exact ⟨⟨st', hnr, hw', h.under hd3 eS eO hkB (fun i hi => World.putObj_heap_other (by omega))⟩, hkB⟩
        refine ⟨Dr.uses base p cB zB sB A n s k ways shV outV st' W2 hd' 32, fun f => hend W2 f hd' kp', mx, my, fun W hW => ?_, fun W hW => ?_, fun W hW => ?_⟩
        · refine (whole_in base p cB zB sB A n s k ways shV outV st' W (hd'.frame hW)).mono ?_
          rintro e w' ⟨rfl, hb'⟩
          have hb2 := hW.trans (hb'.mono hW.size)
          exact ⟨by rw [eW, eH], hb2, TBH.of (tb'.below hb2 (by have := lt_of_heap tb'.b2; omega))⟩
        · refine (meet_any (⟨0, 0, st.W, st.H⟩ : Bx) (tileBx ((kx : Int), (ky : Int))) (by have := hok.W0; have := hok.H0; constructor <;> dsimp only <;> omega) (tile_in _ (by dsimp only; omega) (by dsimp only; omega) (by dsimp only; omega) (by dsimp only; omega)) W).mono ?_
          rintro e w' ⟨rfl, hb'⟩
          have hb2 := hW.trans (hb'.mono hW.size)
          exact ⟨by rw [em], hb2, TBH.of (tb'.below hb2 (by have := lt_of_heap tb'.b2; omega))⟩
        · refine (hj W (hd'.frame hW)).mono ?_
          rintro e w' ⟨rfl, hd3, hk3⟩
          have lz := hps zB (.inr (.inr (.inl rfl)))
          have hkz : Kept (PS p cB zB sB) W w' := hk3.mono (fun g e => .inr (.inr (.inl e)))
          refine ⟨rfl, (hk3.block D (by have := lt_of_heap hDf; have := hW.size; omega) (by omega)).trans ((hW.block D (lt_of_heap hDf)).trans hDf), fun f => hend w' f hd3 ((kp'.below hW).trans hkz), TBH.of (TB.next (tb'.below hW (by have := lt_of_heap tb'.b2; omega)) hkz hps)⟩
      clear HL HM
      cases u4
      · gi_wp2_with fail
        refine ⟨trivial, rfl, ?_⟩
        refine (callsIn_wide.2 (HU4'.out _ HB.out)).mono ?_
        rintro e w1 ⟨rfl, rfl⟩
        gi_wp2_with fail
        refine ⟨trivial, ?_⟩
        gi_wp2_with fail
        refine range_law (gf := 102) (r := boxV x y nx ny) rfl (enters_of Tryz.func102 (by kernel_rfl) rfl) (eachPx x y nx ny (by omega) (by omega) (by omega) (by omega) (by omega) (by omega)).iter (fun _ => rfl)
          (fun pre W2 => w1.heap.size ≤ W2.heap.size ∧ TpI base p cB zB sB A n s k ways shV outV q t pl w kx ky st pre W2) ?hI ?hR ⟨Nat.le_refl _, HI0.out _ HB.out⟩
          (fun t1 => { tmps := #[.pointer (some ⟨p, 0, none⟩), .pointer (some ⟨q, 0, none⟩), boxV kx ky 4 4, .pointer (some ⟨w.heap.size, 0, none⟩), .pointer (some ⟨w.heap.size + 1, 0, none⟩), .pointer (some ⟨w.heap.size + 1 + 1, 0, none⟩), .pointer (some ⟨C, 0, none⟩), .int .i64 t1.1, .int .i64 t1.2, .pointer (some ⟨p, 0, none⟩), .pointer (some ⟨q, 0, none⟩), bxV (lookBx (useB ways.v 128) st t), .agg #[.int .i64 kx, .int .i64 ky, .int .i64 4, .int .i64 4], boxV x y nx ny, .pointer (some ⟨p, 0, none⟩), .pointer (some ⟨p, 0, none⟩), .pointer (some ⟨p, 14, none⟩), .bool false, .bool false, undef, undef, undef, undef, .bool false, boxV x y nx ny, .func (.func 102) #[boxV x y nx ny] #[], .int .i64 t1.1, .int .i64 t1.2, undef, undef, undef, undef, undef, undef, undef, undef, undef, undef, undef, undef, undef, undef, undef, undef, undef, undef, undef, undef], defers := [] }) ?hassign ?hbody ?hdone
        case hI =>
          rintro pre A' B hs1 hbl ⟨hs, hi⟩
          exact ⟨Nat.le_trans hs hbl.size, hi.under h lq _ HB.out.sz hbl⟩
        case hR =>
          rintro pre A' ⟨hs, hi⟩
          exact ⟨hs, trivial⟩
        case hassign =>
          intro l t1 W2 K hK'
          gi_wp2
          exact hK'
        case hbody =>
          rintro l pre t1 rest W2 hx ⟨hs, hi⟩
          have hC2 := HPx.out pre t1 rest W2 hx hi
          have k0 := cell_of hi.tb.b0
          have k1 := cell_of hi.tb.b1
          have HC2 : Hid (Calls Tryz.prog 103 #[.pointer (some ⟨p, 0, none⟩), .pointer (some ⟨q, 0, none⟩), .int .i64 t1.1, .int .i64 t1.2] W2 fun e W3 => e = .returned (.tuple #[]) ∧ TpI base p cB zB sB A n s k ways shV outV q t pl w kx ky st (pre ++ [t1]) W3 ∧ Kept (PS p cB zB sB) W2 W3) := hC2
          clear hC2 hi
          gi_wp2_with fail
          refine ⟨trivial, rfl, ?_⟩
          refine (CallsIn.inRound l (callsIn_wide.2 HC2.out)).mono ?_
          rintro e W3 ⟨rfl, hi3, hk3⟩
          have HI3 : Hid (TpI base p cB zB sB A n s k ways shV outV q t pl w kx ky st (pre ++ [t1]) W3) := hi3
          have HK3 : Hid ((w1.heap.size ≤ W3.heap.size) ∧ ∀ kk, w1.heap.size ≤ kk → kk < W2.heap.size → W3.heap[kk]? = W2.heap[kk]?) := ⟨Nat.le_trans hs hk3.size, fun kk h1 h2 => hk3.block kk h2 (fun e => by have := hps _ e; have := HB.out.sz; omega)⟩
          clear hi3 hk3
          gi_wp2_with fail
          first | exact ⟨⟨HK3.out.1, HI3.out⟩, HK3.out.2⟩ | exact ⟨HI3.out, HK3.out.2⟩
        case hdone =>
          rintro D W2 hD ⟨hs, hi⟩ hK'
          have hD3 : w.heap.size + 3 ≤ D := Nat.le_trans HB.out.sz hD
          have HF := HFin.out D W2 hD3 hi hK'
          obtain ⟨k0, k1, k2, k3, k4, k5⟩ := TBH.of hi.tb
          generalize useB ways.v 32 = u32 at *
          cases u32
          · have HA : Hid (Calls Tryz.prog 80 #[.pointer (some ⟨p, 14, none⟩), .int .i64 32] W2 fun e w' => e = .returned (.bool false) ∧ w' = W2) := HF.1
            have HE : Hid (∀ f, DonePost base p cB zB sB A n s k ways shV outV st t w pl kx ky (W2.putObj D f)) := HF.2.1
            have HDf : Hid (W2.heap[D]? = some (.deferred (some []))) := hK'
            clear HF hi hK'
            gi_wp2_with fail
            refine ⟨trivial, rfl, ?_⟩
            refine (callsIn_wide.2 HA.out).mono ?_
            rintro e w3 ⟨rfl, rfl⟩
            gi_wp2_with fail
            refine ⟨by simp, .inl ⟨_, _, rfl, run_takeDeferred HDf.out, ?_⟩⟩
            exact ⟨_, results_none rfl _ _ _, rfl, HE.out _⟩
          · have HA : Hid (Calls Tryz.prog 80 #[.pointer (some ⟨p, 14, none⟩), .int .i64 32] W2 fun e w' => e = .returned (.bool true) ∧ w' = W2) := HF.1
            obtain ⟨mx, my, hwh, hmt, hjn⟩ := HF.2.2
            have HWh : Hid (∀ W, Below W2.heap.size W2 W → Calls Tryz.prog 105 #[.pointer (some ⟨p, 2, none⟩)] W fun e w' => e = .returned (bxV ⟨0, 0, st.W, st.H⟩) ∧ Below W2.heap.size W2 w' ∧ TBH w p q kx ky w') := hwh
            have HMt : Hid (∀ W, Below W2.heap.size W2 W → Calls Tryz.prog 90 #[bxV ⟨0, 0, st.W, st.H⟩, .agg #[.int .i64 kx, .int .i64 ky, .int .i64 4, .int .i64 4]] W fun e w' => e = .returned (boxV kx ky mx my) ∧ Below W2.heap.size W2 w' ∧ TBH w p q kx ky w') := hmt
            have HJn : Hid (∀ W, Below W2.heap.size W2 W → Calls Tryz.prog 104 #[.pointer (some ⟨p, 10, none⟩), boxV kx ky mx my] W fun e w' => e = .returned (.tuple #[]) ∧ w'.heap[D]? = some (.deferred (some [])) ∧ (∀ f, DonePost base p cB zB sB A n s k ways shV outV st t w pl kx ky (w'.putObj D f)) ∧ TBH w p q kx ky w') := hjn
            clear HF hi hK' hwh hmt hjn
            have HBr : Hid (Below W2.heap.size W2 W2.drew) := (Below.refl _ _).drew
            gi_wp2_with fail
            refine ⟨trivial, rfl, ?_⟩
            refine (callsIn_wide.2 HA.out).mono ?_
            rintro e w3 ⟨rfl, rfl⟩
            gi_wp2_with fail
            refine wpIn_wide.2 (Code.wp_mono (Q := Exit.then (fun a' W'' => bodyPostM Fence.wide 0 Tryz.prog Tryz.f68 (fun e w' => e = .returned (.tuple #[]) ∧ DonePost base p cB zB sB A n s k ways shV outV st t w pl kx ky w') .normal a' W'') (fun _ _ _ => False)) (by intro e a' w' h'; cases e <;> first | exact h' | exact h'.elim) ?_)
            go_region_held (fun w' => w'.cell? ⟨w.heap.size, 0, none⟩ = some (.pointer (some ⟨p, 0, none⟩)) ∧ w'.cell? ⟨w.heap.size + 1, 0, none⟩ = some (.pointer (some ⟨q, 0, none⟩)) ∧
                w'.cell? ⟨w.heap.size + 2, 0, none⟩ = some (.int .i64 kx) ∧ w'.cell? ⟨w.heap.size + 2, 1, none⟩ = some (.int .i64 ky) ∧ w'.cell? ⟨w.heap.size + 2, 2, none⟩ = some (.int .i64 4) ∧ w'.cell? ⟨w.heap.size + 2, 3, none⟩ = some (.int .i64 4)) (go_keep)
              ((first
                | (go_at_call 105; refine (HWh.out _ HBr.out).mono ?_; rintro e w4 ⟨rfl, hb4, hh4⟩; obtain ⟨r0, r1, r2, r3, r4, r5⟩ := hh4)
                | (go_at_call 90; refine (HMt.out _ hb4).mono ?_; rintro e w5 ⟨rfl, hb5, hh5⟩; obtain ⟨u0, u1, u2, u3, u4, u5⟩ := hh5)
                | (go_at_call 104; refine (HJn.out _ hb5).mono ?_; rintro e w6 ⟨rfl, hd6, he6, hh6⟩; obtain ⟨v0, v1, v2, v3, v4, v5⟩ := hh6)))
            all_goals
              refine ⟨by simp, .inl ⟨_, _, rfl, run_takeDeferred hd6, ?_⟩⟩
              exact ⟨_, results_none rfl _ _ _, rfl, he6 _⟩
      · gi_wp2_with fail
        refine ⟨trivial, rfl, ?_⟩
        refine (callsIn_wide.2 (HU4'.out _ HB.out)).mono ?_
        rintro e w1 ⟨rfl, rfl⟩
        gi_wp2_with fail
        refine ⟨trivial, rfl, ?_⟩
        refine (callsIn_wide.2 (HDd.out _ HB.out)).mono ?_
        rintro e w2 ⟨r, rfl, hr, hb2⟩
        have HB2 : Hid (TBB w p q kx ky w2) := HB.out.next hb2
        have hP2 := (hb2.block _ (lt_of_heap HP.out)).trans HP.out
        have cP2 := cell_of hP2
        clear hP2 hb2
        cases r
        · clear hr
          gi_wp2_with fail
          refine range_law (gf := 102) (r := boxV x y nx ny) rfl (enters_of Tryz.func102 (by kernel_rfl) rfl) (eachPx x y nx ny (by omega) (by omega) (by omega) (by omega) (by omega) (by omega)).iter (fun _ => rfl)
            (fun pre W2 => w2.heap.size ≤ W2.heap.size ∧ TpI base p cB zB sB A n s k ways shV outV q t pl w kx ky st pre W2) ?hI ?hR ⟨Nat.le_refl _, HI0.out _ HB2.out⟩
            (fun t1 => { tmps := #[.pointer (some ⟨p, 0, none⟩), .pointer (some ⟨q, 0, none⟩), boxV kx ky 4 4, .pointer (some ⟨w.heap.size, 0, none⟩), .pointer (some ⟨w.heap.size + 1, 0, none⟩), .pointer (some ⟨w.heap.size + 1 + 1, 0, none⟩), .pointer (some ⟨C, 0, none⟩), .int .i64 t1.1, .int .i64 t1.2, .pointer (some ⟨p, 0, none⟩), .pointer (some ⟨q, 0, none⟩), bxV (lookBx (useB ways.v 128) st t), .agg #[.int .i64 kx, .int .i64 ky, .int .i64 4, .int .i64 4], boxV x y nx ny, .pointer (some ⟨p, 0, none⟩), .pointer (some ⟨p, 0, none⟩), .pointer (some ⟨p, 14, none⟩), .bool true, .bool true, .pointer (some ⟨p, 0, none⟩), .pointer (some ⟨q, 0, none⟩), .agg #[.int .i64 x, .int .i64 y, .int .i64 nx, .int .i64 ny], .bool false, .bool false, boxV x y nx ny, .func (.func 102) #[boxV x y nx ny] #[], .int .i64 t1.1, .int .i64 t1.2, undef, undef, undef, undef, undef, undef, undef, undef, undef, undef, undef, undef, undef, undef, undef, undef, undef, undef, undef, undef], defers := [] }) ?hassign ?hbody ?hdone
          case hI =>
            rintro pre A' B hs1 hbl ⟨hs, hi⟩
            exact ⟨Nat.le_trans hs hbl.size, hi.under h lq _ HB2.out.sz hbl⟩
          case hR =>
            rintro pre A' ⟨hs, hi⟩
            exact ⟨hs, trivial⟩
          case hassign =>
            intro l t1 W2 K hK'
            gi_wp2
            exact hK'
          case hbody =>
            rintro l pre t1 rest W2 hx ⟨hs, hi⟩
            have hC2 := HPx.out pre t1 rest W2 hx hi
            have k0 := cell_of hi.tb.b0
            have k1 := cell_of hi.tb.b1
            have HC2 : Hid (Calls Tryz.prog 103 #[.pointer (some ⟨p, 0, none⟩), .pointer (some ⟨q, 0, none⟩), .int .i64 t1.1, .int .i64 t1.2] W2 fun e W3 => e = .returned (.tuple #[]) ∧ TpI base p cB zB sB A n s k ways shV outV q t pl w kx ky st (pre ++ [t1]) W3 ∧ Kept (PS p cB zB sB) W2 W3) := hC2
            clear hC2 hi
            gi_wp2_with fail
            refine ⟨trivial, rfl, ?_⟩
            refine (CallsIn.inRound l (callsIn_wide.2 HC2.out)).mono ?_
            rintro e W3 ⟨rfl, hi3, hk3⟩
            have HI3 : Hid (TpI base p cB zB sB A n s k ways shV outV q t pl w kx ky st (pre ++ [t1]) W3) := hi3
            have HK3 : Hid ((w2.heap.size ≤ W3.heap.size) ∧ ∀ kk, w2.heap.size ≤ kk → kk < W2.heap.size → W3.heap[kk]? = W2.heap[kk]?) := ⟨Nat.le_trans hs hk3.size, fun kk h1 h2 => hk3.block kk h2 (fun e => by have := hps _ e; have := HB2.out.sz; omega)⟩
            clear hi3 hk3
            gi_wp2_with fail
            first | exact ⟨⟨HK3.out.1, HI3.out⟩, HK3.out.2⟩ | exact ⟨HI3.out, HK3.out.2⟩
          case hdone =>
            rintro D W2 hD ⟨hs, hi⟩ hK'
            have hD3 : w.heap.size + 3 ≤ D := Nat.le_trans HB2.out.sz hD
            have HF := HFin.out D W2 hD3 hi hK'
            obtain ⟨k0, k1, k2, k3, k4, k5⟩ := TBH.of hi.tb
            generalize useB ways.v 32 = u32 at *
            cases u32
            · have HA : Hid (Calls Tryz.prog 80 #[.pointer (some ⟨p, 14, none⟩), .int .i64 32] W2 fun e w' => e = .returned (.bool false) ∧ w' = W2) := HF.1
              have HE : Hid (∀ f, DonePost base p cB zB sB A n s k ways shV outV st t w pl kx ky (W2.putObj D f)) := HF.2.1
              have HDf : Hid (W2.heap[D]? = some (.deferred (some []))) := hK'
              clear HF hi hK'
              gi_wp2_with fail
              refine ⟨trivial, rfl, ?_⟩
              refine (callsIn_wide.2 HA.out).mono ?_
              rintro e w3 ⟨rfl, rfl⟩
              gi_wp2_with fail
              refine ⟨by simp, .inl ⟨_, _, rfl, run_takeDeferred HDf.out, ?_⟩⟩
              exact ⟨_, results_none rfl _ _ _, rfl, HE.out _⟩
            · have HA : Hid (Calls Tryz.prog 80 #[.pointer (some ⟨p, 14, none⟩), .int .i64 32] W2 fun e w' => e = .returned (.bool true) ∧ w' = W2) := HF.1
              obtain ⟨mx, my, hwh, hmt, hjn⟩ := HF.2.2
              have HWh : Hid (∀ W, Below W2.heap.size W2 W → Calls Tryz.prog 105 #[.pointer (some ⟨p, 2, none⟩)] W fun e w' => e = .returned (bxV ⟨0, 0, st.W, st.H⟩) ∧ Below W2.heap.size W2 w' ∧ TBH w p q kx ky w') := hwh
              have HMt : Hid (∀ W, Below W2.heap.size W2 W → Calls Tryz.prog 90 #[bxV ⟨0, 0, st.W, st.H⟩, .agg #[.int .i64 kx, .int .i64 ky, .int .i64 4, .int .i64 4]] W fun e w' => e = .returned (boxV kx ky mx my) ∧ Below W2.heap.size W2 w' ∧ TBH w p q kx ky w') := hmt
              have HJn : Hid (∀ W, Below W2.heap.size W2 W → Calls Tryz.prog 104 #[.pointer (some ⟨p, 10, none⟩), boxV kx ky mx my] W fun e w' => e = .returned (.tuple #[]) ∧ w'.heap[D]? = some (.deferred (some [])) ∧ (∀ f, DonePost base p cB zB sB A n s k ways shV outV st t w pl kx ky (w'.putObj D f)) ∧ TBH w p q kx ky w') := hjn
              clear HF hi hK' hwh hmt hjn
              have HBr : Hid (Below W2.heap.size W2 W2.drew) := (Below.refl _ _).drew
              gi_wp2_with fail
              refine ⟨trivial, rfl, ?_⟩
              refine (callsIn_wide.2 HA.out).mono ?_
              rintro e w3 ⟨rfl, rfl⟩
              gi_wp2_with fail
              refine wpIn_wide.2 (Code.wp_mono (Q := Exit.then (fun a' W'' => bodyPostM Fence.wide 0 Tryz.prog Tryz.f68 (fun e w' => e = .returned (.tuple #[]) ∧ DonePost base p cB zB sB A n s k ways shV outV st t w pl kx ky w') .normal a' W'') (fun _ _ _ => False)) (by intro e a' w' h'; cases e <;> first | exact h' | exact h'.elim) ?_)
              go_region_held (fun w' => w'.cell? ⟨w.heap.size, 0, none⟩ = some (.pointer (some ⟨p, 0, none⟩)) ∧ w'.cell? ⟨w.heap.size + 1, 0, none⟩ = some (.pointer (some ⟨q, 0, none⟩)) ∧
                  w'.cell? ⟨w.heap.size + 2, 0, none⟩ = some (.int .i64 kx) ∧ w'.cell? ⟨w.heap.size + 2, 1, none⟩ = some (.int .i64 ky) ∧ w'.cell? ⟨w.heap.size + 2, 2, none⟩ = some (.int .i64 4) ∧ w'.cell? ⟨w.heap.size + 2, 3, none⟩ = some (.int .i64 4)) (go_keep)
                ((first
                  | (go_at_call 105; refine (HWh.out _ HBr.out).mono ?_; rintro e w4 ⟨rfl, hb4, hh4⟩; obtain ⟨r0, r1, r2, r3, r4, r5⟩ := hh4)
                  | (go_at_call 90; refine (HMt.out _ hb4).mono ?_; rintro e w5 ⟨rfl, hb5, hh5⟩; obtain ⟨u0, u1, u2, u3, u4, u5⟩ := hh5)
                  | (go_at_call 104; refine (HJn.out _ hb5).mono ?_; rintro e w6 ⟨rfl, hd6, he6, hh6⟩; obtain ⟨v0, v1, v2, v3, v4, v5⟩ := hh6)))
              all_goals
                refine ⟨by simp, .inl ⟨_, _, rfl, run_takeDeferred hd6, ?_⟩⟩
                exact ⟨_, results_none rfl _ _ _, rfl, he6 _⟩
        · have HE0 := HEnd0.out trivial (hr rfl) w2 HB2.out
          clear hr
          gi_wp2_with fail
          exact ⟨_, results_none rfl _ _ _, rfl, HE0⟩
    all_goals exact h'.elim
  go_region_held (fun w' => w'.cell? ⟨w.heap.size, 0, none⟩ = some (.pointer (some ⟨p, 0, none⟩)) ∧ w'.cell? ⟨w.heap.size + 1, 0, none⟩ = some (.pointer (some ⟨q, 0, none⟩)) ∧
      w'.cell? ⟨w.heap.size + 2, 0, none⟩ = some (.int .i64 kx) ∧ w'.cell? ⟨w.heap.size + 2, 1, none⟩ = some (.int .i64 ky) ∧ w'.cell? ⟨w.heap.size + 2, 2, none⟩ = some (.int .i64 4) ∧ w'.cell? ⟨w.heap.size + 2, 3, none⟩ = some (.int .i64 4)) (go_keep)
    ((first
      | (go_at_call 89; refine (HL.out _ HW0.out).mono ?_; rintro e w1 ⟨rfl, hB1, hb1⟩; obtain ⟨r0, r1, r2, r3, r4, r5⟩ := hB1.held; obtain ⟨n10, n11, n12⟩ := hB1.ne)
      | (go_at_call 89; refine (HL.out _ (HW0.out.alloc _)).mono ?_; rintro e w1 ⟨rfl, hB1, hb1⟩; obtain ⟨r0, r1, r2, r3, r4, r5⟩ := hB1.held; obtain ⟨n10, n11, n12⟩ := hB1.ne; have z1 := (hb1.block W0.heap.size (by simp)).trans (heap_alloc_new W0.drew _); have fz1 := frozen_of z1; have cz1 := cell_of z1)
      | (go_at_call 90; refine (HM.out _ hB1).mono ?_; rintro e w2 ⟨rfl, hB2, hb2⟩; obtain ⟨u0, u1, u2, u3, u4, u5⟩ := hB2.held; obtain ⟨n20, n21, n22⟩ := hB2.ne; have z2 := (hb2.block _ (lt_of_heap z1)).trans z1; have fz2 := frozen_of z2; have cz2 := cell_of z2)
      | (go_at_call 90; refine (HM.out _ hB1).mono ?_; rintro e w2 ⟨rfl, hB2, hb2⟩; obtain ⟨u0, u1, u2, u3, u4, u5⟩ := hB2.held; obtain ⟨n20, n21, n22⟩ := hB2.ne)
      | (go_at_call 90; refine (HM.out _ (hB1.alloc _)).mono ?_; rintro e w2 ⟨rfl, hB2, hb2⟩; obtain ⟨u0, u1, u2, u3, u4, u5⟩ := hB2.held; obtain ⟨n20, n21, n22⟩ := hB2.ne; have z2 := (hb2.block w1.heap.size (by simp)).trans (heap_alloc_new w1 _); have fz2 := frozen_of z2; have cz2 := cell_of z2)))
  · exact ⟨_, rfl, hB2.sz, hB2.alloc _, heap_alloc_new _ _⟩
  · exact ⟨_, rfl, hB1.sz, hB2.put4 hB1.sz z2 _ _ _ _⟩
  · exact ⟨_, rfl, s0, hB2.put4 s0 z2 _ _ _ _⟩
end
end Go.Proofs.YthcikinkicpicaaGreatDoor
