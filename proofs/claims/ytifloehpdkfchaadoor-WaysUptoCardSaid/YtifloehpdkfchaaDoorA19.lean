import Derived.Test.YtifloehpdkfchaaDoorA18
import Derived.Test.YtifloehpdkfchaaDoorA17

namespace Go.Proofs.YtifloehpdkfchaaDoor
open Go.RowKit

theorem args_corner (s : ByteArray) (i : Nat) (h : i + 9 ≤ s.size) (l : List Int) (hl : ∀ j, j < l.length → byteAt s j = l.getD j 0) (hl2 : i + 9 ≤ l.length) : cornerOf (argsAt (s.extract i s.size) 0 9) 0 = cornerOf l i := by
  have g := fun j hj => argsAt_get (s.extract i s.size) 0 9 j hj
  have e : ∀ j, j < 9 → (argsAt (s.extract i s.size) 0 9).getD j 0 = l.getD (i + j) 0 := fun j hj => by
    rw [g j hj, Nat.zero_add, byteAt_extract s i s.size j (by omega) (Nat.le_refl _), hl (i + j) (by omega)]
  unfold cornerOf sgn
  simp only [Nat.zero_add, Nat.reduceAdd, e 0 (by omega), e 1 (by omega), e 2 (by omega), e 3 (by omega), e 4 (by omega), e 5 (by omega), e 6 (by omega), e 7 (by omega), e 8 (by omega), Nat.add_assoc, Nat.add_zero]
theorem args_corner0 (s : ByteArray) (_h : 9 ≤ s.size) (l : List Int) (hl : ∀ j, j < l.length → byteAt s j = l.getD j 0) (hl2 : 9 ≤ l.length) : cornerOf (argsAt s 0 9) 0 = cornerOf l 0 := by
  have g := fun j hj => argsAt_get s 0 9 j hj
  have e : ∀ j, j < 9 → (argsAt s 0 9).getD j 0 = l.getD j 0 := fun j hj => by
    rw [g j hj, Nat.zero_add, hl j (by omega)]
  unfold cornerOf sgn
  simp only [Nat.zero_add, Nat.reduceAdd, e 0 (by omega), e 1 (by omega), e 2 (by omega), e 3 (by omega), e 4 (by omega), e 5 (by omega), e 6 (by omega), e 7 (by omega), e 8 (by omega)]

section
variable (base : Nat) (p cB zB sB A n : Nat) (s : ByteArray) (k ways : Int) (shV outV : Value) (st : St) (a : ByteArray) (w : World)

/-- The triangle is there, in a block of its own. -/
structure TrW (q : Nat) (u v x : Cor) (ar : Int) (f : Bool) (W : World) : Prop where
  dr : Dr base W p cB zB sB A n s k ways shV outV st
  tri : W.heap[q]? = some (.cells (trc u v x ar f) 124 (0, 0))
  bel : Below w.heap.size w W

theorem TrW.below {base p cB zB sB A n : Nat} {s : ByteArray} {k ways : Int} {shV outV : Value} {st : St} {w W W' : World} {q : Nat} {u v x : Cor} {ar : Int} {f : Bool} (h : TrW base p cB zB sB A n s k ways shV outV st w q u v x ar f W) (hb : Below W.heap.size W W') : TrW base p cB zB sB A n s k ways shV outV st w q u v x ar f W' :=
  ⟨h.dr.frame hb, (hb.block _ (lt_of_heap h.tri)).trans h.tri, h.bel.trans (hb.mono h.bel.size)⟩

set_option maxRecDepth 100000 in
set_option maxHeartbeats 1000000 in
theorem drawTri_any (h : Dr base w p cB zB sB A n s k ways shV outV st) (u v x : Cor) (ar : Int) (f : Bool) (hrd : ∀ W, Calls Tryd.prog 61 #[.string a] W fun e w' => e = .returned (.agg (triL u v x ar f).toArray) ∧ Below W.heap.size W w')
    (dr : Bool) (hdr : (if st.T.faces = 1 then f else if st.T.faces = 2 then !f else true) = dr) (st' : St) (h0 : ar = 0 → st' = st) (h1 : dr = false → st' = st)
    (h2 : ar ≠ 0 → dr = true → ∀ q W, TrW base p cB zB sB A n s k ways shV outV st w q u v x ar f W → Calls Tryd.prog 63 #[.pointer (some ⟨p, 0, none⟩), .pointer (some ⟨q, 0, none⟩)] W fun e w' => e = .returned (.tuple #[]) ∧ Dr base w' p cB zB sB A n s k ways shV outV st' ∧ Low base w w') :
    Calls Tryd.prog 41 #[.pointer (some ⟨p, 0, none⟩), .string a] w (CmdPost base p s k w (st', 0)) := by
  have HRd : Hid (∀ W, Calls Tryd.prog 61 #[.string a] W fun e w' => e = .returned (.agg (triL u v x ar f).toArray) ∧ Below W.heap.size W w') := hrd
  have HD : Hid (Dr base w p cB zB sB A n s k ways shV outV st) := h
  have HS : Hid (∀ w1, Below w.heap.size w w1 → TrW base p cB zB sB A n s k ways shV outV st w w1.heap.size u v x ar f ((w1.alloc (.cells #[.int .i64 0, .int .i64 0, .int .i64 0, .int .i64 0, .int .i64 0, .int .i64 0, .int .i64 0, .int .i64 0, .int .i64 0, .int .i64 0, .int .i64 0, .int .i64 0, .int .i64 0, .int .i64 0, .int .i64 0, .int .i64 0, .int .i64 0, .int .i64 0, .int .i64 0, .bool false] 124)).setCells w1.heap.size 0 (triL u v x ar f))) := by
    intro w1 hb1
    have hn : (w1.alloc (.cells (trc cz cz cz 0 false) 124)).heap[w1.heap.size]? = some (.cells (trc cz cz cz 0 false) 124 (0, 0)) := heap_alloc_new _ _
    have hk := kept_setCells w1.heap.size (triL u v x ar f) 0 (w1.alloc (.cells (trc cz cz cz 0 false) 124))
    have hb2 : Below w.heap.size w ((w1.alloc (.cells (trc cz cz cz 0 false) 124)).setCells w1.heap.size 0 (triL u v x ar f)) := by
      have hb3 : Below w.heap.size w (w1.alloc (.cells (trc cz cz cz 0 false) 124)) := hb1.alloc hb1.size _
      have l1 := hb1.size
      exact ⟨hk.os.trans hb3.os, hk.tape.trans hb3.tape, hk.output.trans hb3.output, Nat.le_trans hb3.size hk.size, fun i hi => (hk.block i (Nat.lt_of_lt_of_le hi hb3.size) (by omega)).trans (hb3.block i hi)⟩
    exact ⟨HD.out.frame hb2, by show ((w1.alloc (.cells (trc cz cz cz 0 false) 124)).setCells _ _ _).heap[w1.heap.size]? = _; rw [heap_setCells _ _ _ _ _ _ hn, put_all], hb2⟩
  have HT : Hid (∀ w1 : World, (w1.alloc (.cells #[.int .i64 0, .int .i64 0, .int .i64 0, .int .i64 0, .int .i64 0, .int .i64 0, .int .i64 0, .int .i64 0, .int .i64 0, .int .i64 0, .int .i64 0, .int .i64 0, .int .i64 0, .int .i64 0, .int .i64 0, .int .i64 0, .int .i64 0, .int .i64 0, .int .i64 0, .bool false] 124)).there w1.heap.size 0 (triL u v x ar f).toArray.size) := fun w1 => there_of (cur := trc cz cz cz 0 false) (heap_alloc_new _ _) 0 20 (by rw [trc_size]; decide)
  have HN : Hid ((Tryd.prog.info? 124).map (·.size) = some (triL u v x ar f).toArray.size) := Tryd.infoTri
  have HDr : Hid (∀ W, TrW base p cB zB sB A n s k ways shV outV st w w.heap.size u v x ar f W → True) := fun _ _ => trivial
  clear HDr h hrd
  go_enter Tryd.func41, Tryd.ntmps41
  go_wp2_with (first
    | (go_at_call 61; refine (HRd.out _).mono ?_; rintro e w1 ⟨rfl, hb1⟩)
    | (refine wpList_store_mid (by rfl) 124 (.tmp 5) (.tmp 7) (by rfl) w1.heap.size 0 (triL u v x ar f).toArray (by rfl) (by rfl) (HT.out _) HN.out (triL_one _ _ _ _ _) ?_))
  dsimp only [Act.put]
  refine gen_w (TrW base p cB zB sB A n s k ways shV outV st w w1.heap.size u v x ar f) (Code.wp _ _ _ _) _ (HS.out w1 hb1) ?_
  intro W hW
  clear HS HT HN HRd hb1
  generalize w1.heap.size = q at *
  have HW : Hid (TrW base p cB zB sB A n s k ways shV outV st w q u v x ar f W) := hW
  have c18 : W.cell? ⟨q, 18, none⟩ = some (.int .i64 ar) := cell_of hW.tri 18
  have c19 : W.cell? ⟨q, 19, none⟩ = some (.bool f) := cell_of hW.tri 19
  have HF : Hid (∀ w', Below w.heap.size w w' → st' = st → CmdPost base p s k w (st', 0) (.returned (.int .i64 0)) w') := by
    intro w' hb' e
    rw [e]
    exact ⟨rfl, _, _, _, _, _, _, _, _, HD.out.frame hb', HD.out.lowOf hb'⟩
  have HDr : Hid (∀ W', (∃ m, W' = W.drewN m) ∨ W' = W.drew ∨ W' = W → Calls Tryd.prog 62 #[.pointer (some ⟨p, 14, none⟩), .bool f] W' fun e w' => e = .returned (.bool dr) ∧ w' = W') := by
    intro W' hW'
    have hc : W'.cell? ⟨p, 23, none⟩ = some (.int .u8 st.T.faces) := by
      rcases hW' with ⟨m, rfl⟩ | rfl | rfl <;> exact cell_of HW.out.dr.bp 23
    have := draws_any p W' st.T.faces f hc
    rw [hdr] at this
    exact this
  clear hW hdr
  by_cases har : ar = 0
  · have HE : Hid (st' = st) := h0 har
    subst har
    clear h0 h1 h2 HDr
    go_quiet (fail)
    go_wp2_with fail
    go_ret
    exact HF.out _ (HW.out.bel.drewN' _) HE.out
  · have hne : (ar != 0) = true := by simpa using har
    have HH2 := h2 har
    have H2 : Hid (dr = true → ∀ q W, TrW base p cB zB sB A n s k ways shV outV st w q u v x ar f W → Calls Tryd.prog 63 #[.pointer (some ⟨p, 0, none⟩), .pointer (some ⟨q, 0, none⟩)] W fun e w' => e = .returned (.tuple #[]) ∧ Dr base w' p cB zB sB A n s k ways shV outV st' ∧ Low base w w') := HH2
    clear h2 h0 HH2
    cases dr
    · have HE : Hid (st' = st) := h1 rfl
      clear h1 H2
      go_region_held (fun w2 => w2.cell? ⟨q, 18, none⟩ = some (.int .i64 ar) ∧ w2.cell? ⟨q, 19, none⟩ = some (.bool f)) (go_keep)
        ((go_at_call 62; refine (HDr.out _ (by first | exact .inr (.inl rfl) | exact .inr (.inr rfl) | exact .inl ⟨_, rfl⟩)).mono ?_; rintro e w2 ⟨rfl, rfl⟩))
      all_goals
        go_wp2_with fail
        go_ret
        exact HF.out _ (by first | exact HW.out.bel.drew | exact HW.out.bel.drewN' _ | exact HW.out.bel) HE.out
    · have H3 : Hid (∀ q W, TrW base p cB zB sB A n s k ways shV outV st w q u v x ar f W → Calls Tryd.prog 63 #[.pointer (some ⟨p, 0, none⟩), .pointer (some ⟨q, 0, none⟩)] W fun e w' => e = .returned (.tuple #[]) ∧ Dr base w' p cB zB sB A n s k ways shV outV st' ∧ Low base w w') := H2.out rfl
      clear h1 H2
      go_region_held (fun w2 => w2.cell? ⟨q, 18, none⟩ = some (.int .i64 ar) ∧ w2.cell? ⟨q, 19, none⟩ = some (.bool f)) (go_keep)
        ((go_at_call 62; refine (HDr.out _ (by first | exact .inr (.inl rfl) | exact .inr (.inr rfl) | exact .inl ⟨_, rfl⟩)).mono ?_; rintro e w2 ⟨rfl, rfl⟩))
      all_goals
        go_wp2_with (go_at_call 63; refine (H3.out q _ (HW.out.below (by first | exact (Below.refl _ _).drew | exact (Below.refl _ _).drewN' _ | exact Below.refl _ _))).mono ?_; rintro e w3 ⟨rfl, hd3, hb3⟩)
        go_ret
        exact ⟨rfl, _, _, _, _, _, _, _, _, hd3, hb3⟩

theorem drawTriangle_in (h : Dr base w p cB zB sB A n s k ways shV outV st) (K : Int) (hok : st.Ok K) (hK : K + 20000 ≤ 1000000000000000) (l : List Int) (ha : ArgsOf a l) (hl : l.length = 27) :
    Calls Tryd.prog 41 #[.pointer (some ⟨p, 0, none⟩), .string a] w (CmdPost base p s k w (st.cmd 9 l)) := by
  have hc : st.cmd 9 l = (st.tri (cornerOf l 0) (cornerOf l 9) (cornerOf l 18), 0) := by simp [St.cmd, badB, St.does]
  have hs : a.size = 27 := by have := ha.size; omega
  have ea := args_corner0 a (by omega) l ha.at_ (by omega)
  have eb := args_corner a 9 (by omega) l ha.at_ (by omega)
  have ec := args_corner a 18 (by omega) l ha.at_ (by omega)
  have oa := cornerOf_ok l ha.ok 0
  have ob := cornerOf_ok l ha.ok 9
  have oc := cornerOf_ok l ha.ok 18
  rw [hc]
  have hrd := fun W => readTriangle_in a _ _ _ W (by omega) ea eb ec oa ob oc
  generalize cornerOf l 0 = u at *
  generalize cornerOf l 9 = v at *
  generalize cornerOf l 18 = x at *
  have hd : ∀ (u v x : Cor) (ar : Int) (f : Bool), u.Ok → v.Ok → x.Ok → edge u v x.x x.y = ar → 0 < ar → ∀ q W, TrW base p cB zB sB A n s k ways shV outV st w q u v x ar f W → Calls Tryd.prog 63 #[.pointer (some ⟨p, 0, none⟩), .pointer (some ⟨q, 0, none⟩)] W fun e w' => e = .returned (.tuple #[]) ∧
      Dr base w' p cB zB sB A n s k ways shV outV (triY u v x ar st.wh.toNat st.wy st) ∧ Low base w w' := by
    intro u v x ar f hu hv hx he hp q W hW
    refine (drawTiles_in base p cB zB sB A n s k ways shV outV st q u v x ar f W (drawPixel_in q u v x ar f hu hv hx he hp) K hW.dr hok hK hW.tri hu hv hx he hp).mono ?_
    rintro e w' ⟨rfl, hd', hb'⟩
    exact ⟨rfl, hd', (h.lowOf hW.bel).trans hb'⟩
  have f0 := hok.T.faces0
  have f2 := hok.T.faces1
  by_cases hneg : edge u v x.x x.y < 0
  · have hV : triVal u v x = .agg (triL u x v (-edge u v x.x x.y) false).toArray := by unfold triVal; rw [if_pos hneg]; rfl
    rw [hV] at hrd
    have hsw := edge_swap u v x
    have htri : st.tri u v x = if st.T.faces = 1 then st else triY u x v (-edge u v x.x x.y) st.wh.toNat st.wy st := by
      unfold St.tri
      by_cases h1 : st.T.faces = 1
      · rw [if_pos (.inr (.inl ⟨h1, hneg⟩)), if_pos h1]
      · rw [if_neg (by omega), if_pos hneg, if_neg h1]
    refine drawTri_any base p cB zB sB A n s k ways shV outV st a w h u x v _ false hrd (if st.T.faces = 1 then false else true) ?_ _ (fun e => absurd e (by omega)) (fun e => ?_) (fun _ e q W hW => ?_)
    · split
      · rfl
      · split <;> rfl
    · have h1 : st.T.faces = 1 := by
        by_cases h1 : st.T.faces = 1
        · exact h1
        · rw [if_neg h1] at e; cases e
      rw [htri, if_pos h1]
    · have h1 : ¬ st.T.faces = 1 := by
        intro h1; rw [if_pos h1] at e; cases e
      rw [htri, if_neg h1]
      exact hd u x v _ false oa oc ob hsw (by omega) q W hW
  · have hV : triVal u v x = .agg (triL u v x (edge u v x.x x.y) (decide (0 < edge u v x.x x.y))).toArray := by unfold triVal; rw [if_neg hneg]; rfl
    rw [hV] at hrd
    by_cases hz : edge u v x.x x.y = 0
    · have htri : st.tri u v x = st := by unfold St.tri; rw [if_pos (.inl hz)]
      rw [htri]
      exact drawTri_any base p cB zB sB A n s k ways shV outV st a w h u v x _ _ hrd _ rfl _ (fun _ => rfl) (fun _ => rfl) (fun e => absurd hz e)
    · have hpos : 0 < edge u v x.x x.y := by omega
      rw [decide_eq_true hpos] at hrd
      have htri : st.tri u v x = if st.T.faces = 2 then st else triY u v x (edge u v x.x x.y) st.wh.toNat st.wy st := by
        unfold St.tri
        by_cases h1 : st.T.faces = 2
        · rw [if_pos (.inr (.inr ⟨h1, hpos⟩)), if_pos h1]
        · rw [if_neg (by omega), if_neg hneg, if_neg h1]
      refine drawTri_any base p cB zB sB A n s k ways shV outV st a w h u v x _ true hrd (if st.T.faces = 2 then false else true) ?_ _ (fun e => absurd e hz) (fun e => ?_) (fun _ e q W hW => ?_)
      · by_cases h1 : st.T.faces = 1
        · rw [if_pos h1, if_neg (by omega)]
        · rw [if_neg h1]; rfl
      · have h1 : st.T.faces = 2 := by
          by_cases h1 : st.T.faces = 2
          · exact h1
          · rw [if_neg h1] at e; cases e
        rw [htri, if_pos h1]
      · have h1 : ¬ st.T.faces = 2 := by
          intro h1; rw [if_pos h1] at e; cases e
        rw [htri, if_neg h1]
        exact hd u v x _ true oa ob oc rfl hpos q W hW
end
end Go.Proofs.YtifloehpdkfchaaDoor
