import Derived.Scope
import Derived.Test.YtifloehpdkfchaaDoorA06
import Derived.Test.YtifloehpdkfchaaDoorA12
import Derived.Test.YtifloehpdkfchaaDoorA16
import Derived.Test.YtifloehpdkfchaaDoorA01
import Derived.Sort.LoopGhostIn

namespace Go.Proofs.YtifloehpdkfchaaDoor
open Go.RowKit Go.Shelf
attribute [local go_sem] Oper.semAt_some

section
variable (base p cB zB sB A n : Nat) (s : ByteArray) (k ways : Int) (shV outV : Value) (st : St) (q : Nat) (a b c : Cor) (area : Int) (front : Bool) (w : World)

/-- What lies under the call stays: so does the drawer. -/
theorem Dr.under {base p cB zB sB A n : Nat} {s : ByteArray} {k ways : Int} {shV outV : Value} {st st1 : St} {w A' B : World} (h : Dr base w p cB zB sB A n s k ways shV outV st) (h1 : Dr base A' p cB zB sB A n s k ways shV outV st1) (eS : st1.sh = st.sh) (eO : st1.out = st.out)
    (hk : Kept (fun i => i = p ∨ i = cB ∨ i = zB ∨ i = sB) w B) (hlow : ∀ i, i < w.heap.size → B.heap[i]? = A'.heap[i]?) : Dr base B p cB zB sB A n s k ways shV outV st1 := by
  obtain ⟨_, _, _, _, ⟨c1, b1, t1⟩, ⟨c2, b2, t2⟩, c3, b3, t3⟩ := h.sf.ex
  have no : ∀ {g : Nat} {cu : Array Value} {T : TypeId}, w.heap[g]? = some (.cells cu T (0, 0)) → T ≠ 74 → T ≠ 140 → T ≠ 145 → T ≠ 150 → ¬ (g = p ∨ g = cB ∨ g = zB ∨ g = sB) := by
    rintro g cu T hg n0 n1 n2 n3 (rfl | rfl | rfl | rfl)
    · exact ne_types hg h.bp n0 rfl
    · exact ne_types hg b1 n1 rfl
    · exact ne_types hg b2 n2 rfl
    · exact ne_types hg b3 n3 rfl
  obtain ⟨fc, fz, fs, hp, ⟨d1, e1, u1⟩, ⟨d2, e2, u2⟩, d3, e3, u3⟩ := h1.sf.ex
  refine ⟨(hlow _ (lt_of_heap h.bp)).trans h1.bp, ⟨h1.sf.hA, h1.sf.hn, fc, fz, fs, hp, ⟨d1, (hlow _ (lt_of_heap b1)).trans e1, u1⟩, ⟨d2, (hlow _ (lt_of_heap b2)).trans e2, u2⟩, d3, (hlow _ (lt_of_heap b3)).trans e3, u3⟩, ?_, ?_, h1.b0, h1.b1, h1.b2, h1.b3⟩
  · rw [eS]; exact h.sh.kept hk (fun g cur hg => no hg (by decide) (by decide) (by decide) (by decide))
  · rw [eO]; exact owns_kept h.out hk (fun g cur hg => no hg (by decide) (by decide) (by decide) (by decide))

theorem fold_same (a b c : Cor) (area : Int) : ∀ (l : List (Int × Int)) (st : St), (l.foldl (St.px a b c area) st).sh = st.sh ∧ (l.foldl (St.px a b c area) st).out = st.out
  | [], _ => ⟨rfl, rfl⟩
  | p :: l, st => by
    have h := px_same a b c area st p
    have h2 := fold_same a b c area l (st.px a b c area p)
    rw [List.foldl_cons]
    exact ⟨h2.1.trans (by simp [h]), h2.2.trans (by simp [h])⟩

theorem tiles_state (a b c : Cor) (area : Int) (st : St) (K : Int) (hok : st.Ok K) :
    ((if st.ww = 0 ∨ st.wh = 0 then [] else winTiles st.wx st.wy st.ww st.wh).flatMap (tilePx st.wx st.wy st.ww st.wh)).foldl (St.px a b c area) st = triY a b c area st.wh.toNat st.wy st := by
  rw [triY_tiles a b c area st K hok, ← List.foldl_flatMap]
  split
  · rename_i hz
    have he : (winTiles st.wx st.wy st.ww st.wh).flatMap (tilePx st.wx st.wy st.ww st.wh) = [] := by
      rw [List.flatMap_eq_nil_iff]
      intro t _
      rw [List.eq_nil_iff_forall_not_mem]
      intro p hp
      rw [mem_tilePx] at hp
      omega
    rw [he]
    rfl
  · rfl

/-- While tiles are drawn: the state, and the three boxes of the call. -/
structure TlInv (st0 : St) (px : List (Int × Int)) (W : World) : Prop where
  dr : Dr base W p cB zB sB A n s k ways shV outV (px.foldl (St.px a b c area) st0)
  hq : W.heap[q]? = some (.cells (trc a b c area front) 124 (0, 0))
  b0 : W.heap[w.heap.size]? = some (.cells #[.pointer (some ⟨p, 0, none⟩)] 45 (0, 0))
  b1 : W.heap[w.heap.size + 1]? = some (.cells #[.pointer (some ⟨q, 0, none⟩)] 128 (0, 0))
  b2 : W.heap[w.heap.size + 2]? = some (.cells #[.int .i64 st0.wx, .int .i64 st0.wy, .int .i64 st0.ww, .int .i64 st0.wh] 50 (0, 0))
  kp : Kept (fun i => i = p ∨ i = cB ∨ i = zB ∨ i = sB) w W

set_option maxRecDepth 100000 in
set_option maxHeartbeats 1000000 in
theorem drawTiles_in (hpx : PixAll base p cB zB sB A n s k ways shV outV q a b c area front) (K : Int) (h : Dr base w p cB zB sB A n s k ways shV outV st) (hok : st.Ok K) (hK : K + 20000 ≤ 1000000000000000)
    (hq : w.heap[q]? = some (.cells (trc a b c area front) 124 (0, 0))) (ha : a.Ok) (hb : b.Ok) (hc : c.Ok) (harea : edge a b c.x c.y = area) (hpos : 0 < area) :
    Calls Tryd.prog 63 #[.pointer (some ⟨p, 0, none⟩), .pointer (some ⟨q, 0, none⟩)] w fun e w' =>
      e = .returned (.tuple #[]) ∧ Dr base w' p cB zB sB A n s k ways shV outV (triY a b c area st.wh.toNat st.wy st) ∧ Low base w w' := by
  have lp := lt_of_heap h.bp
  have lq := lt_of_heap hq
  have cp := cell_of h.bp
  simp only [xcells] at cp
  have x0 := hok.wx0
  have y0 := hok.wy0
  have c0' := hok.ww0
  have r0 := hok.wh0
  have x1 := hok.wx1
  have y1 := hok.wy1
  have W1 := hok.W1
  have H1 := hok.H1
  have c4 : w.cell? ⟨p, 4, none⟩ = some (.int .i64 st.wx) := cp 4
  refine (callsIn_wide (n := 0)).1 ?_
  refine callsIn_of_wp_marks Tryd.func63 rfl trivial ?_ rfl
  simp only [Tryd.ntmps63, List.size_toArray, List.length_cons, List.length_nil, Nat.reduceAdd, Nat.reduceSub, Array.replicate_succ, Array.replicate_zero, List.push_toArray, List.append_toArray, List.nil_append, List.cons_append]
  gi_wp2
  refine gen_w (fun W => Dr base W p cB zB sB A n s k ways shV outV st ∧ W.heap[q]? = some (.cells (trc a b c area front) 124 (0, 0)) ∧ W.heap[w.heap.size]? = some (.cells #[.pointer (some ⟨p, 0, none⟩)] 45 (0, 0)) ∧ W.heap[w.heap.size + 1]? = some (.cells #[.pointer (some ⟨q, 0, none⟩)] 128 (0, 0)) ∧ W.heap.size = w.heap.size + 2 ∧ Below w.heap.size w W) (Code.wpIn Fence.wide 0 _ _ _ _) _ ?_ ?_
  · have hb2 : Below w.heap.size w ((w.alloc (.cells #[.pointer (some ⟨p, 0, none⟩)] 45)).alloc (.cells #[.pointer (some ⟨q, 0, none⟩)] 128)) := ((Below.refl _ _).alloc (Nat.le_refl _) _).alloc (by simp) _
    refine ⟨h.frame hb2, (hb2.block q lq).trans hq, (heap_alloc_old (by simp) _).trans (heap_alloc_new _ _), ?_, by simp, hb2⟩
    have := heap_alloc_new (w.alloc (.cells #[.pointer (some ⟨p, 0, none⟩)] 45)) (.cells #[.pointer (some ⟨q, 0, none⟩)] 128)
    rwa [World.size_alloc] at this
  rintro W ⟨hd, hqW, hb0, hb1, hsz, hlo⟩
  have cpW := cell_of hd.bp
  simp only [xcells] at cpW
  have e4 : W.cell? ⟨p, 4, none⟩ = some (.int .i64 st.wx) := cpW 4
  have e5 : W.cell? ⟨p, 5, none⟩ = some (.int .i64 st.wy) := cpW 5
  have e6 : W.cell? ⟨p, 6, none⟩ = some (.int .i64 st.ww) := cpW 6
  have e7 : W.cell? ⟨p, 7, none⟩ = some (.int .i64 st.wh) := cpW 7
  have c0 := cell_of hb0
  have HD : Hid (Dr base W p cB zB sB A n s k ways shV outV st) := hd
  clear cpW cp c4
  refine wpIn_wide.2 (wp_scope_straight ((wpIn_wide (n := 0)).1 ?_))
  gi_wp2
  refine wpIn_label ?_
  gi_wp2
  refine range_law (gf := 76) (r := boxV st.wx st.wy st.ww st.wh) rfl (enters_of Tryd.func76 (by kernel_rfl) rfl) (eachBox st.wx st.wy st.ww st.wh x0 (by omega) y0 (by omega) c0' (by omega) r0 (by omega)) (fun _ => rfl)
    (fun pre W' => w.heap.size + 3 ≤ W'.heap.size ∧ TlInv base p cB zB sB A n s k ways shV outV q a b c area front w st (pre.flatMap (tilePx st.wx st.wy st.ww st.wh)) W') ?hI ?hR ?h0
    (fun t => { tmps := #[.pointer (some ⟨p, 0, none⟩), .pointer (some ⟨q, 0, none⟩), .pointer (some ⟨w.heap.size, 0, none⟩), .pointer (some ⟨w.heap.size + 1, 0, none⟩), .pointer (some ⟨w.heap.size + 2, 0, none⟩), .int .i64 t.1, .int .i64 t.2, undef, undef, .pointer (some ⟨p, 0, none⟩), .pointer (some ⟨p, 0, none⟩), .pointer (some ⟨p, 2, none⟩), .pointer (some ⟨p, 4, none⟩), boxV st.wx st.wy st.ww st.wh, boxV st.wx st.wy st.ww st.wh, .func (.func 76) #[boxV st.wx st.wy st.ww st.wh] #[], .int .i64 t.1, .int .i64 t.2, undef, undef, undef, undef, undef, undef, undef, undef, undef, undef, undef, undef, undef, undef, undef, undef, undef, undef, undef, undef, undef, undef, undef, undef, undef, undef, undef, undef, undef, undef, undef, undef, undef, undef, undef, undef, undef, undef], defers := [] }) ?hassign ?hbody ?hdone
  case hI =>
    rintro pre A' B hs1 hbl ⟨hs, hi⟩
    simp only [World.size_alloc, hsz] at hs1 hbl
    have hkB : Kept (fun i => i = p ∨ i = cB ∨ i = zB ∨ i = sB) w B := ⟨hbl.os.trans hi.kp.os, hbl.tape.trans hi.kp.tape, hbl.output.trans hi.kp.output, Nat.le_trans hi.kp.size hbl.size, fun k hk hs' => (hbl.block k (by omega)).trans (hi.kp.block k hk hs')⟩
    have hsame := fold_same a b c area (pre.flatMap (tilePx st.wx st.wy st.ww st.wh)) st
    exact ⟨Nat.le_trans hs hbl.size, h.under hi.dr hsame.1 hsame.2 hkB (fun i hi => hbl.block i (by omega)), (hbl.block _ (by omega)).trans hi.hq, (hbl.block _ (by omega)).trans hi.b0, (hbl.block _ (by omega)).trans hi.b1, (hbl.block _ (by omega)).trans hi.b2, hkB⟩
  case hR =>
    rintro pre A' ⟨hs, hi⟩
    exact ⟨by simpa [hsz] using hs, trivial⟩
  case h0 =>
    refine ⟨by simp [hsz], HD.out.frame below1, (heap_alloc_old (lt_of_heap hqW) _).trans hqW, (heap_alloc_old (by omega) _).trans hb0, (heap_alloc_old (by omega) _).trans hb1, ?_, ((Kept.refl _ w).below hlo).alloc _⟩
    have := heap_alloc_new W (.cells #[.int .i64 st.wx, .int .i64 st.wy, .int .i64 st.ww, .int .i64 st.wh] 50)
    rwa [hsz] at this
  case hassign =>
    intro l t W' K hK'
    gi_wp2
    exact hK'
  case hbody =>
    rintro l pre t rest W' hx ⟨hs, hi⟩
    obtain ⟨hpl, t10, t11, t12, t20, t21, t22⟩ := tile_split x0 y0 (by omega) (by omega) hx
    have hfl := flatPx_length st.wx st.wy st.ww st.wh pre
    obtain ⟨X0, eX⟩ : ∃ X0 : Nat, max t.1 st.wx = (X0 : Int) := ⟨(max t.1 st.wx).toNat, by omega⟩
    obtain ⟨Y0, eY⟩ : ∃ Y0 : Nat, max t.2 st.wy = (Y0 : Int) := ⟨(max t.2 st.wy).toNat, by omega⟩
    obtain ⟨nx, enx⟩ : ∃ nx : Nat, (min (t.1 + 4) (st.wx + st.ww) - max t.1 st.wx).toNat = nx := ⟨_, rfl⟩
    obtain ⟨ny, eny⟩ : ∃ ny : Nat, (min (t.2 + 4) (st.wy + st.wh) - max t.2 st.wy).toNat = ny := ⟨_, rfl⟩
    have htp : tilePx st.wx st.wy st.ww st.wh t = rowsL X0 nx ny Y0 := by unfold tilePx; rw [enx, eny, eX, eY]
    have hnx4 : nx ≤ 4 := by omega
    have hny4 : ny ≤ 4 := by omega
    have mY : (if t.2 < st.wy then st.wy else t.2) = (Y0 : Int) := by split <;> omega
    have mX : (if t.1 < st.wx then st.wx else t.1) = (X0 : Int) := by split <;> omega
    have mE : (if st.wx + st.ww < t.1 + 4 then st.wx + st.ww else t.1 + 4) = (X0 : Int) + nx := by split <;> omega
    have mE' : (if t.1 + 4 < st.wx + st.ww then t.1 + 4 else st.wx + st.ww) = (X0 : Int) + nx := by split <;> omega
    have hyb : (Y0 : Int) + ny = t.2 + 4 ∨ ((Y0 : Int) + ny = st.wy + st.wh ∧ (Y0 : Int) + ny < t.2 + 4) := by omega
    have hyc : (Y0 : Int) + ny ≤ t.2 + 4 ∧ (Y0 : Int) + ny ≤ st.wy + st.wh := by omega
    have hxc : (X0 : Int) + nx ≤ t.1 + 4 ∧ (X0 : Int) + nx ≤ st.wx + st.ww := by omega
    generalize hpr : pre.flatMap (tilePx st.wx st.wy st.ww st.wh) = PR at *
    have HP : Hid (∀ (L : List (Int × Int)) (X Y : Nat) (W1 : World), L.length ≤ 16 → (X : Int) < st.wx + st.ww → (Y : Int) < st.wy + st.wh → TlInv base p cB zB sB A n s k ways shV outV q a b c area front w st (PR ++ L) W1 → Kept (fun i => i = p ∨ i = cB ∨ i = zB ∨ i = sB) W' W1 →
        Calls Tryd.prog 77 #[.pointer (some ⟨p, 0, none⟩), .pointer (some ⟨q, 0, none⟩), .int .i64 X, .int .i64 Y] W1 fun e W2 => e = .returned (.tuple #[]) ∧
          TlInv base p cB zB sB A n s k ways shV outV q a b c area front w st (PR ++ (L ++ [((X : Int), (Y : Int))])) W2 ∧ Kept (fun i => i = p ∨ i = cB ∨ i = zB ∨ i = sB) W' W2) := by
      intro L X Y W1 hL hX hY hI1 hk1
      have hfo := fold_ok a b c area ha hb hc harea hpos (PR ++ L) st K hok
      have hfk := fold_keeps a b c area (PR ++ L) st
      have hln : (PR ++ L).length ≤ 592 := by rw [List.length_append]; omega
      refine (hpx _ _ X Y W1 hI1.dr hfo (by omega) (by rw [hfk.1]; omega) (by rw [hfk.2.1]; omega) hI1.hq).mono ?_
      rintro e W2 ⟨rfl, hd2, hk2⟩
      obtain ⟨_, _, _, _, ⟨c1, b1, tt1⟩, ⟨c2, b2, tt2⟩, c3, b3, tt3⟩ := h.sf.ex
      have l1 := lt_of_heap b1
      have l2 := lt_of_heap b2
      have l3 := lt_of_heap b3
      have lW := hI1.kp.size
      have lb2 := lt_of_heap hI1.b2
      have nq : ¬ (q = p ∨ q = cB ∨ q = zB ∨ q = sB) := by
        rintro (rfl | rfl | rfl | rfl)
        · exact ne_types hq h.bp (by decide) rfl
        · exact ne_types hq b1 (by decide) rfl
        · exact ne_types hq b2 (by decide) rfl
        · exact ne_types hq b3 (by decide) rfl
      refine ⟨rfl, ⟨?_, (hk2.block q (by omega) nq).trans hI1.hq, (hk2.block _ (by omega) (by omega)).trans hI1.b0, (hk2.block _ (by omega) (by omega)).trans hI1.b1, (hk2.block _ (by omega) (by omega)).trans hI1.b2, hI1.kp.trans hk2⟩, hk1.trans hk2⟩
      rw [← List.append_assoc, List.foldl_append]
      exact hd2
    have HF : Hid (∀ W1, TlInv base p cB zB sB A n s k ways shV outV q a b c area front w st (PR ++ rowsL X0 nx ny Y0) W1 → Kept (fun i => i = p ∨ i = cB ∨ i = zB ∨ i = sB) W' W1 →
        (w.heap.size + 3 ≤ W1.heap.size ∧ TlInv base p cB zB sB A n s k ways shV outV q a b c area front w st ((pre ++ [t]).flatMap (tilePx st.wx st.wy st.ww st.wh)) W1) ∧
          ∀ kk, (W.alloc (.cells #[.int .i64 st.wx, .int .i64 st.wy, .int .i64 st.ww, .int .i64 st.wh] 50)).heap.size ≤ kk → kk < W'.heap.size → W1.heap[kk]? = W'.heap[kk]?) := by
      intro W1 hI1 hk1
      obtain ⟨_, _, _, _, ⟨c1, b1, tt1⟩, ⟨c2, b2, tt2⟩, c3, b3, tt3⟩ := h.sf.ex
      have l1 := lt_of_heap b1
      have l2 := lt_of_heap b2
      have l3 := lt_of_heap b3
      refine ⟨⟨Nat.le_trans hs hk1.size, ?_⟩, fun kk h1 h2 => hk1.block kk h2 ?_⟩
      · rw [List.flatMap_append, hpr]
        simp only [List.flatMap_cons, List.flatMap_nil, List.append_nil]
        rw [htp]; exact hI1
      · rw [World.size_alloc] at h1; omega
    have HI : Hid (TlInv base p cB zB sB A n s k ways shV outV q a b c area front w st (PR ++ rowsL X0 nx 0 Y0) W') := by show TlInv _ _ _ _ _ _ _ _ _ _ _ _ _ _ _ _ _ _ _ _ _ _ ; rw [rowsL, List.append_nil]; exact hi
    have cw := cell_of hi.b2
    clear hi hpr hx htp hfl hpx h hok hq ha hb hc harea hpos
    have HK0 : Hid (Kept (fun i => i = p ∨ i = cB ∨ i = zB ∨ i = sB) W' W') := Kept.refl _ _
    gi_wp2_with fail
    gi_loopg [7, 8] ny (fun m i _ wr => ∃ j : Nat, j + m = ny ∧ i = .int .i64 ((Y0 : Int) + j) ∧ Hid (TlInv base p cB zB sB A n s k ways shV outV q a b c area front w st (PR ++ rowsL X0 nx j Y0) wr) ∧ Hid (Kept (fun i => i = p ∨ i = cB ∨ i = zB ∨ i = sB) W' wr))
    case atStart => exact ⟨0, by omega, by simp, HI, HK0⟩
    case round =>
      obtain ⟨j, hj, rfl, hIj, hKj⟩ := hrel
      clear HI HK0 cw
      have cw := cell_of hIj.out.b2
      by_cases hlt : j < ny
      · obtain ⟨n', rfl⟩ : ∃ n', gk = n' + 1 := ⟨gk - 1, by omega⟩
        have g1 : (Y0 : Int) + (j : Int) < t.2 + 4 := by omega
        have g2 : ¬ (st.wy + st.wh ≤ (Y0 : Int) + (j : Int)) := by omega
        have HI0 : Hid (TlInv base p cB zB sB A n s k ways shV outV q a b c area front w st (PR ++ (rowsL X0 nx j Y0 ++ rowL ((Y0 : Int) + j) 0 X0)) wr) := by show TlInv _ _ _ _ _ _ _ _ _ _ _ _ _ _ _ _ _ _ _ _ _ _ ; rw [rowL, List.append_nil]; exact hIj.out
        clear hIj
        gi_wp2_with fail
        gi_loopg [8] nx (fun m i wq => ∃ kk : Nat, kk + m = nx ∧ i = .int .i64 ((X0 : Int) + kk) ∧ Hid (TlInv base p cB zB sB A n s k ways shV outV q a b c area front w st (PR ++ (rowsL X0 nx j Y0 ++ rowL ((Y0 : Int) + j) kk X0)) wq) ∧ Hid (Kept (fun i => i = p ∨ i = cB ∨ i = zB ∨ i = sB) W' wq))
        case atStart => exact ⟨0, by omega, by simp, HI0, hKj⟩
        case round =>
          obtain ⟨kk, hk, rfl, hJk, hKk⟩ := hrel
          clear HI0 hKj cw
          have cw := cell_of hJk.out.b2
          have cd := cell_of hJk.out.b0
          have cq := cell_of hJk.out.b1
          by_cases hlt2 : kk < nx
          · obtain ⟨n2, rfl⟩ : ∃ n2, gk = n2 + 1 := ⟨gk - 1, by omega⟩
            have g3 : (X0 : Int) + (kk : Int) < (X0 : Int) + nx := by omega
            have HC := HP.out (rowsL X0 nx j Y0 ++ rowL ((Y0 : Int) + j) kk X0) (X0 + kk) (Y0 + j) wr (by
              rw [List.length_append, rowsL_length, rowL_length]
              have : nx * j ≤ 4 * 3 := Nat.mul_le_mul hnx4 (by omega)
              omega) (by omega) (by omega) hJk.out hKk.out
            have ex : (((X0 + kk : Nat)) : Int) = (X0 : Int) + kk := by omega
            have ey : (((Y0 + j : Nat)) : Int) = (Y0 : Int) + j := by omega
            rw [ex, ey] at HC
            have HC' : Hid (Calls Tryd.prog 77 #[.pointer (some ⟨p, 0, none⟩), .pointer (some ⟨q, 0, none⟩), .int .i64 ((X0 : Int) + kk), .int .i64 ((Y0 : Int) + j)] wr fun e W2 => e = .returned (.tuple #[]) ∧
                TlInv base p cB zB sB A n s k ways shV outV q a b c area front w st (PR ++ (rowsL X0 nx j Y0 ++ rowL ((Y0 : Int) + j) (kk + 1) X0)) W2 ∧ Kept (fun i => i = p ∨ i = cB ∨ i = zB ∨ i = sB) W' W2) := by
              refine HC.mono ?_
              rintro e W2 ⟨rfl, hi2, hk2⟩
              refine ⟨rfl, ?_, hk2⟩
              rw [rowL_snoc, ← List.append_assoc (rowsL X0 nx j Y0)]
              exact hi2
            clear HC ex ey
            gi_wp2_with fail
            refine ⟨trivial, rfl, ?_⟩
            refine (CallsIn.inRound l (callsIn_wide.2 HC'.out)).mono ?_
            rintro e W2 ⟨rfl, hi2, hk2⟩
            have HI2 : Hid (TlInv base p cB zB sB A n s k ways shV outV q a b c area front w st (PR ++ (rowsL X0 nx j Y0 ++ rowL ((Y0 : Int) + j) (kk + 1) X0)) W2) := hi2
            have HK2 : Hid (Kept (fun i => i = p ∨ i = cB ∨ i = zB ∨ i = sB) W' W2) := hk2
            clear hi2 hk2 hJk hKk cw cd cq
            gi_wp2_with fail
            gi_roundg n2
            case rel => exact ⟨kk + 1, by omega, by go_num, HI2, HK2⟩
            case measure => omega
          · obtain rfl : gk = 0 := by omega
            obtain rfl : kk = nx := by omega
            have g3 : ¬ ((X0 : Int) + (kk : Int) < (X0 : Int) + kk) := by omega
            have HN : Hid (TlInv base p cB zB sB A n s k ways shV outV q a b c area front w st (PR ++ rowsL X0 kk (j + 1) Y0) wr) := by show TlInv _ _ _ _ _ _ _ _ _ _ _ _ _ _ _ _ _ _ _ _ _ _ ; rw [rowsL_snoc]; exact hJk.out
            clear hJk
            gi_wp2_with fail
            gi_roundg n'
            case rel => exact ⟨j + 1, by omega, by go_num, HN, hKk⟩
            case measure => omega
      · obtain rfl : gk = 0 := by omega
        obtain rfl : j = ny := by omega
        have HE := HF.out wr hIj.out hKj.out
        rcases hyb with hy | ⟨hy, hy'⟩
        · have g1 : ¬ ((Y0 : Int) + (j : Int) < t.2 + 4) := by omega
          clear hIj hKj
          gi_wp2_with fail
          exact ⟨by simpa [List.flatMap_append] using HE.1.2, fun k h1 h2 => HE.2 k (by rw [World.size_alloc, hsz]; omega) h2⟩
        · have g1 : (Y0 : Int) + (j : Int) < t.2 + 4 := by omega
          have g2 : st.wy + st.wh ≤ (Y0 : Int) + (j : Int) := by omega
          clear hIj hKj
          gi_wp2_with fail
          exact ⟨by simpa [List.flatMap_append] using HE.1.2, fun k h1 h2 => HE.2 k (by rw [World.size_alloc, hsz]; omega) h2⟩
  case hdone =>
    rintro D W' hD ⟨hs, hi⟩ hK'
    gi_wp2
    refine ⟨by simp, .inl ⟨_, _, rfl, run_takeDeferred hK', ?_⟩⟩
    have hD' : w.heap.size + 3 ≤ D := by simpa [hsz] using hD
    rw [← tiles_state a b c area st K hok]
    have hsame := fold_same a b c area ((if st.ww = 0 ∨ st.wh = 0 then [] else winTiles st.wx st.wy st.ww st.wh).flatMap (tilePx st.wx st.wy st.ww st.wh)) st
    have kp := hi.kp
    have hkB : ∀ ob, Kept (fun i => i = p ∨ i = cB ∨ i = zB ∨ i = sB) w (W'.putObj D ob) := fun ob => ⟨kp.os, kp.tape, kp.output, by rw [World.putObj_size]; exact kp.size, fun k hk hs' => (World.putObj_heap_other (by omega)).trans (kp.block k hk hs')⟩
    have g0 := h.b0
    have g1 := h.b1
    have g2 := h.b2
    have g3 := h.b3
    obtain ⟨_, _, _, _, ⟨c1, b1, tt1⟩, ⟨c2, b2, tt2⟩, c3, b3, tt3⟩ := h.sf.ex
    refine ⟨_, results_none rfl _ _ _, rfl, h.under hi.dr hsame.1 hsame.2 (hkB _) (fun i hi => World.putObj_heap_other (by omega)), low_kept (hkB _) (fun g e => ?_) (fun g e => ?_) (by have := lt_of_heap h.bp; omega)⟩
    · rcases e with rfl | rfl | rfl | rfl
      · exact g0
      · exact g1
      · exact g2
      · exact g3
    · rcases e with rfl | rfl | rfl | rfl
      · exact ⟨_, _, h.bp, by decide⟩
      · exact ⟨_, _, b1, by decide⟩
      · exact ⟨_, _, b2, by decide⟩
      · exact ⟨_, _, b3, by decide⟩
end
end Go.Proofs.YtifloehpdkfchaaDoor
