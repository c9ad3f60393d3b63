import Derived.Test.YthcikinkicpicaaGreatDoorA01
import Derived.Test.YthcikinkicpicaaGreatDoorD01
import Derived.Deep.Onto
import Derived.Deep.LoopGhost
import Derived.Laws.IdiomStrings
import Derived.ChangeAgain
import Derived.Test.YthcikinkicpicaaGreatDoorD05

namespace Go.Proofs.YthcikinkicpicaaGreatDoor
open Go.RowKit

def bcells (l : List UInt8) : List Value := l.map fun b => Value.int .u8 (b.toNat : Int)

/-- A slice of bytes that began as []byte(s), and onto which l was appended. -/
structure Grow (w W : World) (s : ByteArray) (cap : Nat) (l : List UInt8) (v : Value) (wr : World) : Prop where
  came : Came W 1 (some ⟨w.heap.size, 0, none⟩) w.heap.size 0 s.size cap (bcells s.data.toList)
  onto : Onto W 5 1 (some ⟨w.heap.size, 0, none⟩) w.heap.size 0 s.size cap (bcells s.data.toList) wr v l.length (bcells l)
  bel : Below w.heap.size w W
  capm : cap ≤ maxLen

theorem grow_start (w : World) (s : ByteArray) (hs : s.size ≤ maxLen) :
    Grow w (w.drew.alloc (.cells (bytesRow s (grownCap w s.size 0 5)) 5 ((bytesRow s (grownCap w s.size 0 5)).size, (bytesRow s (grownCap w s.size 0 5)).size + 1))) s (grownCap w s.size 0 5) []
      (.slice (some ⟨w.heap.size, 0, none⟩) s.size (grownCap w s.size 0 5))
      (w.drew.alloc (.cells (bytesRow s (grownCap w s.size 0 5)) 5 ((bytesRow s (grownCap w s.size 0 5)).size, (bytesRow s (grownCap w s.size 0 5)).size + 1))) := by
  have hge := grownCap_ge w s.size 0 5
  have hle := grownCap_le_maxLen w s.size 0 5 hs
  generalize grownCap w s.size 0 5 = C at *
  have hsz : (bytesRow s C).size = C := by
    simp [bytesRow]; omega
  have hb : Below w.heap.size w (w.drew.alloc (.cells (bytesRow s C) 5 ((bytesRow s C).size, (bytesRow s C).size + 1))) := ((Below.refl _ _).drew).alloc (Nat.le_refl _) _
  have hblk : (w.drew.alloc (.cells (bytesRow s C) 5 ((bytesRow s C).size, (bytesRow s C).size + 1))).heap[w.heap.size]? = some (.cells (bytesRow s C) 5 ((bytesRow s C).size, (bytesRow s C).size + 1)) := heap_alloc_new w.drew _
  have hcell := cell_of hblk
  have hcame : Came (w.drew.alloc (.cells (bytesRow s C) 5 ((bytesRow s C).size, (bytesRow s C).size + 1))) 1 (some ⟨w.heap.size, 0, none⟩) w.heap.size 0 s.size C (bcells s.data.toList) := by
    refine ⟨hge, fun _ => rfl, fun _ => lt_of_heap hblk, by simp [bcells], fun j u hj => ?_, fun j hj => ?_⟩
    · rw [Nat.zero_add, hcell]
      have hlt : j < s.data.toList.length := by
        have := (List.getElem?_eq_some_iff.1 hj).1
        simpa [bcells] using this
      rw [← hj]
      simp [bytesRow, bcells]
      rw [Array.getElem?_append_left (by simpa using hlt)]
      simp
    · refine ⟨?_, ?_⟩
      · rw [hcell]
        have : 0 + s.size * 1 + j < (bytesRow s C).size := by rw [hsz]; omega
        rw [Array.getElem?_eq_getElem this]; rfl
      · simp only [World.frozen?, hblk]
        simp [hsz]
        omega
  exact ⟨hcame, Onto.start hcame, hb, hle⟩

/-- Old blocks are as they were. -/
structure Old (w w' : World) : Prop where
  os : w'.os = w.os
  output : w'.output = w.output
  size : w.heap.size ≤ w'.heap.size
  block : ∀ k, k < w.heap.size → w'.heap[k]? = w.heap[k]?

theorem Old.of {w w' : World} (h : Below w.heap.size w w') : Old w w' := ⟨h.os, h.output, h.size, h.block⟩
theorem Old.trans {w w' w'' : World} (h : Old w w') (h' : Old w' w'') : Old w w'' :=
  ⟨h'.os.trans h.os, h'.output.trans h.output, Nat.le_trans h.size h'.size, fun k hk => (h'.block k (Nat.lt_of_lt_of_le hk h.size)).trans (h.block k hk)⟩
theorem Old.frame {W w' : World} (h : Old W w') (may : MemPlace → Prop) : W.keptBut w' may := by
  refine ⟨h.os, h.output, fun i hi => ?_⟩
  rw [h.block i hi]
  split <;> simp_all

theorem Grow.low {w W : World} {s : ByteArray} {cap : Nat} {l : List UInt8} {v : Value} {wr : World} (h : Grow w W s cap l v wr) : Old w wr := by
  have h1 := h.bel.size
  have h2 := h.onto.kept.size
  refine ⟨h.onto.kept.1.trans h.bel.os, h.onto.kept.2.1.trans h.bel.output, by omega, fun k hk => ?_⟩
  rw [h.onto.kept.block (by omega) (fun p ⟨j, _, _, e⟩ => by subst e; simp [MemPlace.block]; omega)]
  exact h.bel.block k hk

/-- Some bytes, in new memory. -/
def BSc (w : World) (c : List Int) (v : Value) (wr : World) : Prop := ∃ W s cap l, Grow w W s cap l v wr ∧ s.data.toList ++ l = c.map fun v => UInt8.ofNat v.toNat

theorem BSc.alloc {w : World} {c : List Int} {v : Value} {wr : World} (h : BSc w c v wr) (o : Obj) : BSc w c v (wr.alloc o) := by
  obtain ⟨W, s, cap, l, h, e⟩ := h
  exact ⟨W, s, cap, l, ⟨h.came, h.onto.alloc h.came o, h.bel, h.capm⟩, e⟩
theorem BSc.drew {w : World} {c : List Int} {v : Value} {wr : World} (h : BSc w c v wr) : BSc w c v wr.drew := by
  obtain ⟨W, s, cap, l, h, e⟩ := h
  exact ⟨W, s, cap, l, ⟨h.came, h.onto.drew h.came, h.bel, h.capm⟩, e⟩
theorem BSc.old {w : World} {c : List Int} {v : Value} {wr : World} (h : BSc w c v wr) : Old w wr := by
  obtain ⟨W, s, cap, l, h, e⟩ := h
  exact h.low
theorem BSc.size {s : ByteArray} {l : List UInt8} {c : List Int} (e : s.data.toList ++ l = c.map fun v => UInt8.ofNat v.toNat) : s.size + l.length = c.length := by
  have := congrArg List.length e
  simpa using this

theorem wpList_append_c {P : Program} (w : World) {ops : Array Oper} {rest : List Oper} {o : Oper} {a : Act} {Q : Exit → Act → World → Prop} (hgd : o.guard = none) (s x : Operand) (t : TypeId)
    (ho : o.op = .call { callee := .builtin .append, args := #[s, x], argTypes := #[t, t] })
    (i : TypeInfo) (z : Value) (h1 : P.underlying t = some (.slice 5)) (h2 : P.info? 5 = some i) (h3 : i.zero = some z) (h4 : i.size = 1) (h5 : i.bytes = 1) (h6 : z.cells.size = 1)
    (w0 : World) (v : Value) (cI : List Int) (hs : a.eval s = v) (hown : BSc w0 cI v w)
    (ad : Addr) (c : Nat) (k : Int) (k0 : 0 ≤ k) (k1 : k < 256) (hx : a.eval x = .slice (some ad) 1 c) (hc : w.cell? (ad.add 0) = some (.int .u8 k))
    (b1 : cI.length ≤ 1000000000000)
    (hK : ∀ v' w', BSc w0 (cI ++ [k]) v' w' → wpList P ops Q rest (a.put o.dst v') w') : wpList P ops Q (o :: rest) a w := by
  refine wpList_plain hgd fun K hK' => ?_
  obtain ⟨W, sb, cap, l, h, e⟩ := hown
  have es := BSc.size e
  obtain ⟨k, rfl⟩ := Int.eq_ofNat_of_zero_le k0
  have hk : (UInt8.ofNat k).toNat = k := by simp; omega
  obtain ⟨v', w', hrun, r⟩ := run_append_onto (P := P) h.came t o.type i z 1 h1 h2 h3 h4 h5 h6 (by decide) h.onto ad c [.int .u8 (k : Int)] rfl (fun j u hj => by
    rcases j with _ | j
    · simp at hj; subst hj; exact hc
    · simp at hj) (by simp [Value.oneCell']) (by unfold maxLen; omega) (by omega)
  have r' : BSc w0 (cI ++ [(k : Int)]) v' w' := ⟨W, sb, cap, l ++ [UInt8.ofNat k], ⟨h.came, by simpa only [bcells, List.map_append, List.map_cons, List.map_nil, hk, List.length_append, List.length_cons, List.length_nil] using r, h.bel, h.capm⟩, by rw [← List.append_assoc, e, List.map_append]; rfl⟩
  unfold Oper.wp
  simp [execOp, ho, resolve, invoke, builtin, hs, hx, hrun, Result.andThen]
  exact hK' _ _ (hK v' w' r')

theorem lit1c (w : World) (a : Value) (T : TypeId) : (w.alloc (.cells #[a] T)).cell? ((⟨w.heap.size, 0, none⟩ : Addr).add 0) = some a :=
  World.cell?_alloc_at (w := w) #[a] T w.heap.size 0 rfl

theorem BSc.back {w : World} {c : List Int} {v : Value} {wr : World} (h : BSc w c v wr) :
    ∃ (g o cap : Nat), v = .slice (some ⟨g, o, none⟩) (c.map fun v => UInt8.ofNat v.toNat).length cap ∧ ∀ j (hj : j < (c.map fun v => UInt8.ofNat v.toNat).length), wr.cell? ((⟨g, o, none⟩ : Addr).add j) = some (.int .u8 ((c.map fun v => UInt8.ofNat v.toNat)[j].toNat : Int)) := by
  obtain ⟨W, s, cap, l, h, e⟩ := h
  rw [← e]
  have hl : (s.data.toList ++ l).length = s.size + l.length := by simp
  by_cases hpos : 0 < cap ∨ 0 < l.length
  · obtain ⟨g, o, cap', rfl, _, _, hc⟩ := h.onto.value h.came h.capm hpos
    refine ⟨g, o, cap', by rw [hl], fun j hj => ?_⟩
    have := hc j (by rw [hl] at hj; omega)
    rw [show (⟨g, o, none⟩ : Addr).add j = ⟨g, o + j, none⟩ from by simp [Addr.add], this]
    have hj' : j < (s.data.toList ++ l).length := hj
    simp only [bcells, ← List.map_append, List.getElem?_map, List.getElem?_eq_getElem hj', Option.map_some]
  · have hc0 : cap = 0 := by omega
    have hl0 : l.length = 0 := by omega
    have hv := h.onto.bare h.came hc0 hl0
    have hs0 := h.came.le
    have hz : (s.data.toList ++ l).length = 0 := by rw [hl]; omega
    refine ⟨w.heap.size, 0, 0, by rw [hz]; simpa using hv, fun j hj => by omega⟩

theorem Tryz.infoByte : (Tryz.prog.info? 5).map (fun i => (i.zero, i.size, i.bytes)) = some (some (.int .u8 0), 1, 1) := by kernel_rfl

end Go.Proofs.YthcikinkicpicaaGreatDoor

namespace Go.Proofs.YthcikinkicpicaaGreatDoor

/-- No shader, every test 'always', stencils that count. -/
structure CountT (st : St) : Prop where
  sh : st.sh = []
  depth : st.T.depth = 7
  test : st.T.test = 7
  pass : st.T.pass = 3
  writes : st.T.writes = 255

theorem CountT.px {st : St} (h : CountT st) (u v x : Cor) (ar : Int) (p : Int × Int) : CountT (st.px u v x ar p) := by
  have hs := px_same u v x ar st p
  exact ⟨hs.2.2.2.2.2.2.2.1.trans h.sh, by rw [hs.2.2.1]; exact h.depth, by rw [hs.2.2.1]; exact h.test, by rw [hs.2.2.1]; exact h.pass, by rw [hs.2.2.1]; exact h.writes⟩

def St.ste (st : St) (i : Nat) : Int := (st.dots.getD i dot0).s

theorem ior0 (a : Int) (h : 0 ≤ a) : ior 0 a = a := by unfold ior; simp; omega
theorem iand0 (a : Int) : iand a 0 = 0 := by unfold iand; simp
theorem iand255 (a : Int) (h0 : 0 ≤ a) (h1 : a ≤ 255) : iand a 255 = a := by
  unfold iand
  have : a.toNat &&& 255 = a.toNat := by
    rw [show (255 : Nat) = 2 ^ 8 - 1 from rfl, Nat.and_two_pow_sub_one_eq_mod]
    exact Nat.mod_eq_of_lt (by omega)
  show ((a.toNat &&& (255 : Int).toNat : Nat) : Int) = a
  rw [show (255 : Int).toNat = 255 from rfl, this]
  omega

theorem res_count {T : Tst} (h1 : T.depth = 7) (h2 : T.test = 7) (h3 : T.pass = 3) (h4 : T.writes = 255) (f o : Dot) (o0 : 0 ≤ o.s) (o1 : o.s < 255) : (dotRes T f o).1.s = o.s + 1 ∧ (dotRes T f o).2 = true := by
  unfold dotRes
  have h7 : ∀ a b, testB 7 a b = true := fun a b => by simp [testB]
  rw [h1, h2, h7, h7]
  simp only [Bool.true_eq_false, if_false]
  refine ⟨?_, trivial⟩
  unfold made stenNew
  rw [h3, h4]
  simp only [show (3 : Int) ≠ 1 from by decide, show (3 : Int) ≠ 2 from by decide, if_false, if_true, o1]
  rw [show (255 : Int) - 255 = 0 from rfl, iand0, iand255 _ (by omega) (by omega), ior0 _ (by omega)]

theorem dot_count {st : St} (h : CountT st) (d : Dot) (x y : Int) : ∃ f : Dot, st.dot d x y = { st with dots := st.dots.set (y * st.W + x).toNat (dotRes st.T f (st.dots.getD (y * st.W + x).toNat dot0)).1, qs := if (dotRes st.T f (st.dots.getD (y * st.W + x).toNat dot0)).2 then st.qs.map count else st.qs } := by
  refine ⟨{ r := within d.r 0 255, g := within d.g 0 255, b := within d.b 0 255, d := d.d, s := d.s }, ?_⟩
  unfold St.dot shaded
  rw [h.sh]
  rfl

/-- One pixel. -/
theorem px_ste {st : St} (h : CountT st) (u v x : Cor) (ar : Int) (p : Int × Int) (hi : idxOf st p < st.dots.length) (o0 : 0 ≤ st.ste (idxOf st p)) (o1 : st.ste (idxOf st p) < 255) :
    (∀ i, (st.px u v x ar p).ste i = st.ste i + if covB u v x p.1 p.2 = true ∧ idxOf st p = i then 1 else 0) ∧ (st.px u v x ar p).qs = if covB u v x p.1 p.2 = true then st.qs.map count else st.qs := by
  unfold St.px
  by_cases hc : covB u v x p.1 p.2 = true
  · rw [if_pos hc, if_pos hc]
    obtain ⟨f, e⟩ := dot_count h (pix u v x ar p.1 p.2) p.1 p.2
    unfold St.ste idxOf at o0 o1
    unfold idxOf at hi
    have hr := res_count h.depth h.test h.pass h.writes f (st.dots.getD (p.2 * st.W + p.1).toNat dot0) o0 o1
    rw [e]
    refine ⟨fun i => ?_, ?_⟩
    · unfold St.ste idxOf
      show ((st.dots.set _ _).getD i dot0).s = _
      by_cases hj : (p.2 * st.W + p.1).toNat = i
      · subst hj
        rw [getD_set_self hi, hr.1, if_pos ⟨hc, rfl⟩]
      · rw [getD_set_ne hj, if_neg (fun h => hj h.2)]; omega
    · show (if _ then _ else _) = _
      rw [hr.2]; rfl
  · rw [if_neg hc, if_neg hc]
    exact ⟨fun i => by rw [if_neg (fun h => hc h.1)]; omega, rfl⟩

/-- A triangle's pixels, each once: one more where it is covered; and so many are counted. -/
theorem fold_ste (u v x : Cor) (ar : Int) : ∀ (l : List (Int × Int)) (st : St), CountT st → (∀ p ∈ l, idxOf st p < st.dots.length) → (l.map (idxOf st)).Nodup → (∀ i, 0 ≤ st.ste i ∧ st.ste i + l.length ≤ 254) →
    CountT (l.foldl (St.px u v x ar) st) ∧ (∀ i, (l.foldl (St.px u v x ar) st).ste i = st.ste i + if ∃ p ∈ l, covB u v x p.1 p.2 = true ∧ idxOf st p = i then 1 else 0)
  | [], st, h, _, _, _ => ⟨h, fun i => by simp⟩
  | q :: l, st, h, hi, hn, hb => by
    have hs := px_same u v x ar st q
    have hix : ∀ p, idxOf (st.px u v x ar q) p = idxOf st p := fun p => by unfold idxOf; rw [hs.1]
    have hL : (st.px u v x ar q).dots.length = st.dots.length := hs.2.2.2.2.2.2.2.2.2
    have hq := px_ste h u v x ar q (hi q (by simp)) (hb _).1 (by have := (hb (idxOf st q)).2; simp only [List.length_cons] at this; omega)
    have hmap : l.map (idxOf (st.px u v x ar q)) = l.map (idxOf st) := List.map_congr_left (fun p _ => hix p)
    rw [List.map_cons, List.nodup_cons] at hn
    have hst : ∀ i, (st.px u v x ar q).ste i = st.ste i ∨ (st.px u v x ar q).ste i = st.ste i + 1 := fun i => by
      rw [hq.1 i]; split
      · exact .inr rfl
      · exact .inl (by omega)
    have hr := fold_ste u v x ar l (st.px u v x ar q) (h.px u v x ar q) (fun p hp => by rw [hix, hL]; exact hi p (by simp [hp])) (by rw [hmap]; exact hn.2) (fun i => by
      have h1 := hb i
      simp only [List.length_cons] at h1
      rcases hst i with e | e <;> rw [e] <;> omega)
    rw [List.foldl_cons]
    refine ⟨hr.1, fun i => ?_⟩
    rw [hr.2 i, hq.1 i]
    by_cases hc : covB u v x q.1 q.2 = true ∧ idxOf st q = i
    · have hno : ¬ ∃ p ∈ l, covB u v x p.1 p.2 = true ∧ idxOf (st.px u v x ar q) p = i := by
        rintro ⟨p, hp, _, e⟩
        rw [hix, ← hc.2] at e
        exact hn.1 (List.mem_map.2 ⟨p, hp, e⟩)
      rw [if_pos hc, if_neg hno, if_pos ⟨q, by simp, hc⟩]; omega
    · rw [if_neg hc]
      have hiff : (∃ p ∈ l, covB u v x p.1 p.2 = true ∧ idxOf (st.px u v x ar q) p = i) ↔ ∃ p ∈ q :: l, covB u v x p.1 p.2 = true ∧ idxOf st p = i := by
        constructor
        · rintro ⟨p, hp, h1, h2⟩
          exact ⟨p, by simp [hp], h1, by rw [← hix]; exact h2⟩
        · rintro ⟨p, hp, h1, h2⟩
          rcases List.mem_cons.1 hp with rfl | hp
          · exact absurd ⟨h1, h2⟩ hc
          · exact ⟨p, hp, h1, by rw [hix]; exact h2⟩
      by_cases hx : ∃ p ∈ q :: l, covB u v x p.1 p.2 = true ∧ idxOf st p = i
      · rw [if_pos hx, if_pos (hiff.2 hx)]; omega
      · rw [if_neg hx, if_neg (fun h => hx (hiff.1 h))]; omega

/-- So many stencils as are counted. -/
def St.total (st : St) : Int := (st.dots.map Dot.s).sum
theorem sum_set : ∀ (l : List Dot) (i : Nat) (o : Dot), i < l.length → ((l.set i o).map Dot.s).sum = (l.map Dot.s).sum - (l.getD i dot0).s + o.s
  | [], i, _, h => by simp at h
  | a :: l, 0, o, _ => by simp; omega
  | a :: l, i + 1, o, h => by
    have := sum_set l i o (by simpa using h)
    simp only [List.set_cons_succ, List.map_cons, List.sum_cons, List.getD_cons_succ, this]
    omega
theorem le_sum : ∀ (l : List Dot) (i : Nat), (∀ o ∈ l, 0 ≤ o.s) → (l.getD i dot0).s ≤ (l.map Dot.s).sum ∧ 0 ≤ (l.map Dot.s).sum
  | [], i, _ => by simp [dot0]
  | a :: l, i, h => by
    have h1 := h a (by simp)
    have h2 := fun i => le_sum l i (fun o ho => h o (by simp [ho]))
    cases i with
    | zero => have := (h2 0).2; simp; omega
    | succ i => have := h2 i; simp only [List.getD_cons_succ, List.map_cons, List.sum_cons]; omega

theorem fold_total (u v x : Cor) (ar : Int) : ∀ (l : List (Int × Int)) (st : St) (n : Int), CountT st → (∀ p ∈ l, idxOf st p < st.dots.length) → (∀ o ∈ st.dots, 0 ≤ o.s) → st.qs = [{ ever := true, on := true, n := n }, q0, q0, q0] → st.total = n → n + l.length ≤ 254 →
    ∃ m, (l.foldl (St.px u v x ar) st).qs = [{ ever := true, on := true, n := m }, q0, q0, q0] ∧ (l.foldl (St.px u v x ar) st).total = m
  | [], st, n, _, _, _, hq, ht, _ => ⟨n, hq, ht⟩
  | q :: l, st, n, h, hi, h0, hq, ht, hn => by
    have hs := px_same u v x ar st q
    have hix : ∀ p, idxOf (st.px u v x ar q) p = idxOf st p := fun p => by unfold idxOf; rw [hs.1]
    have hL : (st.px u v x ar q).dots.length = st.dots.length := hs.2.2.2.2.2.2.2.2.2
    simp only [List.length_cons] at hn
    rw [List.foldl_cons]
    by_cases hc : covB u v x q.1 q.2 = true
    · have hiq := hi q (by simp)
      obtain ⟨f, e⟩ := dot_count h (pix u v x ar q.1 q.2) q.1 q.2
      have hle := le_sum st.dots (q.2 * st.W + q.1).toNat h0
      have htt : (st.dots.map Dot.s).sum = n := ht
      have hnn : 0 ≤ (st.dots.getD (q.2 * st.W + q.1).toNat dot0).s := by
        rw [List.getD_eq_getElem?_getD]
        unfold idxOf at hiq
        rw [List.getElem?_eq_getElem hiq]
        exact h0 _ (List.getElem_mem _)
      have hr := res_count h.depth h.test h.pass h.writes f (st.dots.getD (q.2 * st.W + q.1).toNat dot0) hnn (by omega)
      have ep : st.px u v x ar q = st.dot (pix u v x ar q.1 q.2) q.1 q.2 := by unfold St.px; rw [if_pos hc]
      refine fold_total u v x ar l (st.px u v x ar q) (n + 1) (h.px u v x ar q) (fun p hp => by rw [hix, hL]; exact hi p (by simp [hp])) ?_ ?_ ?_ (by omega)
      · rw [ep, e]
        intro o ho
        rcases mem_set (show o ∈ st.dots.set _ _ from ho) with h1 | h1
        · exact h0 o h1
        · rw [h1, hr.1]; omega
      · rw [ep, e]
        show (if _ then _ else _) = _
        rw [hr.2, hq]
        rfl
      · rw [ep, e]
        show ((st.dots.set _ _).map Dot.s).sum = _
        rw [sum_set _ _ _ (show (q.2 * st.W + q.1).toNat < st.dots.length from hiq), hr.1]
        omega
    · have ep : st.px u v x ar q = st := by unfold St.px; rw [if_neg hc]
      rw [ep]
      exact fold_total u v x ar l st n h (fun p hp => hi p (by simp [hp])) h0 hq ht (by omega)
end Go.Proofs.YthcikinkicpicaaGreatDoor

namespace Go.Proofs.YthcikinkicpicaaGreatDoor

theorem runC_append : ∀ (a b : List (Int × List Int)) (i : Nat) (st : St), runC (a ++ b) i st = runC b (i + (encC a).length) (runC a i st)
  | [], b, i, st => by simp [runC, encC]
  | (k, l) :: a, b, i, st => by
    rw [List.cons_append, runC, runC, runC_append a b, encC_cons]
    congr 1
    simp only [List.length_cons, List.length_append]
    omega

def rdC (i : Nat) : Int × List Int := (13, [3, ((i % 8 : Nat) : Int), ((i / 8 : Nat) : Int)])
theorem one_read (st : St) (hW : st.W = 8) (hH : st.H = 8) (i : Nat) (hi : i < 64) (k : Int) : st.one (rdC i).1 (rdC i).2 k = { st with out := st.out ++ [{ k := 3, a := st.ste i, b := 0, c := 0 }] } := by
  have hb : badB st.W st.H 13 [3, ((i % 8 : Nat) : Int), ((i / 8 : Nat) : Int)] = false := by
    rw [hW, hH]
    simp [badB]
    omega
  have hd : st.does 13 [3, ((i % 8 : Nat) : Int), ((i / 8 : Nat) : Int)] = ({ st with out := st.out ++ [{ k := 3, a := st.ste i, b := 0, c := 0 }] }, 0) := by
    have hx : (((i / 8 : Nat) : Int) * st.W + ((i % 8 : Nat) : Int)).toNat = i := by rw [hW]; omega
    have hp : st.pixel 3 ((i % 8 : Nat) : Int) ((i / 8 : Nat) : Int) = { st with out := st.out ++ [{ k := 3, a := st.ste i, b := 0, c := 0 }] } := by
      unfold St.pixel St.ste pixRep
      rw [hx, if_pos rfl]
    unfold St.does
    simp only [show (13 : Int) ≠ 1 from by decide, show (13 : Int) ≠ 2 from by decide, show (13 : Int) ≠ 3 from by decide, show (13 : Int) ≠ 4 from by decide, show (13 : Int) ≠ 5 from by decide, show (13 : Int) ≠ 6 from by decide, show (13 : Int) ≠ 7 from by decide, show (13 : Int) ≠ 8 from by decide, show (13 : Int) ≠ 9 from by decide, show ¬ ((13 : Int) = 10 ∨ (13 : Int) = 11 ∨ (13 : Int) = 14) from by decide, if_false, if_true]
    show (st.pixel 3 ((i % 8 : Nat) : Int) ((i / 8 : Nat) : Int), (0 : Int)) = _
    rw [hp]
  unfold St.one rdC
  simp only [hb, hd, Bool.false_eq_true, if_false, if_true]
theorem run_reads : ∀ (l : List Nat) (k : Nat) (st : St), st.W = 8 → st.H = 8 → (∀ i ∈ l, i < 64) → runC (l.map rdC) k st = { st with out := st.out ++ l.map fun i => { k := 3, a := st.ste i, b := 0, c := 0 } }
  | [], k, st, _, _, _ => by simp [runC]
  | i :: l, k, st, hW, hH, h => by
    have e := one_read st hW hH i (h i (by simp)) k
    rw [List.map_cons, show rdC i = ((rdC i).1, (rdC i).2) from rfl, runC, e, run_reads l _ { st with out := st.out ++ [{ k := 3, a := st.ste i, b := 0, c := 0 }] } hW hH (fun j hj => h j (by simp [hj]))]
    simp only [List.append_assoc, List.map_cons, List.cons_append, List.nil_append]
    rfl

/-- The pane with stencils that count. -/
def stCnt : St := { st0 with T := { T0 with test := 7, value := 0, which := 255, writes := 255, fail := 0, dfail := 0, pass := 3 } }
theorem one_cnt : st0.one 4 [7, 0, 255, 255, 0, 0, 3] 0 = stCnt := rfl

/-- A pane of 8 by 8, all of it the window, both faces drawn, stencils that count. -/
structure Cnt8 (st : St) : Prop where
  t : CountT st
  W : st.W = 8
  H : st.H = 8
  wx : st.wx = 0
  wy : st.wy = 0
  ww : st.ww = 8
  wh : st.wh = 8
  faces : st.T.faces = 0
  len : st.dots.length = 64
theorem cnt8_start : Cnt8 stCnt := ⟨⟨rfl, rfl, rfl, rfl, rfl⟩, rfl, rfl, rfl, rfl, rfl, rfl, rfl, by show (List.replicate 64 dot1).length = 64; simp⟩

def rows8 : List (Int × Int) := rowsL 0 8 8 0
theorem rows8_idx (st : St) (h : st.W = 8) : (∀ p ∈ rows8, idxOf st p < 64) ∧ (rows8.map (idxOf st)).Nodup := by
  have e : rows8.map (idxOf st) = rows8.map fun p => (p.2 * 8 + p.1).toNat := by
    refine List.map_congr_left (fun p _ => ?_)
    unfold idxOf; rw [h]
  refine ⟨fun p hp => ?_, by rw [e]; decide⟩
  unfold rows8 at hp
  rw [mem_rowsL] at hp
  unfold idxOf
  rw [h]
  omega
theorem idx_inj {st : St} (h : st.W = 8) {p q : Int × Int} (hp : p ∈ rows8) (hq : q ∈ rows8) (e : idxOf st p = idxOf st q) : p = q := by
  unfold rows8 at hp hq
  rw [mem_rowsL] at hp hq
  unfold idxOf at e
  rw [h] at e
  exact Prod.ext (by omega) (by omega)

/-- Does a triangle cover a pixel? -/
def covT (a b c : Cor) (p : Int × Int) : Prop := edge a b c.x c.y ≠ 0 ∧ (if edge a b c.x c.y < 0 then covB a c b p.1 p.2 = true else covB a b c p.1 p.2 = true)

theorem tri_ste {st : St} (h : Cnt8 st) (a b c : Cor) (hb : ∀ i, 0 ≤ st.ste i ∧ st.ste i ≤ 100) :
    Cnt8 (st.tri a b c) ∧ (st.tri a b c).out = st.out ∧ ∃ f : Nat → Int, (∀ i, f i = 0 ∨ (f i = 1 ∧ ∃ p ∈ rows8, covT a b c p ∧ idxOf st p = i)) ∧ ∀ i, (st.tri a b c).ste i = st.ste i + f i := by
  by_cases h0 : edge a b c.x c.y = 0
  · have e : st.tri a b c = st := by unfold St.tri; rw [if_pos (.inl h0)]
    rw [e]
    exact ⟨h, rfl, fun _ => 0, fun _ => .inl rfl, fun i => (Int.add_zero _).symm⟩
  · have key : ∀ (u v x : Cor) (ar : Int), st.tri a b c = rows8.foldl (St.px u v x ar) st → (∀ p, covB u v x p.1 p.2 = true → covT a b c p) →
        Cnt8 (st.tri a b c) ∧ (st.tri a b c).out = st.out ∧ ∃ f : Nat → Int, (∀ i, f i = 0 ∨ (f i = 1 ∧ ∃ p ∈ rows8, covT a b c p ∧ idxOf st p = i)) ∧ ∀ i, (st.tri a b c).ste i = st.ste i + f i := by
      intro u v x ar e hcov
      obtain ⟨r1, r2⟩ := rows8_idx st h.W
      have hs := fold_still u v x ar rows8 st
      have hl : rows8.length = 64 := by decide
      have hf := fold_ste u v x ar rows8 st h.t (fun p hp => by rw [h.len]; exact r1 p hp) r2 (fun i => by have := hb i; rw [hl]; omega)
      rw [e]
      obtain ⟨s1, s2, s3, s4, s5, s6, s7, s8, s9, s10⟩ := hs
      refine ⟨⟨hf.1, s2.trans h.W, s3.trans h.H, s4.trans h.wx, s5.trans h.wy, s6.trans h.ww, s7.trans h.wh, by rw [s1]; exact h.faces, s10.trans h.len⟩, s9, fun i => if ∃ p ∈ rows8, covB u v x p.1 p.2 = true ∧ idxOf st p = i then 1 else 0, fun i => ?_, hf.2⟩
      by_cases hx : ∃ p ∈ rows8, covB u v x p.1 p.2 = true ∧ idxOf st p = i
      · right
        obtain ⟨p, hp, h1, h2⟩ := hx
        exact ⟨by simp only []; rw [if_pos ⟨p, hp, h1, h2⟩], p, hp, hcov p h1, h2⟩
      · left
        simp only []
        rw [if_neg hx]
    have hrow : rowsL st.wx st.ww.toNat st.wh.toNat st.wy = rows8 := by rw [h.wx, h.ww, h.wh, h.wy]; rfl
    by_cases hn : edge a b c.x c.y < 0
    · refine key a c b (-edge a b c.x c.y) ?_ (fun p hp => ⟨h0, by rw [if_pos hn]; exact hp⟩)
      unfold St.tri
      rw [if_neg (by have := h.faces; omega), if_pos hn, triY_fold, hrow]
    · refine key a b c (edge a b c.x c.y) ?_ (fun p hp => ⟨h0, by rw [if_neg hn]; exact hp⟩)
      unfold St.tri
      rw [if_neg (by have := h.faces; omega), if_neg hn, triY_fold, hrow]

theorem edge_back (a b : Cor) (x y : Int) : edge b a x y = - edge a b x y := by
  unfold edge
  simp only [Int.sub_mul, Int.mul_sub, Int.mul_comm b.y, Int.mul_comm a.y]
  omega
theorem opp {a b : Cor} {x y : Int} (h1 : hasB a b (edge a b x y) = true) (h2 : hasB b a (edge b a x y) = true) : False := by
  rw [edge_back a b] at h2
  generalize edge a b x y = e at *
  unfold hasB at h1 h2
  by_cases he : e = 0
  · subst he
    simp at h1 h2
    omega
  · rw [if_neg he] at h1
    rw [if_neg (by omega)] at h2
    simp at h1 h2
    omega
theorem cov_side {a b c : Cor} {p : Int × Int} (h : covT a b c p) : (0 < edge a b c.x c.y → hasB a b (edge a b (16 * p.1 + 8) (16 * p.2 + 8)) = true) ∧ (edge a b c.x c.y < 0 → hasB b a (edge b a (16 * p.1 + 8) (16 * p.2 + 8)) = true) := by
  obtain ⟨h0, h1⟩ := h
  refine ⟨fun hp => ?_, fun hn => ?_⟩
  · rw [if_neg (by omega)] at h1
    unfold covB at h1
    simp only [Bool.and_eq_true] at h1
    exact h1.2.2
  · rw [if_pos hn] at h1
    unfold covB at h1
    simp only [Bool.and_eq_true] at h1
    exact h1.2.1
/-- The same, where the corner beside the edge is told ahead of its second end. -/
theorem cov_turn {a b d : Cor} {p : Int × Int} (h : covT a d b p) : (0 < edge a b d.x d.y → hasB a b (edge a b (16 * p.1 + 8) (16 * p.2 + 8)) = true) ∧ (edge a b d.x d.y < 0 → hasB b a (edge b a (16 * p.1 + 8) (16 * p.2 + 8)) = true) := by
  obtain ⟨h0, h1⟩ := h
  have hs := edge_swap a b d
  refine ⟨fun hp => ?_, fun hn => ?_⟩
  · rw [if_pos (by omega)] at h1
    unfold covB at h1
    simp only [Bool.and_eq_true] at h1
    exact h1.2.2
  · rw [if_neg (by omega)] at h1
    unfold covB at h1
    simp only [Bool.and_eq_true] at h1
    exact h1.2.1
end Go.Proofs.YthcikinkicpicaaGreatDoor

namespace Go.Proofs.YthcikinkicpicaaGreatDoor

theorem cnt_ste (i : Nat) : stCnt.ste i = 0 := by
  unfold St.ste
  show ((List.replicate 64 dot1).getD i dot0).s = 0
  rw [List.getD_eq_getElem?_getD, List.getElem?_replicate]
  split <;> rfl

/-- What the stencils are behind two triangles. -/
theorem seam_run (l m : List Int) : ∃ f : Nat → Int, (runC ([(4, [7, 0, 255, 255, 0, 0, 3]), (9, l), (9, m)] ++ (List.range 64).map rdC) 0 st0).out = ((List.range 64).map fun i => { k := 3, a := f i, b := 0, c := 0 }) ∧
    ∀ i, ∃ g h : Int, f i = g + h ∧ (g = 0 ∨ (g = 1 ∧ ∃ p ∈ rows8, covT (cornerOf l 0) (cornerOf l 9) (cornerOf l 18) p ∧ idxOf stCnt p = i)) ∧ (h = 0 ∨ (h = 1 ∧ ∃ p ∈ rows8, covT (cornerOf m 0) (cornerOf m 9) (cornerOf m 18) p ∧ idxOf stCnt p = i)) := by
  rw [runC_append]
  simp only [runC]
  rw [show ((0 : Nat) : Int) = 0 from rfl, one_cnt, one_tri, one_tri]
  obtain ⟨c1, o1, f1, hf1, e1⟩ := tri_ste cnt8_start (cornerOf l 0) (cornerOf l 9) (cornerOf l 18) (fun i => by rw [cnt_ste]; omega)
  obtain ⟨c2, o2, f2, hf2, e2⟩ := tri_ste c1 (cornerOf m 0) (cornerOf m 9) (cornerOf m 18) (fun i => by
    rw [e1, cnt_ste]
    rcases hf1 i with h | ⟨h, _⟩ <;> omega)
  rw [run_reads _ _ _ c2.W c2.H (fun i hi => List.mem_range.1 hi)]
  refine ⟨fun i => f1 i + f2 i, ?_, fun i => ⟨f1 i, f2 i, rfl, hf1 i, ?_⟩⟩
  · show (stCnt.tri _ _ _ |>.tri _ _ _).out ++ _ = _
    rw [o2, o1]
    show [] ++ _ = _
    rw [List.nil_append]
    refine List.map_congr_left (fun i _ => ?_)
    rw [e2, e1, cnt_ste, Int.zero_add]
  · have hW : ∀ p, idxOf (stCnt.tri (cornerOf l 0) (cornerOf l 9) (cornerOf l 18)) p = idxOf stCnt p := fun p => by unfold idxOf; rw [c1.W]; rfl
    rcases hf2 i with h | ⟨h, p, hp, h1, h2⟩
    · exact .inl h
    · exact .inr ⟨h, p, hp, h1, (hW p).symm.trans h2⟩

/-- One triangle: as many stencils as are counted. -/
theorem counted_run (l : List Int) : ∃ (n : Int) (f : Nat → Int), (runC ([(4, [7, 0, 255, 255, 0, 0, 3]), (10, [0]), (9, l), (11, [0]), (14, [0])] ++ (List.range 64).map rdC) 0 st0).out = { k := 4, a := 0, b := n, c := 0 } :: ((List.range 64).map fun i => { k := 3, a := f i, b := 0, c := 0 }) ∧
    ((List.range 64).map f).sum = n ∧ ∀ i, 0 ≤ f i ∧ f i ≤ 1 := by
  rw [runC_append]
  simp only [runC]
  rw [show ((0 : Nat) : Int) = 0 from rfl, one_cnt, one_begin stCnt _ rfl, one_tri]
  obtain ⟨S0, hS0⟩ : ∃ S0 : St, { stCnt with qs := stCnt.qs.set 0 { ever := true, on := true, n := 0 } } = S0 := ⟨_, rfl⟩
  have hc0 : Cnt8 S0 := by
    rw [← hS0]
    exact ⟨⟨rfl, rfl, rfl, rfl, rfl⟩, rfl, rfl, rfl, rfl, rfl, rfl, rfl, by show (List.replicate 64 dot1).length = 64; simp⟩
  have hs0 : ∀ i, S0.ste i = 0 := fun i => by rw [← hS0]; exact cnt_ste i
  have hq0 : S0.qs = [{ ever := true, on := true, n := 0 }, q0, q0, q0] := by rw [← hS0]; rfl
  have ho0 : S0.out = [] := by rw [← hS0]; rfl
  have ht0 : S0.total = 0 := by rw [← hS0]; decide
  have hd0 : ∀ o ∈ S0.dots, 0 ≤ o.s := by
    rw [← hS0]
    intro o ho
    rw [List.eq_of_mem_replicate (show o ∈ List.replicate 64 dot1 from ho)]
    decide
  rw [hS0]
  generalize cornerOf l 0 = a
  generalize cornerOf l 9 = b
  generalize cornerOf l 18 = c
  obtain ⟨c1, o1, f1, hf1, e1⟩ := tri_ste hc0 a b c (fun i => by rw [hs0]; omega)
  have hm : ∃ m, (S0.tri a b c).qs = [{ ever := true, on := true, n := m }, q0, q0, q0] ∧ (S0.tri a b c).total = m := by
    rcases tri_form a b c with hz | ⟨u, v, x, ar, hf⟩
    · rw [hz S0 hc0.faces]; exact ⟨0, hq0, ht0⟩
    · rw [hf S0 hc0.faces]
      have hrow : rowsL S0.wx S0.ww.toNat S0.wh.toNat S0.wy = rows8 := by rw [hc0.wx, hc0.ww, hc0.wh, hc0.wy]; rfl
      rw [hrow]
      exact fold_total u v x ar rows8 S0 0 hc0.t (fun p hp => by rw [hc0.len]; exact (rows8_idx S0 hc0.W).1 p hp) hd0 hq0 ht0 (by decide)
  obtain ⟨m, hq, htot⟩ := hm
  generalize S0.tri a b c = S1 at *
  rw [one_end S1 _ (by rw [hq]; rfl)]
  obtain ⟨S2, hS2⟩ : ∃ S2 : St, { S1 with qs := S1.qs.set 0 { (S1.qs.getD 0 { ever := false, on := false, n := 0 }) with on := false } } = S2 := ⟨_, rfl⟩
  have hq2 : S2.qs = [{ ever := true, on := false, n := m }, q0, q0, q0] := by rw [← hS2]; show S1.qs.set 0 _ = _; rw [hq]; rfl
  rw [hS2, one_tell S2 _ (by rw [hq2]; rfl) (by rw [hq2]; rfl)]
  rw [run_reads _ _ _ (by rw [← hS2]; exact c1.W) (by rw [← hS2]; exact c1.H) (fun i hi => List.mem_range.1 hi)]
  refine ⟨m, S1.ste, ?_, ?_, fun i => ?_⟩
  · show (S2.out ++ _) ++ _ = _
    rw [← hS2]
    show (S1.out ++ _) ++ _ = _
    rw [o1, ho0, hq]
    rfl
  · rw [← htot]
    unfold St.total
    congr 1
    have hl := c1.len
    apply List.ext_getElem?
    intro i
    by_cases hi : i < 64
    · rw [List.getElem?_map, List.getElem?_range hi, List.getElem?_map, List.getElem?_eq_getElem (by omega : i < S1.dots.length)]
      show some (S1.dots.getD i dot0).s = _
      rw [List.getD_eq_getElem?_getD, List.getElem?_eq_getElem (by omega : i < S1.dots.length)]
      rfl
    · rw [List.getElem?_eq_none (by simp; omega), List.getElem?_eq_none (by simp; omega)]
  · rw [e1, hs0]
    rcases hf1 i with h | ⟨h, _⟩ <;> omega
end Go.Proofs.YthcikinkicpicaaGreatDoor

namespace Go.Proofs.YthcikinkicpicaaGreatDoor
open Go.RowKit

theorem TabW.old {w w' : World} (h : TabW w) (ho : Old w w') (h0 : 0 < w.heap.size) : TabW w' := by
  intro i hi
  have := h i hi
  simp only [World.cell?] at this ⊢
  rw [ho.block 0 h0]
  exact this

/-- The bytes of the reads of the first k pixels. -/
def rdL (k : Nat) : List Int := encC ((List.range k).map rdC)
theorem rdL_succ (k : Nat) : rdL (k + 1) = rdL k ++ [13] ++ [3] ++ [((k % 8 : Nat) : Int)] ++ [((k / 8 : Nat) : Int)] := by
  unfold rdL encC
  rw [List.range_succ, List.map_append, List.flatMap_append]
  simp [rdC]
theorem rdL_length (k : Nat) : (rdL k).length = 4 * k := by
  induction k with
  | zero => rfl
  | succ k ih => rw [rdL_succ]; simp; omega
theorem t8 (l : List Int) : (⟨#[4, 7, 0, 255, 255, 0, 0, 3]⟩ : ByteArray) ++ textOf l = textOf ([4, 7, 0, 255, 255, 0, 0, 3] ++ l) := textOf_append [4, 7, 0, 255, 255, 0, 0, 3] l

theorem start_c (w : World) (X : List Int) (hs : X.length ≤ 1000) :
    BSc w X (.slice (some ⟨w.heap.size, 0, none⟩) (textOf X).size (grownCap w (textOf X).size 0 5))
      (w.drew.alloc (.cells (bytesRow (textOf X) (grownCap w (textOf X).size 0 5)) 5 ((bytesRow (textOf X) (grownCap w (textOf X).size 0 5)).size, (bytesRow (textOf X) (grownCap w (textOf X).size 0 5)).size + 1))) :=
  ⟨_, textOf X, _, [], grow_start w (textOf X) (by rw [textOf_size]; unfold maxLen; omega), by simp [textOf]⟩

set_option maxRecDepth 100000 in
set_option maxHeartbeats 4000000 in
theorem stencils_via (L : List Int) (hL : L.length ≤ 900) (ways : Int) (w : World) (R : Value → World → Prop)
    (hd : ∀ W, Old w W → Calls Tryz.prog 11 #[.string (textOf (([4, 7, 0, 255, 255, 0, 0, 3] ++ L) ++ rdL 64)), .int .i64 ways] W fun e w' => ∃ v, e = .returned v ∧ R v w') :
    Calls Tryz.prog 24 #[.string (textOf L), .int .i64 ways] w fun e w' => ∃ v, e = .returned v ∧ R v w' := by
  have hcv := fun w s => run_bytes_of_string (P := Tryz.prog) w 9 99 5 s Tryz.underlying9 Tryz.underlying99 Tryz.underlying5
  have hback := fun w a cap l => run_convert_bytes_back (P := Tryz.prog) w 99 9 5 a cap l Tryz.underlying99 Tryz.underlying5 Tryz.underlying9
  obtain ⟨i0, hi, hz0, hz1, hz2⟩ := info_parts Tryz.infoByte
  have HD : Hid (∀ W, Old w W → Calls Tryz.prog 11 #[.string (textOf (([4, 7, 0, 255, 255, 0, 0, 3] ++ L) ++ rdL 64)), .int .i64 ways] W fun e w' => ∃ v, e = .returned v ∧ R v w') := hd
  clear hd
  have hX : ([4, 7, 0, 255, 255, 0, 0, 3] ++ L).length ≤ 908 := by simp; omega
  have tt := t8 L
  generalize [4, 7, 0, 255, 255, 0, 0, 3] ++ L = X at *
  have hst := start_c w X (by omega)
  have hlen : ∀ k, (X ++ rdL k).length ≤ 908 + 4 * k := fun k => by rw [List.length_append, rdL_length]; omega
  have ts := textOf_size
  go_enter Tryz.func24, Tryz.ntmps24
  go_wp2_with fail
  go_loopg [6, 7] 64 (fun n v i wr => ∃ k : Nat, k + n = 64 ∧ i = .int .i64 k ∧ BSc w (X ++ rdL k) v wr)
  case atStart =>
    refine ⟨0, by omega, rfl, ?_⟩
    rw [show rdL 0 = [] from rfl, List.append_nil]
    rw [textOf_size] at hst
    exact hst
  case round =>
    obtain ⟨k, hk, rfl, hB⟩ := hrel
    by_cases hlt : k < 64
    · obtain ⟨n', rfl⟩ : ∃ n', gk = n' + 1 := ⟨gk - 1, by omega⟩
      have hl := hlen k
      have hm : IntKind.u8.wrap ((k : Int) % 8) = (k : Int) % 8 := by rw [IntKind.wrap_u8]; omega
      have hq : IntKind.u8.wrap ((k : Int) / 8) = (k : Int) / 8 := by rw [IntKind.wrap_u8]; omega
      clear hcv hback ts tt hst hlen
      go_wp2_with (first | (at_builtin; refine wpList_append_c _ rfl (.tmp 16) (.tmp 17) 99 rfl i0 _ Tryz.underlying99 hi hz0 hz1 hz2 rfl w u6 (X ++ rdL k) (by simp [Act.eval]) (by exact hB.alloc _) ⟨wr.heap.size, 0, none⟩ 1 13 (by omega) (by omega) (by simp [Act.eval]) (by exact lit1c _ _ _) (by omega) ?_; intro v3 w3 hB3) | (at_builtin; refine wpList_append_c _ rfl (.tmp 19) (.tmp 20) 99 rfl i0 _ Tryz.underlying99 hi hz0 hz1 hz2 rfl w v3 (X ++ rdL k ++ [13]) (by simp [Act.eval]) (by exact hB3.alloc _) ⟨w3.heap.size, 0, none⟩ 1 3 (by omega) (by omega) (by simp [Act.eval]) (by exact lit1c _ _ _) (by simp only [List.length_append, List.length_cons, List.length_nil] at hl ⊢; omega) ?_; intro v4 w4 hB4) | (at_builtin; refine wpList_append_c _ rfl (.tmp 22) (.tmp 26) 99 rfl i0 _ Tryz.underlying99 hi hz0 hz1 hz2 rfl w v4 (X ++ rdL k ++ [13] ++ [3]) (by simp [Act.eval]) (by exact hB4.alloc _) ⟨w4.heap.size, 0, none⟩ 1 ((k : Int) % 8) (by omega) (by omega) (by simp [Act.eval]) (by exact lit1c _ _ _) (by simp only [List.length_append, List.length_cons, List.length_nil] at hl ⊢; omega) ?_; intro v5 w5 hB5) | (at_builtin; refine wpList_append_c _ rfl (.tmp 28) (.tmp 32) 99 rfl i0 _ Tryz.underlying99 hi hz0 hz1 hz2 rfl w v5 (X ++ rdL k ++ [13] ++ [3] ++ [(k : Int) % 8]) (by simp [Act.eval]) (by exact hB5.alloc _) ⟨w5.heap.size, 0, none⟩ 1 ((k : Int) / 8) (by omega) (by omega) (by simp [Act.eval]) (by exact lit1c _ _ _) (by simp only [List.length_append, List.length_cons, List.length_nil] at hl ⊢; omega) ?_; intro v6 w6 hB6))
      go_roundg n'
      case rel =>
        refine ⟨k + 1, by omega, by go_num, ?_⟩
        have e : X ++ rdL (k + 1) = X ++ rdL k ++ [13] ++ [3] ++ [(k : Int) % 8] ++ [(k : Int) / 8] := by
          rw [rdL_succ]
          simp
        rw [e]
        exact hB6
      case measure => omega
    · have hg0 : gk = 0 := by omega
      subst hg0
      obtain rfl : k = 64 := by omega
      obtain ⟨g, o, cap, rfl, hc⟩ := hB.back
      have hcb : Sem.run Tryz.prog (convert 99 9 (.slice (some ⟨g, o, none⟩) ((X ++ rdL 64).map fun v => UInt8.ofNat v.toNat).length cap)) wr = .ok (.string (textOf (X ++ rdL 64))) wr := hback wr ⟨g, o, none⟩ cap _ hc
      have hold := hB.old
      clear hB hback hc hcv hlen hst tt hX
      generalize ((X ++ rdL 64).map fun v => UInt8.ofNat v.toNat).length = N at *
      go_wp2_with (go_at_call 11; refine (HD.out _ hold).mono ?_; rintro e w9 ⟨v9, rfl, hR⟩)
      go_ret
      exact ⟨_, rfl, hR⟩
end Go.Proofs.YthcikinkicpicaaGreatDoor
