import Derived.Test.YthcikinkicpicaaGreatDoorA01
import Derived.Test.YthcikinkicpicaaGreatDoorD01
import Derived.BigQuiet
import Derived.Deep.QuietTactic
import Derived.Deep.LoopGhost
import Derived.Laws.StructEq
import Derived.Test.YthcikinkicpicaaGreatDoorD05
import Derived.Test.YthcikinkicpicaaGreatDoorD07
import Derived.Test.YthcikinkicpicaaGreatDoorB12

namespace Go.Proofs.YthcikinkicpicaaGreatDoor

theorem play_ended (s : ByteArray) (f k : Nat) (st : St) (h : s.size ≤ k) : playFrom s f k st = st := by
  cases f with
  | zero => rfl
  | succ f => rw [playFrom, if_pos h]

theorem play_out_len (s : ByteArray) : ∀ (f k : Nat) (st : St), (playFrom s f k st).out.length ≤ st.out.length + f + 1
  | 0, k, st => by rw [playFrom]; omega
  | f + 1, k, st => by
    rw [playFrom]
    split
    · omega
    · split
      · simp
      · have h1 := play_out_len s f (k + 1 + (lenAt s k).toNat) (st.one (byteAt s k) (argsAt s (k + 1) (lenAt s k).toNat) k)
        have h2 := one_out st (byteAt s k) (argsAt s (k + 1) (lenAt s k).toNat) k
        omega

theorem dot_out (st : St) (d : Dot) (x y : Int) : (st.dot d x y).out = st.out := by
  unfold St.dot
  split <;> rfl

/-- Replies are only added. -/
theorem one_more (st : St) (kind : Int) (a : List Int) (i : Int) : ∃ t, (st.one kind a i).out = st.out ++ t := by
  have no : ∀ st' : St, st'.out = st.out → ∃ t, st'.out = st.out ++ t := fun st' h => ⟨[], by rw [h, List.append_nil]⟩
  have hq : ∀ k n : Int, ∃ t, (st.query k n).1.out = st.out ++ t := by
    intro k n
    unfold St.query
    dsimp only
    repeat' split
    all_goals first | exact no _ rfl | exact ⟨_, rfl⟩
  have hd : ∃ t, (st.does kind a).1.out = st.out ++ t := by
    have it : ∀ (c : Prop) [Decidable c] (x y : St × Int), (∃ t, x.1.out = st.out ++ t) → (∃ t, y.1.out = st.out ++ t) → ∃ t, (if c then x else y).1.out = st.out ++ t := by
      intro c _ x y hx hy
      by_cases hc : c
      · rw [if_pos hc]; exact hx
      · rw [if_neg hc]; exact hy
    unfold St.does
    refine it _ _ _ (no _ rfl) (it _ _ _ (no _ rfl) (it _ _ _ (no _ rfl) (it _ _ _ (no _ rfl) (it _ _ _ (no _ rfl) (it _ _ _ (no _ rfl) (it _ _ _ (no _ rfl) (it _ _ _ (no _ rfl) (it _ _ _ (no _ (tri_out' st _ _ _)) (it _ _ _ (hq _ _) (it _ _ _ ⟨_, rfl⟩ (no _ rfl)))))))))))
  obtain ⟨t, ht⟩ := hd
  by_cases hb : badB st.W st.H kind a = true
  · exact ⟨[{ k := 0, a := 2, b := i, c := 0 }], by unfold St.one; rw [hb]; rfl⟩
  · have e : (st.one kind a i) = if (st.does kind a).2 = 0 then (st.does kind a).1 else { (st.does kind a).1 with out := (st.does kind a).1.out ++ [{ k := 0, a := (st.does kind a).2, b := i, c := 0 }] } := by
      unfold St.one
      rw [if_neg hb]
    rw [e]
    by_cases h0 : (st.does kind a).2 = 0
    · rw [if_pos h0]; exact ⟨t, ht⟩
    · rw [if_neg h0]
      exact ⟨t ++ [{ k := 0, a := (st.does kind a).2, b := i, c := 0 }], by show (st.does kind a).1.out ++ _ = _; rw [ht, List.append_assoc]⟩

theorem play_more (s : ByteArray) : ∀ (f i : Nat) (st : St), ∃ t, (playFrom s f i st).out = st.out ++ t
  | 0, i, st => ⟨[], by rw [playFrom, List.append_nil]⟩
  | f + 1, i, st => by
    rw [playFrom]
    by_cases h1 : s.size ≤ i
    · rw [if_pos h1]; exact ⟨[], by rw [List.append_nil]⟩
    · rw [if_neg h1]
      by_cases h2 : lenAt s i < 0 ∨ (s.size : Int) < i + 1 + lenAt s i
      · rw [if_pos h2]; exact ⟨_, rfl⟩
      · rw [if_neg h2]
        obtain ⟨t, ht⟩ := one_more st (byteAt s i) (argsAt s (i + 1) (lenAt s i).toNat) i
        obtain ⟨u, hu⟩ := play_more s f (i + 1 + (lenAt s i).toNat) (st.one (byteAt s i) (argsAt s (i + 1) (lenAt s i).toNat) i)
        exact ⟨t ++ u, by rw [hu, ht, List.append_assoc]⟩

/-- Behind c whole commands, at i: what is done of any stream with these bytes. -/
structure OnI (s : ByteArray) (i : Nat) (st : St) : Prop where
  le : i ≤ s.size
  ex : ∃ c, c ≤ i ∧ ∀ s' : ByteArray, i ≤ s'.size → (∀ j, j < i → byteAt s' j = byteAt s j) → ∀ f, playFrom s' (c + f) 0 st0 = playFrom s' f i st
theorem OnI.start (s : ByteArray) : OnI s 0 st0 := ⟨Nat.zero_le _, 0, Nat.le_refl _, fun s' _ _ f => by rw [Nat.zero_add]⟩

theorem OnI.next {s : ByteArray} {i n : Nat} {st : St} (h : OnI s i st) (hn : lenAt s i = (n : Int)) (hin : i + 1 + n ≤ s.size) : OnI s (i + 1 + n) (st.one (byteAt s i) (argsAt s (i + 1) n) i) := by
  obtain ⟨c, hc, hp⟩ := h.ex
  have n1 := (lenOk_of hn).2
  refine ⟨hin, c + 1, by omega, fun s' hs hb f => ?_⟩
  have h1 := hp s' (by omega) (fun j hj => hb j (by omega)) (f + 1)
  rw [show c + 1 + f = c + (f + 1) from by omega, h1, playFrom, if_neg (by omega)]
  have hbi := hb i (by omega)
  have hl : lenAt s' i = (n : Int) := by
    rw [← hn]
    unfold lenAt
    rw [hbi]
    by_cases h8 : byteAt s i = 8
    · rw [if_pos h8, if_pos h8, if_neg (by omega), if_neg (by omega), hb (i + 1) (by omega)]
    · rw [if_neg h8, if_neg h8]
  have ha : argsAt s' (i + 1) n = argsAt s (i + 1) n := by
    unfold argsAt
    refine List.map_congr_left (fun j hj => ?_)
    exact hb _ (by have := List.mem_range.1 hj; omega)
  rw [hl, if_neg (by omega), Int.toNat_natCast, hbi, ha]

/-- What is replied to the beginning is the beginning of what is replied. -/
theorem OnI.done {s : ByteArray} {i : Nat} {st : St} (h : OnI s i st) (s' : ByteArray) (hs : s'.size = i) (hb : ∀ j, j < i → byteAt s' j = byteAt s j) :
    (playFrom s' s'.size 0 st0).out = st.out ∧ ∃ t, (playFrom s s.size 0 st0).out = st.out ++ t := by
  obtain ⟨c, hc, hp⟩ := h.ex
  have hle := h.le
  constructor
  · have h1 := hp s' (by omega) hb (s'.size - c)
    rw [show s'.size = c + (s'.size - c) from by omega, h1, play_ended s' _ i st (by omega)]
  · have h1 := hp s hle (fun _ _ => rfl) (s.size - c)
    rw [show s.size = c + (s.size - c) from by omega, h1]
    exact play_more s _ i st
end Go.Proofs.YthcikinkicpicaaGreatDoor

namespace Go.Proofs.YthcikinkicpicaaGreatDoor
open Go.RowKit

theorem flat_get {α : Type} (f : α → List Value) (m : Nat) (hf : ∀ a, (f a).length = m) : ∀ (l : List α) (i j : Nat) (h : i < l.length), j < m → (l.flatMap f)[i * m + j]? = (f l[i])[j]?
  | a :: l, 0, j, _, hj => by
    simp only [List.flatMap_cons, Nat.zero_mul, Nat.zero_add, List.getElem_cons_zero]
    rw [List.getElem?_append_left (by rw [hf]; exact hj)]
  | a :: l, i + 1, j, h, hj => by
    simp only [List.flatMap_cons, List.getElem_cons_succ]
    rw [List.getElem?_append_right (by rw [hf, Nat.succ_mul]; omega), hf, ← flat_get f m hf l i j (by simpa using h) hj]
    congr 1
    rw [Nat.succ_mul]; omega

/-- Replies lie behind a slice's value, one after the other from the head of a block (or it is nil, and there are none). -/
def RepsAt (w : World) (v : Value) (l : List Rep) : Prop :=
  (v = .slice none 0 0 ∧ l = []) ∨
  ∃ g cap, v = .slice (some ⟨g, 0, none⟩) l.length cap ∧ l.length ≤ cap ∧ g < w.heap.size ∧ ∀ i (h : i < l.length), w.cell? ⟨g, i * 4, none⟩ = some (.int .i64 l[i].k) ∧ w.cell? ⟨g, i * 4 + 1, none⟩ = some (.int .i64 l[i].a) ∧
    w.cell? ⟨g, i * 4 + 2, none⟩ = some (.int .i64 l[i].b) ∧ w.cell? ⟨g, i * 4 + 3, none⟩ = some (.int .i64 l[i].c)

theorem repsAt_own {w : World} {base : Nat} {e : TypeId} {v : Value} {l : List Rep} (h : w.ownsRow base e 4 v l.length (rcells l)) : RepsAt w v l := by
  rcases h.2 with ⟨h1, h2⟩ | ⟨g, cap, cur, hv, hge, hh, hc, _⟩
  · exact .inl ⟨h1, List.eq_nil_of_length_eq_zero h2⟩
  · refine .inr ⟨g, cap, hv, hc, lt_of_heap hh, fun i hi => ?_⟩
    subst hv
    have hget := fun j hj => flat_get (fun r : Rep => [Value.int .i64 r.k, .int .i64 r.a, .int .i64 r.b, .int .i64 r.c]) 4 (fun _ => rfl) l i j hi hj
    have hb : i * 4 + 4 ≤ l.length * 4 := by omega
    refine ⟨?_, ?_, ?_, ?_⟩
    · rw [h.cellAt (i * 4) (by omega)]; exact (hget 0 (by omega)).trans rfl
    · rw [h.cellAt (i * 4 + 1) (by omega)]; exact (hget 1 (by omega)).trans rfl
    · rw [h.cellAt (i * 4 + 2) (by omega)]; exact (hget 2 (by omega)).trans rfl
    · rw [h.cellAt (i * 4 + 3) (by omega)]; exact (hget 3 (by omega)).trans rfl

structure Still (w wr : World) : Prop where
  heap : wr.heap = w.heap
  os : wr.os = w.os
  tape : wr.tape = w.tape
  output : wr.output = w.output
theorem Still.refl (w : World) : Still w w := ⟨rfl, rfl, rfl, rfl⟩
theorem Still.drewN {w wr : World} (h : Still w wr) (n : Nat) : Still w (wr.drewN n) := ⟨h.heap, h.os, h.tape, h.output⟩
theorem Still.cell {w wr : World} (h : Still w wr) (a : Addr) : wr.cell? a = w.cell? a := by simp [World.cell?, h.heap]
theorem Still.below {w wr : World} (h : Still w wr) : Below w.heap.size w wr := ⟨h.os, h.tape, h.output, by rw [h.heap]; exact Nat.le_refl _, fun k _ => by rw [h.heap]⟩

theorem Tryz.fieldsReply : (Tryz.prog.fieldsOf 25).toList.map (fun f => (f.name, f.type, f.offset)) = [("Kind", 3, 0), ("A", 3, 1), ("B", 3, 2), ("C", 3, 3)] := by kernel_rfl
theorem eqRep (k a b c : Int) (w : World) : Sem.run Tryz.prog (Op.equalIn 10000 25 (.agg #[.int .i64 k, .int .i64 a, .int .i64 b, .int .i64 c]) (.agg #[.int .i64 k, .int .i64 a, .int .i64 b, .int .i64 c])) w = .ok true w := by
  have hs : Tryz.prog.underlying 25 = some (.struct (Tryz.prog.fieldsOf 25)) := by kernel_rfl
  rw [show (10000 : Nat) = 9999 + 1 from rfl, run_equalIn_struct w 9999 25 _ _ hs (by kernel_rfl)]
  have hf := Tryz.fieldsReply
  generalize (Tryz.prog.fieldsOf 25).toList = fs at *
  obtain ⟨f0, r0, rfl, h0, hf⟩ := List.map_eq_cons_iff.1 hf
  obtain ⟨f1, r1, rfl, h1, hf⟩ := List.map_eq_cons_iff.1 hf
  obtain ⟨f2, r2, rfl, h2, hf⟩ := List.map_eq_cons_iff.1 hf
  obtain ⟨f3, r3, rfl, h3, hf⟩ := List.map_eq_cons_iff.1 hf
  obtain rfl := List.map_eq_nil_iff.1 hf
  simp only [Prod.mk.injEq] at h0 h1 h2 h3
  obtain ⟨n0, t0, o0⟩ := h0
  obtain ⟨n1, t1, o1⟩ := h1
  obtain ⟨n2, t2, o2⟩ := h2
  obtain ⟨n3, t3, o3⟩ := h3
  simp only [Op.eqFields, n0, t0, o0, n1, t1, o1, n2, t2, o2, n3, t3, o3]
  simp [go_sem]

set_option maxRecDepth 100000 in
set_option maxHeartbeats 1000000 in
theorem replies_true (va vb : Value) (l : List Rep) (w : World) (ha : RepsAt w va l) (hb : RepsAt w vb l) (hl : l.length ≤ 1000000000000) :
    Calls Tryz.prog 19 #[va, vb] w fun e w' => e = .returned (.bool true) ∧ Below w.heap.size w w' := by
  rcases ha with ⟨rfl, rfl⟩ | ⟨ga, ca, rfl, hca, hga, hcella⟩
  · rcases hb with ⟨rfl, _⟩ | ⟨gb, cb, rfl, _⟩
    · go_enter Tryz.func19, Tryz.ntmps19
      go_wp2_with fail
      go_loopg [5] 0 (fun _ i wr => i = .int .i64 0 ∧ wr = w)
      case atStart => exact ⟨rfl, rfl⟩
      case round =>
        obtain ⟨rfl, rfl⟩ := hrel
        go_wp2_with fail
        go_ret
        exact ⟨rfl, Below.refl _ _⟩
    · go_enter Tryz.func19, Tryz.ntmps19
      go_wp2_with fail
      go_loopg [5] 0 (fun _ i wr => i = .int .i64 0 ∧ wr = w)
      case atStart => exact ⟨rfl, rfl⟩
      case round =>
        obtain ⟨rfl, rfl⟩ := hrel
        go_wp2_with fail
        go_ret
        exact ⟨rfl, Below.refl _ _⟩
  · rcases hb with ⟨rfl, rfl⟩ | ⟨gb, cb, rfl, hcb, hgb, hcellb⟩
    · go_enter Tryz.func19, Tryz.ntmps19
      go_wp2_with fail
      go_loopg [5] 0 (fun _ i wr => i = .int .i64 0 ∧ wr = w)
      case atStart => exact ⟨rfl, rfl⟩
      case round =>
        obtain ⟨rfl, rfl⟩ := hrel
        go_wp2_with fail
        go_ret
        exact ⟨rfl, Below.refl _ _⟩
    · have HA : Hid (∀ i (h : i < l.length), w.cell? ⟨ga, i * 4, none⟩ = some (.int .i64 l[i].k) ∧ w.cell? ⟨ga, i * 4 + 1, none⟩ = some (.int .i64 l[i].a) ∧ w.cell? ⟨ga, i * 4 + 2, none⟩ = some (.int .i64 l[i].b) ∧ w.cell? ⟨ga, i * 4 + 3, none⟩ = some (.int .i64 l[i].c)) := hcella
      have HB : Hid (∀ i (h : i < l.length), w.cell? ⟨gb, i * 4, none⟩ = some (.int .i64 l[i].k) ∧ w.cell? ⟨gb, i * 4 + 1, none⟩ = some (.int .i64 l[i].a) ∧ w.cell? ⟨gb, i * 4 + 2, none⟩ = some (.int .i64 l[i].b) ∧ w.cell? ⟨gb, i * 4 + 3, none⟩ = some (.int .i64 l[i].c)) := hcellb
      clear hcella hcellb
      go_enter Tryz.func19, Tryz.ntmps19
      go_wp2_with fail
      go_loopg [5] l.length (fun n i wr => ∃ k : Nat, k + n = l.length ∧ i = .int .i64 k ∧ Still w wr)
      case atStart => exact ⟨0, by omega, rfl, Still.refl _⟩
      case round =>
        obtain ⟨k, hk, rfl, hS⟩ := hrel
        by_cases hlt : k < l.length
        · obtain ⟨n', rfl⟩ : ∃ n', gk = n' + 1 := ⟨gk - 1, by omega⟩
          obtain ⟨a0, a1, a2, a3⟩ := HA.out k hlt
          obtain ⟨b0, b1, b2, b3⟩ := HB.out k hlt
          rw [← hS.cell] at a0 a1 a2 a3 b0 b1 b2 b3
          generalize l[k].k = r0 at *
          generalize l[k].a = r1 at *
          generalize l[k].b = r2 at *
          generalize l[k].c = r3 at *
          have x1 : (k : Int) < (l.length : Int) := by omega
          have x2 : (0 : Int) ≤ (k : Int) := by omega
          have hS' := hS
          clear hS
          have q1 := eqRep r0 r1 r2 r3
          go_wp2_with fail
          go_quiet (fail)
          go_wp2_with fail
          go_roundg n'
          case rel => exact ⟨k + 1, by omega, by go_num, hS'.drewN _⟩
          case measure => omega
        · have hg0 : gk = 0 := by omega
          subst hg0
          go_wp2_with fail
          go_ret
          exact ⟨rfl, hS.below⟩

end Go.Proofs.YthcikinkicpicaaGreatDoor

namespace Go.Proofs.YthcikinkicpicaaGreatDoor
open Go.RowKit

theorem RepsAt.below {w w' : World} {v : Value} {l : List Rep} (h : RepsAt w v l) (hb : Below w.heap.size w w') : RepsAt w' v l := by
  rcases h with h | ⟨g, cap, hv, hc, hg, hcell⟩
  · exact .inl h
  · refine .inr ⟨g, cap, hv, hc, Nat.lt_of_lt_of_le hg hb.size, fun i hi => ?_⟩
    obtain ⟨h0, h1, h2, h3⟩ := hcell i hi
    exact ⟨(hb.cell (p := ⟨g, i * 4, none⟩) hg).trans h0, (hb.cell (p := ⟨g, i * 4 + 1, none⟩) hg).trans h1, (hb.cell (p := ⟨g, i * 4 + 2, none⟩) hg).trans h2, (hb.cell (p := ⟨g, i * 4 + 3, none⟩) hg).trans h3⟩

theorem pre_size (s : ByteArray) (i : Nat) (h : i ≤ s.size) : (s.extract 0 i).size = i := by
  simp; omega
theorem pre_at (s : ByteArray) (i j : Nat) (h : j < i) : byteAt (s.extract 0 i) j = byteAt s j := by
  unfold byteAt
  rw [List.getD_eq_getElem?_getD, List.getD_eq_getElem?_getD]
  rw [Array.getElem?_toList, Array.getElem?_toList, ByteArray.data_extract, Array.getElem?_extract]
  by_cases hj : j < s.data.size
  · rw [if_pos (by omega), Nat.zero_add]
  · rw [if_neg (by omega), Array.getElem?_eq_none (by omega)]
theorem repsAt_pre {w : World} {g cap : Nat} {o t : List Rep} (h : RepsAt w (.slice (some ⟨g, 0, none⟩) (o ++ t).length cap) (o ++ t)) : RepsAt w (.slice (some ⟨g, 0, none⟩) o.length cap) o := by
  rcases h with ⟨h, _⟩ | ⟨g', cap', hv, hc, hg, hcell⟩
  · cases h
  · simp only [Value.slice.injEq, Option.some.injEq, Addr.mk.injEq, true_and, and_true] at hv
    obtain ⟨rfl, rfl⟩ := hv
    refine .inr ⟨g, cap, rfl, by simp at hc; omega, hg, fun i hi => ?_⟩
    have := hcell i (by simp; omega)
    rwa [List.getElem_append_left hi] at this

set_option maxRecDepth 100000 in
set_option maxHeartbeats 2000000 in
theorem Onward_true (hcor : CornersAll) (s : ByteArray) (ways commands : Int) (w : World) (hs : s.size ≤ 1000000000) (hc : -9223372036854775808 ≤ commands ∧ commands ≤ 9223372036854775807) (ht : TabW w) :
    Calls Tryz.prog 7 #[.string s, .int .i64 ways, .int .i64 commands] w fun e w' => e = .returned (.bool true) ∧ Below w.heap.size w w' := by
  have HAl : Hid (Calls Tryz.prog 17 #[] w fun e w' => e = .returned (.bool true) ∧ Below w.heap.size w w') := alive_in hcor w ht
  have HLn : Hid (∀ (i : Nat) (W : World), i < s.size → Calls Tryz.prog 20 #[.agg #[.string s, .int .i64 i, .slice none 0 0]] W fun e w' => e = .returned (.int .i64 (lenAt s i)) ∧ Below W.heap.size W w') := fun i W hi => Length_any s i _ W hi (by unfold maxLen; omega)
  have HD1 : Hid (∀ (i : Nat) (st : St) (s' : ByteArray) (W : World), OnI s i st → s'.size = i → (∀ j, j < i → byteAt s' j = byteAt s j) → Below w.heap.size w W → Calls Tryz.prog 11 #[.string s', .int .i64 ways] W fun e w' => ∃ v, e = .returned v ∧ Hid (RepsAt w' v st.out) ∧ st.out.length ≤ 10000000000 ∧ Hid (Below w.heap.size w w')) := by
    intro i st s' W hO hz hb hB
    have hle := hO.le
    refine (draw_in s' ways W (by omega) (ht.low hB ht.pos)).mono ?_
    rintro e w' ⟨v, rfl, ho, hbb⟩
    have hr := (hO.done s' hz hb).1
    have hn := play_out_len s' s'.size 0 st0
    rw [hr] at ho hn
    exact ⟨v, rfl, repsAt_own ho, by have : st0.out.length = 0 := rfl; omega, hB.trans (hbb.mono hB.size)⟩
  have HD2 : Hid (∀ (i : Nat) (st : St) (va : Value) (W : World), OnI s i st → Below w.heap.size w W → RepsAt W va st.out → Calls Tryz.prog 11 #[.string s, .int .i64 ways] W fun e w' => ∃ v t, e = .returned v ∧ RepsAt w' va st.out ∧ RepsAt w' v (st.out ++ t) ∧ Hid (Below w.heap.size w w') ∧ (st.out ++ t).length ≤ 20000000000) := by
    intro i st va W hO hB hR
    have hle := hO.le
    refine (draw_in s ways W (by omega) (ht.low hB ht.pos)).mono ?_
    rintro e w' ⟨v, rfl, ho, hbb⟩
    obtain ⟨t, hr⟩ := (hO.done (s.extract 0 i) (pre_size s i hle) (fun j hj => pre_at s i j hj)).2
    have hn := play_out_len s s.size 0 st0
    rw [hr] at ho hn
    exact ⟨v, t, rfl, hR.below hbb, repsAt_own ho, hB.trans (hbb.mono hB.size), by have : st0.out.length = 0 := rfl; omega⟩
  have HR : Hid (∀ (W : World) (va vb : Value) (l : List Rep), RepsAt W va l → RepsAt W vb l → l.length ≤ 1000000000000 → Calls Tryz.prog 19 #[va, vb] W fun e w' => e = .returned (.bool true) ∧ Below W.heap.size W w') := fun W va vb l h1 h2 h3 => replies_true va vb l W h1 h2 h3
  have hps := pre_size s
  clear hcor ht
  go_enter Tryz.func7, Tryz.ntmps7
  go_wp2_with fail
  with_reducible refine HAl.out.mono ?_
  rintro e w1 ⟨rfl, hb1⟩
  go_wp2_with fail
  go_loopg [8, 9] s.size (fun f av kv wr => ∃ (i k : Nat) (st : St), k ≤ i ∧ i ≤ s.size ∧ s.size ≤ i + f ∧ av = .int .i64 i ∧ kv = .int .i64 k ∧ Hid (OnI s i st) ∧ Hid (Below w.heap.size w wr))
  case atStart => exact ⟨0, 0, st0, by omega, by omega, by omega, rfl, rfl, OnI.start s, hb1⟩
  case round =>
    obtain ⟨i, k, st, hki, hi, hif, rfl, rfl, hO, hB⟩ := hrel
    clear HAl hb1
    by_cases hkc : (k : Int) < commands
    · by_cases hlt : i < s.size
      · obtain ⟨f', rfl⟩ : ∃ f', gk = f' + 1 := ⟨gk - 1, by omega⟩
        have d1 : (i : Int) < (s.size : Int) := by omega
        have hlb := lenAt_bd s i
        have hone := fun (j : Nat) (h : lenAt s i = (j : Int)) => (lenOk_of h).2
        have hnx := fun (n : Nat) => hO.out.next (n := n)
        have HL1 : Hid (∀ W : World, Calls Tryz.prog 20 #[.agg #[.string s, .int .i64 i, .slice none 0 0]] W fun e w' => e = .returned (.int .i64 (lenAt s i)) ∧ Below W.heap.size W w') := fun W => HLn.out i W hlt
        generalize lenAt s i = nn at *
        clear HLn
        by_cases hneg : nn < 0
        · clear hnx hone
          go_wp2_with (go_at_call 20; refine (HL1.out _).mono ?_; rintro e w2 ⟨rfl, hb2⟩; have hB2 := hB.out.trans (hb2.mono hB.out.size))
          refine (HD1.out i st _ _ hO.out (hps i (by omega)) (fun j hj => pre_at s i j hj) hB2).mono ?_
          rintro e w3 ⟨va, rfl, hRa, hla, hB3⟩
          go_wp2_with fail
          refine (HD2.out i st va _ hO.out hB3.out hRa.out).mono ?_
          rintro e w4 ⟨vb, t, rfl, hRa4, hRb4, hB4, hlb4⟩
          clear hRa hB3 HD1 HD2
          have hn : (st.out ++ t).length = st.out.length + t.length := List.length_append
          have HA4 : Hid (RepsAt w4 va st.out) := hRa4
          have HB4' : Hid (RepsAt w4 vb (st.out ++ t)) := hRb4
          generalize st.out = o at *
          rcases hRa4 with ⟨rfl, hl0⟩ | ⟨ga, ca, rfl, hca, hga, hcella⟩
          · subst hl0
            rcases hRb4 with ⟨rfl, hl1⟩ | ⟨gb, cb, rfl, hcb, hgb, hcellb⟩
            · go_wp2_with (go_at_call 19; refine (HR.out _ _ _ [] HA4.out (.inl ⟨rfl, rfl⟩) (by simp)).mono ?_; rintro e w5 ⟨rfl, hb5⟩)
              go_ret
              exact ⟨rfl, hB4.out.trans (hb5.mono hB4.out.size)⟩
            · clear hcellb
              go_wp2_with (go_at_call 19; refine (HR.out _ _ _ [] HA4.out (repsAt_pre (o := []) HB4'.out) (by simp)).mono ?_; rintro e w5 ⟨rfl, hb5⟩)
              go_ret
              exact ⟨rfl, hB4.out.trans (hb5.mono hB4.out.size)⟩
          · clear hcella
            rcases hRb4 with ⟨rfl, hl1⟩ | ⟨gb, cb, rfl, hcb, hgb, hcellb⟩
            · obtain ⟨rfl, rfl⟩ := List.append_eq_nil_iff.1 hl1
              go_wp2_with (go_at_call 19; refine (HR.out _ _ _ [] HA4.out (.inl ⟨rfl, rfl⟩) (by simp)).mono ?_; rintro e w5 ⟨rfl, hb5⟩)
              go_ret
              exact ⟨rfl, hB4.out.trans (hb5.mono hB4.out.size)⟩
            · clear hcellb
              go_wp2_with (go_at_call 19; refine (HR.out _ _ _ o HA4.out (repsAt_pre HB4'.out) (by omega)).mono ?_; rintro e w5 ⟨rfl, hb5⟩)
              go_ret
              exact ⟨rfl, hB4.out.trans (hb5.mono hB4.out.size)⟩
        · have k1 : wrap64 ((i : Int) + 1 + nn) = (i : Int) + 1 + nn := w64 (by omega)
          by_cases hov : (s.size : Int) < i + 1 + nn
          · clear hnx hone
            go_wp2_with (go_at_call 20; refine (HL1.out _).mono ?_; rintro e w2 ⟨rfl, hb2⟩; have hB2 := hB.out.trans (hb2.mono hB.out.size))
            refine (HD1.out i st _ _ hO.out (hps i (by omega)) (fun j hj => pre_at s i j hj) hB2).mono ?_
            rintro e w3 ⟨va, rfl, hRa, hla, hB3⟩
            go_wp2_with fail
            refine (HD2.out i st va _ hO.out hB3.out hRa.out).mono ?_
            rintro e w4 ⟨vb, t, rfl, hRa4, hRb4, hB4, hlb4⟩
            clear hRa hB3 HD1 HD2
            have hn : (st.out ++ t).length = st.out.length + t.length := List.length_append
            have HA4 : Hid (RepsAt w4 va st.out) := hRa4
            have HB4' : Hid (RepsAt w4 vb (st.out ++ t)) := hRb4
            generalize st.out = o at *
            rcases hRa4 with ⟨rfl, hl0⟩ | ⟨ga, ca, rfl, hca, hga, hcella⟩
            · subst hl0
              rcases hRb4 with ⟨rfl, hl1⟩ | ⟨gb, cb, rfl, hcb, hgb, hcellb⟩
              · go_wp2_with (go_at_call 19; refine (HR.out _ _ _ [] HA4.out (.inl ⟨rfl, rfl⟩) (by simp)).mono ?_; rintro e w5 ⟨rfl, hb5⟩)
                go_ret
                exact ⟨rfl, hB4.out.trans (hb5.mono hB4.out.size)⟩
              · clear hcellb
                go_wp2_with (go_at_call 19; refine (HR.out _ _ _ [] HA4.out (repsAt_pre (o := []) HB4'.out) (by simp)).mono ?_; rintro e w5 ⟨rfl, hb5⟩)
                go_ret
                exact ⟨rfl, hB4.out.trans (hb5.mono hB4.out.size)⟩
            · clear hcella
              rcases hRb4 with ⟨rfl, hl1⟩ | ⟨gb, cb, rfl, hcb, hgb, hcellb⟩
              · obtain ⟨rfl, rfl⟩ := List.append_eq_nil_iff.1 hl1
                go_wp2_with (go_at_call 19; refine (HR.out _ _ _ [] HA4.out (.inl ⟨rfl, rfl⟩) (by simp)).mono ?_; rintro e w5 ⟨rfl, hb5⟩)
                go_ret
                exact ⟨rfl, hB4.out.trans (hb5.mono hB4.out.size)⟩
              · clear hcellb
                go_wp2_with (go_at_call 19; refine (HR.out _ _ _ o HA4.out (repsAt_pre HB4'.out) (by omega)).mono ?_; rintro e w5 ⟨rfl, hb5⟩)
                go_ret
                exact ⟨rfl, hB4.out.trans (hb5.mono hB4.out.size)⟩
          · obtain ⟨n, rfl⟩ := Int.eq_ofNat_of_zero_le (show 0 ≤ nn by omega)
            have n1 := hone n rfl
            have hN := hnx n rfl (by omega)
            have HN : Hid (OnI s (i + 1 + n) (st.one (byteAt s i) (argsAt s (i + 1) n) i)) := hN
            clear hnx hone hN
            go_wp2_with (go_at_call 20; refine (HL1.out _).mono ?_; rintro e w2 ⟨rfl, hb2⟩; have hB2 := hB.out.trans (hb2.mono hB.out.size))
            go_roundg f'
            case rel => exact ⟨i + 1 + n, k + 1, _, by omega, by omega, by omega, by go_num, by go_num, HN, hB2⟩
            case measure => omega
      · obtain rfl : i = s.size := by omega
        have d1 : ¬ ((s.size : Int) < (s.size : Int)) := by omega
        go_wp2_with fail
        refine (HD1.out _ st _ _ hO.out rfl (fun _ _ => rfl) hB.out).mono ?_
        rintro e w3 ⟨va, rfl, hRa, hla, hB3⟩
        go_wp2_with fail
        refine (HD2.out _ st va _ hO.out hB3.out hRa.out).mono ?_
        rintro e w4 ⟨vb, t, rfl, hRa4, hRb4, hB4, hlb4⟩
        clear hRa hB3 HD1 HD2
        have hn : (st.out ++ t).length = st.out.length + t.length := List.length_append
        have HA4 : Hid (RepsAt w4 va st.out) := hRa4
        have HB4' : Hid (RepsAt w4 vb (st.out ++ t)) := hRb4
        generalize st.out = o at *
        rcases hRa4 with ⟨rfl, hl0⟩ | ⟨ga, ca, rfl, hca, hga, hcella⟩
        · subst hl0
          rcases hRb4 with ⟨rfl, hl1⟩ | ⟨gb, cb, rfl, hcb, hgb, hcellb⟩
          · go_wp2_with (go_at_call 19; refine (HR.out _ _ _ [] HA4.out (.inl ⟨rfl, rfl⟩) (by simp)).mono ?_; rintro e w5 ⟨rfl, hb5⟩)
            go_ret
            exact ⟨rfl, hB4.out.trans (hb5.mono hB4.out.size)⟩
          · clear hcellb
            go_wp2_with (go_at_call 19; refine (HR.out _ _ _ [] HA4.out (repsAt_pre (o := []) HB4'.out) (by simp)).mono ?_; rintro e w5 ⟨rfl, hb5⟩)
            go_ret
            exact ⟨rfl, hB4.out.trans (hb5.mono hB4.out.size)⟩
        · clear hcella
          rcases hRb4 with ⟨rfl, hl1⟩ | ⟨gb, cb, rfl, hcb, hgb, hcellb⟩
          · obtain ⟨rfl, rfl⟩ := List.append_eq_nil_iff.1 hl1
            go_wp2_with (go_at_call 19; refine (HR.out _ _ _ [] HA4.out (.inl ⟨rfl, rfl⟩) (by simp)).mono ?_; rintro e w5 ⟨rfl, hb5⟩)
            go_ret
            exact ⟨rfl, hB4.out.trans (hb5.mono hB4.out.size)⟩
          · clear hcellb
            go_wp2_with (go_at_call 19; refine (HR.out _ _ _ o HA4.out (repsAt_pre HB4'.out) (by omega)).mono ?_; rintro e w5 ⟨rfl, hb5⟩)
            go_ret
            exact ⟨rfl, hB4.out.trans (hb5.mono hB4.out.size)⟩
    · go_wp2_with fail
      refine (HD1.out i st _ _ hO.out (hps i (by omega)) (fun j hj => pre_at s i j hj) hB.out).mono ?_
      rintro e w3 ⟨va, rfl, hRa, hla, hB3⟩
      go_wp2_with fail
      refine (HD2.out i st va _ hO.out hB3.out hRa.out).mono ?_
      rintro e w4 ⟨vb, t, rfl, hRa4, hRb4, hB4, hlb4⟩
      clear hRa hB3 HD1 HD2
      have hn : (st.out ++ t).length = st.out.length + t.length := List.length_append
      have HA4 : Hid (RepsAt w4 va st.out) := hRa4
      have HB4' : Hid (RepsAt w4 vb (st.out ++ t)) := hRb4
      generalize st.out = o at *
      rcases hRa4 with ⟨rfl, hl0⟩ | ⟨ga, ca, rfl, hca, hga, hcella⟩
      · subst hl0
        rcases hRb4 with ⟨rfl, hl1⟩ | ⟨gb, cb, rfl, hcb, hgb, hcellb⟩
        · go_wp2_with (go_at_call 19; refine (HR.out _ _ _ [] HA4.out (.inl ⟨rfl, rfl⟩) (by simp)).mono ?_; rintro e w5 ⟨rfl, hb5⟩)
          go_ret
          exact ⟨rfl, hB4.out.trans (hb5.mono hB4.out.size)⟩
        · clear hcellb
          go_wp2_with (go_at_call 19; refine (HR.out _ _ _ [] HA4.out (repsAt_pre (o := []) HB4'.out) (by simp)).mono ?_; rintro e w5 ⟨rfl, hb5⟩)
          go_ret
          exact ⟨rfl, hB4.out.trans (hb5.mono hB4.out.size)⟩
      · clear hcella
        rcases hRb4 with ⟨rfl, hl1⟩ | ⟨gb, cb, rfl, hcb, hgb, hcellb⟩
        · obtain ⟨rfl, rfl⟩ := List.append_eq_nil_iff.1 hl1
          go_wp2_with (go_at_call 19; refine (HR.out _ _ _ [] HA4.out (.inl ⟨rfl, rfl⟩) (by simp)).mono ?_; rintro e w5 ⟨rfl, hb5⟩)
          go_ret
          exact ⟨rfl, hB4.out.trans (hb5.mono hB4.out.size)⟩
        · clear hcellb
          go_wp2_with (go_at_call 19; refine (HR.out _ _ _ o HA4.out (repsAt_pre HB4'.out) (by omega)).mono ?_; rintro e w5 ⟨rfl, hb5⟩)
          go_ret
          exact ⟨rfl, hB4.out.trans (hb5.mono hB4.out.size)⟩
end Go.Proofs.YthcikinkicpicaaGreatDoor
