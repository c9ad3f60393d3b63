import Derived.Test.YtifloehpdkfchaaDoorA01
import Derived.Test.YtifloehpdkfchaaDoorD01
import Derived.Deep.Onto
import Derived.Deep.LoopGhost
import Derived.Laws.IdiomStrings
import Derived.ChangeAgain
import Derived.Test.YtifloehpdkfchaaDoorD05
import Derived.Test.YtifloehpdkfchaaDoorD07

namespace Go.Proofs.YtifloehpdkfchaaDoor
open Go.RowKit

def bcells (l : List UInt8) : List Value := l.map fun b => Value.int .u8 (b.toNat : Int)

/-- A slice of bytes that began as []byte(s), and onto which l was appended. -/
structure Grow (w W : World) (s : ByteArray) (cap : Nat) (l : List UInt8) (v : Value) (wr : World) : Prop where
  came : Came W 1 (some ⟨w.heap.size, 0, none⟩) w.heap.size 0 s.size cap (bcells s.data.toList)
  onto : Onto W 5 1 (some ⟨w.heap.size, 0, none⟩) w.heap.size 0 s.size cap (bcells s.data.toList) wr v l.length (bcells l)
  bel : Below w.heap.size w W
  capm : cap ≤ maxLen

theorem grow_start (w : World) (s : ByteArray) (hs : s.size ≤ maxLen) :
    Grow w (w.drew.alloc (.cells (bytesRow s (grownCap w s.size 0 5)) 5 ((bytesRow s (grownCap w s.size 0 5)).size, (bytesRow s (grownCap w s.size 0 5)).size + 1))) s (grownCap w s.size 0 5) []
      (.slice (some ⟨w.heap.size, 0, none⟩) s.size (grownCap w s.size 0 5))
      (w.drew.alloc (.cells (bytesRow s (grownCap w s.size 0 5)) 5 ((bytesRow s (grownCap w s.size 0 5)).size, (bytesRow s (grownCap w s.size 0 5)).size + 1))) := by
  have hge := grownCap_ge w s.size 0 5
  have hle := grownCap_le_maxLen w s.size 0 5 hs
  generalize grownCap w s.size 0 5 = C at *
  have hsz : (bytesRow s C).size = C := by
    simp [bytesRow]; omega
  have hb : Below w.heap.size w (w.drew.alloc (.cells (bytesRow s C) 5 ((bytesRow s C).size, (bytesRow s C).size + 1))) := ((Below.refl _ _).drew).alloc (Nat.le_refl _) _
  have hblk : (w.drew.alloc (.cells (bytesRow s C) 5 ((bytesRow s C).size, (bytesRow s C).size + 1))).heap[w.heap.size]? = some (.cells (bytesRow s C) 5 ((bytesRow s C).size, (bytesRow s C).size + 1)) := heap_alloc_new w.drew _
  have hcell := cell_of hblk
  have hcame : Came (w.drew.alloc (.cells (bytesRow s C) 5 ((bytesRow s C).size, (bytesRow s C).size + 1))) 1 (some ⟨w.heap.size, 0, none⟩) w.heap.size 0 s.size C (bcells s.data.toList) := by
    refine ⟨hge, fun _ => rfl, fun _ => lt_of_heap hblk, by simp [bcells], fun j u hj => ?_, fun j hj => ?_⟩
    · rw [Nat.zero_add, hcell]
      have hlt : j < s.data.toList.length := by
        have := (List.getElem?_eq_some_iff.1 hj).1
        simpa [bcells] using this
      rw [← hj]
      simp [bytesRow, bcells]
      rw [Array.getElem?_append_left (by simpa using hlt)]
      simp
    · refine ⟨?_, ?_⟩
      · rw [hcell]
        have : 0 + s.size * 1 + j < (bytesRow s C).size := by rw [hsz]; omega
        rw [Array.getElem?_eq_getElem this]; rfl
      · simp only [World.frozen?, hblk]
        simp [hsz]
        omega
  exact ⟨hcame, Onto.start hcame, hb, hle⟩

/-- Old blocks are as they were. -/
structure Old (w w' : World) : Prop where
  os : w'.os = w.os
  output : w'.output = w.output
  size : w.heap.size ≤ w'.heap.size
  block : ∀ k, k < w.heap.size → w'.heap[k]? = w.heap[k]?

theorem Old.of {w w' : World} (h : Below w.heap.size w w') : Old w w' := ⟨h.os, h.output, h.size, h.block⟩
theorem Old.trans {w w' w'' : World} (h : Old w w') (h' : Old w' w'') : Old w w'' :=
  ⟨h'.os.trans h.os, h'.output.trans h.output, Nat.le_trans h.size h'.size, fun k hk => (h'.block k (Nat.lt_of_lt_of_le hk h.size)).trans (h.block k hk)⟩
theorem Old.frame {W w' : World} (h : Old W w') (may : MemPlace → Prop) : W.keptBut w' may := by
  refine ⟨h.os, h.output, fun i hi => ?_⟩
  rw [h.block i hi]
  split <;> simp_all

theorem Grow.low {w W : World} {s : ByteArray} {cap : Nat} {l : List UInt8} {v : Value} {wr : World} (h : Grow w W s cap l v wr) : Old w wr := by
  have h1 := h.bel.size
  have h2 := h.onto.kept.size
  refine ⟨h.onto.kept.1.trans h.bel.os, h.onto.kept.2.1.trans h.bel.output, by omega, fun k hk => ?_⟩
  rw [h.onto.kept.block (by omega) (fun p ⟨j, _, _, e⟩ => by subst e; simp [MemPlace.block]; omega)]
  exact h.bel.block k hk

/-- Some bytes, in new memory. -/
def BSc (w : World) (c : List Int) (v : Value) (wr : World) : Prop := ∃ W s cap l, Grow w W s cap l v wr ∧ s.data.toList ++ l = c.map fun v => UInt8.ofNat v.toNat

theorem BSc.alloc {w : World} {c : List Int} {v : Value} {wr : World} (h : BSc w c v wr) (o : Obj) : BSc w c v (wr.alloc o) := by
  obtain ⟨W, s, cap, l, h, e⟩ := h
  exact ⟨W, s, cap, l, ⟨h.came, h.onto.alloc h.came o, h.bel, h.capm⟩, e⟩
theorem BSc.drew {w : World} {c : List Int} {v : Value} {wr : World} (h : BSc w c v wr) : BSc w c v wr.drew := by
  obtain ⟨W, s, cap, l, h, e⟩ := h
  exact ⟨W, s, cap, l, ⟨h.came, h.onto.drew h.came, h.bel, h.capm⟩, e⟩
theorem BSc.old {w : World} {c : List Int} {v : Value} {wr : World} (h : BSc w c v wr) : Old w wr := by
  obtain ⟨W, s, cap, l, h, e⟩ := h
  exact h.low
theorem BSc.size {s : ByteArray} {l : List UInt8} {c : List Int} (e : s.data.toList ++ l = c.map fun v => UInt8.ofNat v.toNat) : s.size + l.length = c.length := by
  have := congrArg List.length e
  simpa using this

theorem wpList_append_c {P : Program} (w : World) {ops : Array Oper} {rest : List Oper} {o : Oper} {a : Act} {Q : Exit → Act → World → Prop} (hgd : o.guard = none) (s x : Operand) (t : TypeId)
    (ho : o.op = .call { callee := .builtin .append, args := #[s, x], argTypes := #[t, t] })
    (i : TypeInfo) (z : Value) (h1 : P.underlying t = some (.slice 5)) (h2 : P.info? 5 = some i) (h3 : i.zero = some z) (h4 : i.size = 1) (h5 : i.bytes = 1) (h6 : z.cells.size = 1)
    (w0 : World) (v : Value) (cI : List Int) (hs : a.eval s = v) (hown : BSc w0 cI v w)
    (ad : Addr) (c : Nat) (k : Int) (k0 : 0 ≤ k) (k1 : k < 256) (hx : a.eval x = .slice (some ad) 1 c) (hc : w.cell? (ad.add 0) = some (.int .u8 k))
    (b1 : cI.length ≤ 1000000000000)
    (hK : ∀ v' w', BSc w0 (cI ++ [k]) v' w' → wpList P ops Q rest (a.put o.dst v') w') : wpList P ops Q (o :: rest) a w := by
  refine wpList_plain hgd fun K hK' => ?_
  obtain ⟨W, sb, cap, l, h, e⟩ := hown
  have es := BSc.size e
  obtain ⟨k, rfl⟩ := Int.eq_ofNat_of_zero_le k0
  have hk : (UInt8.ofNat k).toNat = k := by simp; omega
  obtain ⟨v', w', hrun, r⟩ := run_append_onto (P := P) h.came t o.type i z 1 h1 h2 h3 h4 h5 h6 (by decide) h.onto ad c [.int .u8 (k : Int)] rfl (fun j u hj => by
    rcases j with _ | j
    · simp at hj; subst hj; exact hc
    · simp at hj) (by simp [Value.oneCell']) (by unfold maxLen; omega) (by omega)
  have r' : BSc w0 (cI ++ [(k : Int)]) v' w' := ⟨W, sb, cap, l ++ [UInt8.ofNat k], ⟨h.came, by simpa only [bcells, List.map_append, List.map_cons, List.map_nil, hk, List.length_append, List.length_cons, List.length_nil] using r, h.bel, h.capm⟩, by rw [← List.append_assoc, e, List.map_append]; rfl⟩
  unfold Oper.wp
  simp [execOp, ho, resolve, invoke, builtin, hs, hx, hrun, Result.andThen]
  exact hK' _ _ (hK v' w' r')

theorem lit1c (w : World) (a : Value) (T : TypeId) : (w.alloc (.cells #[a] T)).cell? ((⟨w.heap.size, 0, none⟩ : Addr).add 0) = some a :=
  World.cell?_alloc_at (w := w) #[a] T w.heap.size 0 rfl

theorem BSc.back {w : World} {c : List Int} {v : Value} {wr : World} (h : BSc w c v wr) :
    ∃ (g o cap : Nat), v = .slice (some ⟨g, o, none⟩) (c.map fun v => UInt8.ofNat v.toNat).length cap ∧ ∀ j (hj : j < (c.map fun v => UInt8.ofNat v.toNat).length), wr.cell? ((⟨g, o, none⟩ : Addr).add j) = some (.int .u8 ((c.map fun v => UInt8.ofNat v.toNat)[j].toNat : Int)) := by
  obtain ⟨W, s, cap, l, h, e⟩ := h
  rw [← e]
  have hl : (s.data.toList ++ l).length = s.size + l.length := by simp
  by_cases hpos : 0 < cap ∨ 0 < l.length
  · obtain ⟨g, o, cap', rfl, _, _, hc⟩ := h.onto.value h.came h.capm hpos
    refine ⟨g, o, cap', by rw [hl], fun j hj => ?_⟩
    have := hc j (by rw [hl] at hj; omega)
    rw [show (⟨g, o, none⟩ : Addr).add j = ⟨g, o + j, none⟩ from by simp [Addr.add], this]
    have hj' : j < (s.data.toList ++ l).length := hj
    simp only [bcells, ← List.map_append, List.getElem?_map, List.getElem?_eq_getElem hj', Option.map_some]
  · have hc0 : cap = 0 := by omega
    have hl0 : l.length = 0 := by omega
    have hv := h.onto.bare h.came hc0 hl0
    have hs0 := h.came.le
    have hz : (s.data.toList ++ l).length = 0 := by rw [hl]; omega
    refine ⟨w.heap.size, 0, 0, by rw [hz]; simpa using hv, fun j hj => by omega⟩

theorem Tryd.infoByte : (Tryd.prog.info? 5).map (fun i => (i.zero, i.size, i.bytes)) = some (some (.int .u8 0), 1, 1) := by kernel_rfl

end Go.Proofs.YtifloehpdkfchaaDoor

namespace Go.Proofs.YtifloehpdkfchaaDoor
open Go.RowKit

theorem TabW.old {w w' : World} (h : TabW w) (ho : Old w w') (h0 : 0 < w.heap.size) : TabW w' := by
  intro i hi
  have := h i hi
  simp only [World.cell?] at this ⊢
  rw [ho.block 0 h0]
  exact this

/-- The bytes of the reads of the first k pixels. -/
def rdL (k : Nat) : List Int := encC ((List.range k).map rdC)
theorem rdL_succ (k : Nat) : rdL (k + 1) = rdL k ++ [13] ++ [3] ++ [((k % 8 : Nat) : Int)] ++ [((k / 8 : Nat) : Int)] := by
  unfold rdL encC
  rw [List.range_succ, List.map_append, List.flatMap_append]
  simp [rdC]
theorem rdL_length (k : Nat) : (rdL k).length = 4 * k := by
  induction k with
  | zero => rfl
  | succ k ih => rw [rdL_succ]; simp; omega
theorem t8 (l : List Int) : (⟨#[4, 7, 0, 255, 255, 0, 0, 3]⟩ : ByteArray) ++ textOf l = textOf ([4, 7, 0, 255, 255, 0, 0, 3] ++ l) := textOf_append [4, 7, 0, 255, 255, 0, 0, 3] l

theorem start_c (w : World) (X : List Int) (hs : X.length ≤ 1000) :
    BSc w X (.slice (some ⟨w.heap.size, 0, none⟩) (textOf X).size (grownCap w (textOf X).size 0 5))
      (w.drew.alloc (.cells (bytesRow (textOf X) (grownCap w (textOf X).size 0 5)) 5 ((bytesRow (textOf X) (grownCap w (textOf X).size 0 5)).size, (bytesRow (textOf X) (grownCap w (textOf X).size 0 5)).size + 1))) :=
  ⟨_, textOf X, _, [], grow_start w (textOf X) (by rw [textOf_size]; unfold maxLen; omega), by simp [textOf]⟩

set_option maxRecDepth 100000 in
set_option maxHeartbeats 4000000 in
theorem stencils_via (L : List Int) (hL : L.length ≤ 900) (ways : Int) (w : World) (R : Value → World → Prop)
    (hd : ∀ W, Old w W → Calls Tryd.prog 9 #[.string (textOf (([4, 7, 0, 255, 255, 0, 0, 3] ++ L) ++ rdL 64)), .int .i64 ways] W fun e w' => ∃ v, e = .returned v ∧ R v w') :
    Calls Tryd.prog 16 #[.string (textOf L), .int .i64 ways] w fun e w' => ∃ v, e = .returned v ∧ R v w' := by
  have hcv := fun w s => run_bytes_of_string (P := Tryd.prog) w 9 76 5 s Tryd.underlying9 Tryd.underlying76 Tryd.underlying5
  have hback := fun w a cap l => run_convert_bytes_back (P := Tryd.prog) w 76 9 5 a cap l Tryd.underlying76 Tryd.underlying5 Tryd.underlying9
  obtain ⟨i0, hi, hz0, hz1, hz2⟩ := info_parts Tryd.infoByte
  have HD : Hid (∀ W, Old w W → Calls Tryd.prog 9 #[.string (textOf (([4, 7, 0, 255, 255, 0, 0, 3] ++ L) ++ rdL 64)), .int .i64 ways] W fun e w' => ∃ v, e = .returned v ∧ R v w') := hd
  clear hd
  have hX : ([4, 7, 0, 255, 255, 0, 0, 3] ++ L).length ≤ 908 := by simp; omega
  have tt := t8 L
  generalize [4, 7, 0, 255, 255, 0, 0, 3] ++ L = X at *
  have hst := start_c w X (by omega)
  have hlen : ∀ k, (X ++ rdL k).length ≤ 908 + 4 * k := fun k => by rw [List.length_append, rdL_length]; omega
  have ts := textOf_size
  go_enter Tryd.func16, Tryd.ntmps16
  go_wp2_with fail
  go_loopg [6, 7] 64 (fun n v i wr => ∃ k : Nat, k + n = 64 ∧ i = .int .i64 k ∧ BSc w (X ++ rdL k) v wr)
  case atStart =>
    refine ⟨0, by omega, rfl, ?_⟩
    rw [show rdL 0 = [] from rfl, List.append_nil]
    rw [textOf_size] at hst
    exact hst
  case round =>
    obtain ⟨k, hk, rfl, hB⟩ := hrel
    by_cases hlt : k < 64
    · obtain ⟨n', rfl⟩ : ∃ n', gk = n' + 1 := ⟨gk - 1, by omega⟩
      have hl := hlen k
      have hm : IntKind.u8.wrap ((k : Int) % 8) = (k : Int) % 8 := by rw [IntKind.wrap_u8]; omega
      have hq : IntKind.u8.wrap ((k : Int) / 8) = (k : Int) / 8 := by rw [IntKind.wrap_u8]; omega
      clear hcv hback ts tt hst hlen
      go_wp2_with (first | (at_builtin; refine wpList_append_c _ rfl (.tmp 16) (.tmp 17) 76 rfl i0 _ Tryd.underlying76 hi hz0 hz1 hz2 rfl w u6 (X ++ rdL k) (by simp [Act.eval]) (by exact hB.alloc _) ⟨wr.heap.size, 0, none⟩ 1 13 (by omega) (by omega) (by simp [Act.eval]) (by exact lit1c _ _ _) (by omega) ?_; intro v3 w3 hB3) | (at_builtin; refine wpList_append_c _ rfl (.tmp 19) (.tmp 20) 76 rfl i0 _ Tryd.underlying76 hi hz0 hz1 hz2 rfl w v3 (X ++ rdL k ++ [13]) (by simp [Act.eval]) (by exact hB3.alloc _) ⟨w3.heap.size, 0, none⟩ 1 3 (by omega) (by omega) (by simp [Act.eval]) (by exact lit1c _ _ _) (by simp only [List.length_append, List.length_cons, List.length_nil] at hl ⊢; omega) ?_; intro v4 w4 hB4) | (at_builtin; refine wpList_append_c _ rfl (.tmp 22) (.tmp 26) 76 rfl i0 _ Tryd.underlying76 hi hz0 hz1 hz2 rfl w v4 (X ++ rdL k ++ [13] ++ [3]) (by simp [Act.eval]) (by exact hB4.alloc _) ⟨w4.heap.size, 0, none⟩ 1 ((k : Int) % 8) (by omega) (by omega) (by simp [Act.eval]) (by exact lit1c _ _ _) (by simp only [List.length_append, List.length_cons, List.length_nil] at hl ⊢; omega) ?_; intro v5 w5 hB5) | (at_builtin; refine wpList_append_c _ rfl (.tmp 28) (.tmp 32) 76 rfl i0 _ Tryd.underlying76 hi hz0 hz1 hz2 rfl w v5 (X ++ rdL k ++ [13] ++ [3] ++ [(k : Int) % 8]) (by simp [Act.eval]) (by exact hB5.alloc _) ⟨w5.heap.size, 0, none⟩ 1 ((k : Int) / 8) (by omega) (by omega) (by simp [Act.eval]) (by exact lit1c _ _ _) (by simp only [List.length_append, List.length_cons, List.length_nil] at hl ⊢; omega) ?_; intro v6 w6 hB6))
      go_roundg n'
      case rel =>
        refine ⟨k + 1, by omega, by go_num, ?_⟩
        have e : X ++ rdL (k + 1) = X ++ rdL k ++ [13] ++ [3] ++ [(k : Int) % 8] ++ [(k : Int) / 8] := by
          rw [rdL_succ]
          simp
        rw [e]
        exact hB6
      case measure => omega
    · have hg0 : gk = 0 := by omega
      subst hg0
      obtain rfl : k = 64 := by omega
      obtain ⟨g, o, cap, rfl, hc⟩ := hB.back
      have hcb : Sem.run Tryd.prog (convert 76 9 (.slice (some ⟨g, o, none⟩) ((X ++ rdL 64).map fun v => UInt8.ofNat v.toNat).length cap)) wr = .ok (.string (textOf (X ++ rdL 64))) wr := hback wr ⟨g, o, none⟩ cap _ hc
      have hold := hB.old
      clear hB hback hc hcv hlen hst tt hX
      generalize ((X ++ rdL 64).map fun v => UInt8.ofNat v.toNat).length = N at *
      go_wp2_with (go_at_call 9; refine (HD.out _ hold).mono ?_; rintro e w9 ⟨v9, rfl, hR⟩)
      go_ret
      exact ⟨_, rfl, hR⟩
end Go.Proofs.YtifloehpdkfchaaDoor
