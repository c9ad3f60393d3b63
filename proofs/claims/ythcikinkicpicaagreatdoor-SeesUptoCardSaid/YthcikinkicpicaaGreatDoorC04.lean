import Derived.Test.YthcikinkicpicaaGreatDoorB04
import Derived.Deep.Onto
import Derived.Deep.LoopGhost
import Derived.Laws.IdiomStrings
import Derived.ChangeAgain
import Derived.Test.YthcikinkicpicaaGreatDoorB11

namespace Go.Proofs.YthcikinkicpicaaGreatDoor
open Go.RowKit

def bcells (l : List UInt8) : List Value := l.map fun b => Value.int .u8 (b.toNat : Int)

/-- A slice of bytes that began as []byte(s), and onto which l was appended. -/
structure Grow (w W : World) (s : ByteArray) (cap : Nat) (l : List UInt8) (v : Value) (wr : World) : Prop where
  came : Came W 1 (some ⟨w.heap.size, 0, none⟩) w.heap.size 0 s.size cap (bcells s.data.toList)
  onto : Onto W 5 1 (some ⟨w.heap.size, 0, none⟩) w.heap.size 0 s.size cap (bcells s.data.toList) wr v l.length (bcells l)
  bel : Below w.heap.size w W
  capm : cap ≤ maxLen

theorem grow_start (w : World) (s : ByteArray) (hs : s.size ≤ maxLen) :
    Grow w (w.drew.alloc (.cells (bytesRow s (grownCap w s.size 0 5)) 5 ((bytesRow s (grownCap w s.size 0 5)).size, (bytesRow s (grownCap w s.size 0 5)).size + 1))) s (grownCap w s.size 0 5) []
      (.slice (some ⟨w.heap.size, 0, none⟩) s.size (grownCap w s.size 0 5))
      (w.drew.alloc (.cells (bytesRow s (grownCap w s.size 0 5)) 5 ((bytesRow s (grownCap w s.size 0 5)).size, (bytesRow s (grownCap w s.size 0 5)).size + 1))) := by
  have hge := grownCap_ge w s.size 0 5
  have hle := grownCap_le_maxLen w s.size 0 5 hs
  generalize grownCap w s.size 0 5 = C at *
  have hsz : (bytesRow s C).size = C := by
    simp [bytesRow]; omega
  have hb : Below w.heap.size w (w.drew.alloc (.cells (bytesRow s C) 5 ((bytesRow s C).size, (bytesRow s C).size + 1))) := ((Below.refl _ _).drew).alloc (Nat.le_refl _) _
  have hblk : (w.drew.alloc (.cells (bytesRow s C) 5 ((bytesRow s C).size, (bytesRow s C).size + 1))).heap[w.heap.size]? = some (.cells (bytesRow s C) 5 ((bytesRow s C).size, (bytesRow s C).size + 1)) := heap_alloc_new w.drew _
  have hcell := cell_of hblk
  have hcame : Came (w.drew.alloc (.cells (bytesRow s C) 5 ((bytesRow s C).size, (bytesRow s C).size + 1))) 1 (some ⟨w.heap.size, 0, none⟩) w.heap.size 0 s.size C (bcells s.data.toList) := by
    refine ⟨hge, fun _ => rfl, fun _ => lt_of_heap hblk, by simp [bcells], fun j u hj => ?_, fun j hj => ?_⟩
    · rw [Nat.zero_add, hcell]
      have hlt : j < s.data.toList.length := by
        have := (List.getElem?_eq_some_iff.1 hj).1
        simpa [bcells] using this
      rw [← hj]
      simp [bytesRow, bcells]
      rw [Array.getElem?_append_left (by simpa using hlt)]
      simp
    · refine ⟨?_, ?_⟩
      · rw [hcell]
        have : 0 + s.size * 1 + j < (bytesRow s C).size := by rw [hsz]; omega
        rw [Array.getElem?_eq_getElem this]; rfl
      · simp only [World.frozen?, hblk]
        simp [hsz]
        omega
  exact ⟨hcame, Onto.start hcame, hb, hle⟩

/-- Old blocks are as they were. -/
structure Old (w w' : World) : Prop where
  os : w'.os = w.os
  output : w'.output = w.output
  size : w.heap.size ≤ w'.heap.size
  block : ∀ k, k < w.heap.size → w'.heap[k]? = w.heap[k]?

theorem Old.of {w w' : World} (h : Below w.heap.size w w') : Old w w' := ⟨h.os, h.output, h.size, h.block⟩
theorem Old.trans {w w' w'' : World} (h : Old w w') (h' : Old w' w'') : Old w w'' :=
  ⟨h'.os.trans h.os, h'.output.trans h.output, Nat.le_trans h.size h'.size, fun k hk => (h'.block k (Nat.lt_of_lt_of_le hk h.size)).trans (h.block k hk)⟩
theorem Old.frame {W w' : World} (h : Old W w') (may : MemPlace → Prop) : W.keptBut w' may := by
  refine ⟨h.os, h.output, fun i hi => ?_⟩
  rw [h.block i hi]
  split <;> simp_all

theorem Grow.low {w W : World} {s : ByteArray} {cap : Nat} {l : List UInt8} {v : Value} {wr : World} (h : Grow w W s cap l v wr) : Old w wr := by
  have h1 := h.bel.size
  have h2 := h.onto.kept.size
  refine ⟨h.onto.kept.1.trans h.bel.os, h.onto.kept.2.1.trans h.bel.output, by omega, fun k hk => ?_⟩
  rw [h.onto.kept.block (by omega) (fun p ⟨j, _, _, e⟩ => by subst e; simp [MemPlace.block]; omega)]
  exact h.bel.block k hk

/-- Some slice of n bytes, in new memory. -/
def BSl (w : World) (n : Nat) (v : Value) (wr : World) : Prop := ∃ W s cap l, Grow w W s cap l v wr ∧ s.size + l.length = n

theorem BSl.alloc {w : World} {n : Nat} {v : Value} {wr : World} (h : BSl w n v wr) (o : Obj) : BSl w n v (wr.alloc o) := by
  obtain ⟨W, s, cap, l, h, e⟩ := h
  exact ⟨W, s, cap, l, ⟨h.came, h.onto.alloc h.came o, h.bel, h.capm⟩, e⟩
theorem BSl.drew {w : World} {n : Nat} {v : Value} {wr : World} (h : BSl w n v wr) : BSl w n v wr.drew := by
  obtain ⟨W, s, cap, l, h, e⟩ := h
  exact ⟨W, s, cap, l, ⟨h.came, h.onto.drew h.came, h.bel, h.capm⟩, e⟩
theorem BSl.old {w : World} {n : Nat} {v : Value} {wr : World} (h : BSl w n v wr) : Old w wr := by
  obtain ⟨W, s, cap, l, h, e⟩ := h
  exact h.low

/-- append of one byte, as one step of a region that draws its order. -/
theorem step_append_b {P : Program} {ops : Array Oper} {o : Oper} {a : Act} {w w0 : World} {K : Act → World → Prop} {Q : Exit → Act → World → Prop} {E : Prop}
    (hg : o.guard = none) (s x : Operand) (t : TypeId) (hop : o.op = Op.call { callee := Callee.builtin Builtin.append, args := #[s, x], argTypes := #[t, t] })
    (i : TypeInfo) (z : Value) (h1 : P.underlying t = some (.slice 5)) (h2 : P.info? 5 = some i) (h3 : i.zero = some z) (h4 : i.size = 1) (h5 : i.bytes = 1) (h6 : z.cells.size = 1)
    (v : Value) (n : Nat) (hs : a.eval s = v) (hown : BSl w0 n v w)
    (ad : Addr) (c : Nat) (k : UInt8) (hx : a.eval x = .slice (some ad) 1 c) (hc : w.cell? (ad.add 0) = some (.int .u8 (k.toNat : Int)))
    (b1 : n ≤ 1000000000000)
    (hK : ∀ v' w', BSl w0 (n + 1) v' w' → K (a.put o.dst v') w') :
    if Region.wanted o (yielded ops a.tmps) = true then Oper.wp P o a w K Q else E := by
  have hw : Region.wanted o (yielded ops a.tmps) = true := by simp [Region.wanted, hg]
  rw [if_pos hw]
  obtain ⟨W, sb, cap, l, h, e⟩ := hown
  obtain ⟨v', w', hrun, r⟩ := run_append_onto (P := P) h.came t o.type i z 1 h1 h2 h3 h4 h5 h6 (by decide) h.onto ad c [.int .u8 (k.toNat : Int)] rfl (fun j u hj => by
    rcases j with _ | j
    · simp at hj; subst hj; exact hc
    · simp at hj) (by simp [Value.oneCell']) (by unfold maxLen; omega) (by omega)
  have r' : BSl w0 (n + 1) v' w' := ⟨W, sb, cap, l ++ [k], ⟨h.came, by simpa [bcells] using r, h.bel, h.capm⟩, by simp; omega⟩
  unfold Oper.wp
  simp [execOp, hop, resolve, invoke, builtin, hs, hx, hrun, Result.andThen]
  exact hK v' w' r'

theorem wpList_append_b {P : Program} (w : World) {ops : Array Oper} {rest : List Oper} {o : Oper} {a : Act} {Q : Exit → Act → World → Prop} (hgd : o.guard = none) (s x : Operand) (t : TypeId)
    (ho : o.op = .call { callee := .builtin .append, args := #[s, x], argTypes := #[t, t] })
    (i : TypeInfo) (z : Value) (h1 : P.underlying t = some (.slice 5)) (h2 : P.info? 5 = some i) (h3 : i.zero = some z) (h4 : i.size = 1) (h5 : i.bytes = 1) (h6 : z.cells.size = 1)
    (w0 : World) (v : Value) (n : Nat) (hs : a.eval s = v) (hown : BSl w0 n v w)
    (ad : Addr) (c : Nat) (k : Int) (k0 : 0 ≤ k) (k1 : k < 256) (hx : a.eval x = .slice (some ad) 1 c) (hc : w.cell? (ad.add 0) = some (.int .u8 k))
    (b1 : n ≤ 1000000000000)
    (hK : ∀ v' w', BSl w0 (n + 1) v' w' → wpList P ops Q rest (a.put o.dst v') w') : wpList P ops Q (o :: rest) a w := by
  refine wpList_plain hgd fun K hK' => ?_
  obtain ⟨W, sb, cap, l, h, e⟩ := hown
  obtain ⟨k, rfl⟩ := Int.eq_ofNat_of_zero_le k0
  have hk : (UInt8.ofNat k).toNat = k := by simp; omega
  obtain ⟨v', w', hrun, r⟩ := run_append_onto (P := P) h.came t o.type i z 1 h1 h2 h3 h4 h5 h6 (by decide) h.onto ad c [.int .u8 (k : Int)] rfl (fun j u hj => by
    rcases j with _ | j
    · simp at hj; subst hj; exact hc
    · simp at hj) (by simp [Value.oneCell']) (by unfold maxLen; omega) (by omega)
  have r' : BSl w0 (n + 1) v' w' := ⟨W, sb, cap, l ++ [UInt8.ofNat k], ⟨h.came, by simpa only [bcells, List.map_append, List.map_cons, List.map_nil, hk, List.length_append, List.length_cons, List.length_nil] using r, h.bel, h.capm⟩, by simp; omega⟩
  unfold Oper.wp
  simp [execOp, ho, resolve, invoke, builtin, hs, hx, hrun, Result.andThen]
  exact hK' _ _ (hK v' w' r')

theorem lit1c (w : World) (a : Value) (T : TypeId) : (w.alloc (.cells #[a] T)).cell? ((⟨w.heap.size, 0, none⟩ : Addr).add 0) = some a :=
  World.cell?_alloc_at (w := w) #[a] T w.heap.size 0 rfl

theorem BSl.back {w : World} {n : Nat} {v : Value} {wr : World} (h : BSl w n v wr) :
    ∃ (g o cap : Nat) (l : List UInt8), v = .slice (some ⟨g, o, none⟩) l.length cap ∧ l.length = n ∧ ∀ j (hj : j < l.length), wr.cell? ((⟨g, o, none⟩ : Addr).add j) = some (.int .u8 (l[j].toNat : Int)) := by
  obtain ⟨W, s, cap, l, h, e⟩ := h
  have hl : (s.data.toList ++ l).length = n := by simp; exact e
  by_cases hpos : 0 < cap ∨ 0 < l.length
  · obtain ⟨g, o, cap', rfl, _, _, hc⟩ := h.onto.value h.came h.capm hpos
    refine ⟨g, o, cap', s.data.toList ++ l, by rw [hl, e], hl, fun j hj => ?_⟩
    have := hc j (by rw [hl] at hj; omega)
    rw [show (⟨g, o, none⟩ : Addr).add j = ⟨g, o + j, none⟩ from by simp [Addr.add], this]
    have hj' : j < (s.data.toList ++ l).length := hj
    simp only [bcells, ← List.map_append, List.getElem?_map, List.getElem?_eq_getElem hj', Option.map_some]
  · have hc0 : cap = 0 := by omega
    have hl0 : l.length = 0 := by omega
    have hv := h.onto.bare h.came hc0 hl0
    have hs0 := h.came.le
    refine ⟨w.heap.size, 0, 0, [], by simpa using hv, by simp; omega, fun j hj => by simp at hj⟩

theorem Tryz.infoByte : (Tryz.prog.info? 5).map (fun i => (i.zero, i.size, i.bytes)) = some (some (.int .u8 0), 1, 1) := by kernel_rfl

set_option maxRecDepth 100000 in
set_option maxHeartbeats 4000000 in
theorem all_in (s : ByteArray) (W H : Nat) (w : World) (hs : s.size ≤ 100000000000) (hW : W ≤ 24) (hH : H ≤ 24) :
    Calls Tryz.prog 14 #[.string s, .int .i64 W, .int .i64 H] w fun e w' =>
      ∃ s' : ByteArray, e = .returned (.string s') ∧ s'.size = s.size + 12 * W * H ∧ Old w w' := by
  have hcv := fun w s => run_bytes_of_string (P := Tryz.prog) w 9 99 5 s Tryz.underlying9 Tryz.underlying99 Tryz.underlying5
  have hback := fun w a cap l => run_convert_bytes_back (P := Tryz.prog) w 99 9 5 a cap l Tryz.underlying99 Tryz.underlying5 Tryz.underlying9
  obtain ⟨i0, hi, hz0, hz1, hz2⟩ := info_parts Tryz.infoByte
  have hWk : ∀ k : Nat, k ≤ 24 → W * k ≤ 576 := fun k hk => Nat.mul_le_mul hW hk
  have hst := grow_start w s (by unfold maxLen; omega)
  go_enter Tryz.func14, Tryz.ntmps14
  go_wp2_with fail
  go_loopg [7, 8] H (fun n v i wr => ∃ k : Nat, k + n = H ∧ i = .int .i64 k ∧ BSl w (s.size + 12 * (W * k)) v wr)
  case atStart => exact ⟨0, by omega, rfl, _, s, _, [], hst, by simp⟩
  case round =>
    obtain ⟨k, hk, rfl, hB⟩ := hrel
    by_cases hlt : k < H
    · obtain ⟨n', rfl⟩ : ∃ n', gk = n' + 1 := ⟨gk - 1, by omega⟩
      have d1 : decide ((k : Int) < (H : Int)) = true := by simp; omega
      go_wp2_with fail
      go_loopg [7, 9] W (fun n v i wx => ∃ x : Nat, x + n = W ∧ i = .int .i64 x ∧ BSl w (s.size + 12 * (W * k) + 12 * x) v wx)
      case atStart => exact ⟨0, by omega, rfl, hB⟩
      case round =>
        obtain ⟨x, hx, rfl, hB1⟩ := hrel
        by_cases hlx : x < W
        · obtain ⟨n2, rfl⟩ : ∃ n2, gk = n2 + 1 := ⟨gk - 1, by omega⟩
          have d2 : decide ((x : Int) < (W : Int)) = true := by simp; omega
          go_wp2_with fail
          go_loopg [7, 10] 3 (fun n v i wy => ∃ j : Nat, j + n = 3 ∧ i = .int .i64 ((j + 1 : Nat) : Int) ∧ BSl w (s.size + 12 * (W * k) + 12 * x + 4 * j) v wy)
          case atStart => exact ⟨0, by omega, rfl, hB1⟩
          case round =>
            obtain ⟨j, hj, rfl, hB2⟩ := hrel
            by_cases hlj : j < 3
            · obtain ⟨n3, rfl⟩ : ∃ n3, gk = n3 + 1 := ⟨gk - 1, by omega⟩
              have hWk1 := hWk k (by omega)
              go_wp2_with (first | (at_builtin; refine wpList_append_b _ rfl (.tmp 27) (.tmp 28) 99 rfl i0 _ Tryz.underlying99 hi hz0 hz1 hz2 rfl w u7 (s.size + 12 * (W * k) + 12 * x + 4 * j) (by simp [Act.eval]) (by exact hB2.alloc _) ⟨wr.heap.size, 0, none⟩ 1 13 (by omega) (by omega) (by simp [Act.eval]) (by exact lit1c _ _ _) (by omega) ?_; intro v3 w3 hB3) | (at_builtin; refine wpList_append_b _ rfl (.tmp 30) (.tmp 33) 99 rfl i0 _ Tryz.underlying99 hi hz0 hz1 hz2 rfl w v3 (s.size + 12 * (W * k) + 12 * x + 4 * j + 1) (by simp [Act.eval]) (by exact hB3.alloc _) ⟨w3.heap.size, 0, none⟩ 1 ((j : Int) + 1) (by omega) (by omega) (by simp [Act.eval]) (by exact lit1c _ _ _) (by omega) ?_; intro v4 w4 hB4) | (at_builtin; refine wpList_append_b _ rfl (.tmp 35) (.tmp 38) 99 rfl i0 _ Tryz.underlying99 hi hz0 hz1 hz2 rfl w v4 (s.size + 12 * (W * k) + 12 * x + 4 * j + 1 + 1) (by simp [Act.eval]) (by exact hB4.alloc _) ⟨w4.heap.size, 0, none⟩ 1 (x : Int) (by omega) (by omega) (by simp [Act.eval]) (by exact lit1c _ _ _) (by omega) ?_; intro v5 w5 hB5) | (at_builtin; refine wpList_append_b _ rfl (.tmp 40) (.tmp 43) 99 rfl i0 _ Tryz.underlying99 hi hz0 hz1 hz2 rfl w v5 (s.size + 12 * (W * k) + 12 * x + 4 * j + 1 + 1 + 1) (by simp [Act.eval]) (by exact hB5.alloc _) ⟨w5.heap.size, 0, none⟩ 1 (k : Int) (by omega) (by omega) (by simp [Act.eval]) (by exact lit1c _ _ _) (by omega) ?_; intro v6 w6 hB6))
              go_roundg n3
              case rel => exact ⟨j + 1, by omega, by go_num, by have := hB6; rwa [show s.size + 12 * (W * k) + 12 * x + 4 * j + 1 + 1 + 1 + 1 = s.size + 12 * (W * k) + 12 * x + 4 * (j + 1) by omega] at this⟩
              case measure => omega
            · have hg0 : gk = 0 := by omega
              subst hg0
              obtain rfl : j = 3 := by omega
              go_wp2_with fail
              go_roundg n2
              case rel => exact ⟨x + 1, by omega, by go_num, by have := hB2; rwa [show s.size + 12 * (W * k) + 12 * x + 4 * 3 = s.size + 12 * (W * k) + 12 * (x + 1) by omega] at this⟩
              case measure => omega
        · have hg0 : gk = 0 := by omega
          subst hg0
          obtain rfl : x = W := by omega
          go_wp2_with fail
          go_roundg n'
          case rel => exact ⟨k + 1, by omega, by go_num, by have := hB1; rwa [show s.size + 12 * (x * k) + 12 * x = s.size + 12 * (x * (k + 1)) by rw [Nat.mul_add]; omega] at this⟩
          case measure => omega
    · have hg0 : gk = 0 := by omega
      subst hg0
      obtain rfl : k = H := by omega
      obtain ⟨g, o, cap, l, rfl, hl, hc⟩ := hB.back
      have hcb := hback wr ⟨g, o, none⟩ cap l hc
      have hold := hB.old
      have HL : Hid (l.length = s.size + 12 * (W * k)) := hl
      clear hl hB hback hc
      go_wp2_with fail
      go_ret
      go_light
      refine ⟨_, rfl, ?_, hold⟩
      show l.toArray.size = _
      rw [List.size_toArray, HL.out, Nat.mul_assoc]

end Go.Proofs.YthcikinkicpicaaGreatDoor

namespace Go.Proofs.YthcikinkicpicaaGreatDoor
open Go.RowKit

set_option maxRecDepth 100000 in
set_option maxHeartbeats 1000000 in
theorem Sees_true (hdraw : DrawAll) (s : ByteArray) (ways : Int) (w : World) (ht : Tab w) (hs : s.size ≤ 10000000000) :
    Calls Tryz.prog 4 #[.string s, .int .i64 ways] w fun e w' => e = .returned (.bool true) ∧ Old w w' := by
  have hok := play_ok s s.size 0 st0 (Nat.zero_le _) (by simpa using st0_ok)
  have hplay := Play_in s w (by omega)
  generalize playFrom s s.size 0 st0 = R at *
  obtain ⟨W, hW⟩ := Int.eq_ofNat_of_zero_le (Int.le_trans (by decide) hok.W0)
  obtain ⟨H, hH⟩ := Int.eq_ofNat_of_zero_le (Int.le_trans (by decide) hok.H0)
  have hW1 := hok.W1
  have hH1 := hok.H1
  have hall := fun w' => all_in s W H w' (by omega) (by omega) (by omega)
  have HA : Hid (∀ w' : World, Calls Tryz.prog 14 #[.string s, .int .i64 W, .int .i64 H] w' fun e w'' => ∃ s' : ByteArray, e = .returned (.string s') ∧ s'.size = s.size + 12 * W * H ∧ Old w' w'') := hall
  have HT : Hid (Tab w) := ht
  have HP : Hid (Calls Tryz.prog 12 #[.string s] w fun e w'' => e = .returned (.pointer (some ⟨w.heap.size, 0, none⟩)) ∧ ∃ dB qB shV outV, PaneO w.heap.size w'' w.heap.size dB qB shV outV R ∧ Below w.heap.size w w'') := hplay
  have hWH : 12 * W * H ≤ 6912 := Nat.mul_le_mul (Nat.mul_le_mul (Nat.le_refl 12) (by omega : W ≤ 24)) (by omega : H ≤ 24)
  clear hall ht hplay hok
  go_enter Tryz.func4, Tryz.ntmps4
  go_wp2_with fail
  refine HP.out.mono ?_
  rintro e w1 ⟨rfl, dB, qB, shV, outV, hP1, hb1⟩
  have cp := cell_of hP1.pin.bp
  simp only [pcells] at cp
  rw [hW, hH] at cp
  go_wp2_with fail
  go_region_with (go_at_call 14; refine (HA.out _).mono ?_; rintro e w2 ⟨s', rfl, hs', ho2⟩)
  all_goals
    have hT2 : Hid (Tab w2) := Tab.keep (by exact HT.out.keep hb1.block) ho2.block
    have ho : Hid (Old w w2) := (Old.of hb1).trans (by exact ⟨ho2.os, ho2.output, ho2.size, ho2.block⟩)
    have hsz : s'.size ≤ 20000000000 := by omega
    have hlen := play_out_len s' s'.size 0 st0
    have hl0 : st0.out.length = 0 := rfl
    have hl2 : (playFrom s' s'.size 0 st0).out.length ≤ 100000000000 := by omega
    have hplay2 := fun w' => Play_in s' w' (by omega)
    have hd2 := hdraw s' ways w2 (by omega) hT2.out
    generalize playFrom s' s'.size 0 st0 = R2 at *
    have HP2 : Hid (∀ w' : World, Calls Tryz.prog 12 #[.string s'] w' fun e w'' => e = .returned (.pointer (some ⟨w'.heap.size, 0, none⟩)) ∧ ∃ dB qB shV outV, PaneO w'.heap.size w'' w'.heap.size dB qB shV outV R2 ∧ Below w'.heap.size w' w'') := hplay2
    have HD2 : Hid (Calls Tryz.prog 11 #[.string s', .int .i64 ways] w2 fun e w'' => ∃ v, e = .returned v ∧ w''.ownsRow w2.heap.size 25 4 v R2.out.length (rcells R2.out) ∧ Below w2.heap.size w2 w'') := hd2
    clear hplay2 hd2 hlen hl0 cp ho2 hP1 hb1 hs'
    go_wp2_with fail
    refine HD2.out.mono ?_
    rintro e w3 ⟨v3, rfl, hown3, hb3⟩
    have hr3 := repsAt_own hown3
    clear hown3
    go_wp2_with fail
    refine (HP2.out w3).mono ?_
    rintro e w4 ⟨rfl, dB2, qB2, shV2, outV2, hP4, hb4⟩
    have cp4 := cell_of hP4.pin.bp
    simp only [pcells] at cp4
    have hr4 := hr3.below hb4
    have hq4 := repsAt_own hP4.out
    go_wp2_with fail
    refine (same_true v3 outV2 R2.out w4 hr4 hq4 (by omega)).mono ?_
    rintro e w5 ⟨rfl, hb5⟩
    go_wp2_with fail
    go_ret
    exact ⟨rfl, ((ho.out.trans (Old.of hb3)).trans (Old.of hb4)).trans (Old.of hb5)⟩

end Go.Proofs.YthcikinkicpicaaGreatDoor
