import Derived.Test.YthcikinkicpicaaGreatDoorB08
import Derived.Test.YthcikinkicpicaaGreatDoorB07
import Derived.Deep.RegionLaw

namespace Go.Proofs.YthcikinkicpicaaGreatDoor
open Go.RowKit

theorem Tryz.infoQry : (Tryz.prog.info? 139).map (fun i => (i.zero, i.size, i.bytes)) = some (some (.agg #[.bool false, .bool false, .int .i64 0]), 3, 16) := by kernel_rfl

theorem made_qs : (madeCells #[Value.bool false, .bool false, .int .i64 0] (4 * 3)).toList = (qcells [q0, q0, q0, q0]).toList := by kernel_rfl

theorem new_w {w w1 : World} {o : Obj} (hg : (w.alloc o).grownBy w1 none) : w1.heap[w.heap.size]? = some o ∧ Below w.heap.size w w1 := by
  refine ⟨?_, hg.os, hg.tape, hg.output, ?_, fun k hk => ?_⟩
  · rw [hg.block _ (by simp) (by simp), heap_alloc_new]
  · have := hg.size; simp at this; omega
  · rw [hg.block k (by simp; omega) (by simp), heap_alloc_old hk]

theorem new_q {w w1 : World} {o : Obj} (h : w1.ownsRow 0 139 3 (.slice (some ⟨(w.alloc o).heap.size, 0, none⟩) 4 4) 4 (madeCells (Value.agg #[.bool false, .bool false, .int .i64 0]).cells (4 * 3)).toList) :
    w1.heap[w.heap.size + 1]? = some (.cells (qcells [q0, q0, q0, q0]) 139 (0, 0)) := by
  have h1 := owned_block h
  rw [show (w.alloc o).heap.size = w.heap.size + 1 from by simp] at h1
  rw [h1]
  have := made_qs
  simp only [Value.cells]
  rw [this]

set_option maxRecDepth 100000 in
set_option maxHeartbeats 1000000 in
theorem New_any (w : World) : Calls Tryz.prog 28 #[] w fun e w' =>
      e = .returned (.pointer (some ⟨w.heap.size, 0, none⟩)) ∧ ∃ dB qB shV outV, PaneO w.heap.size w' w.heap.size dB qB shV outV st0 ∧ Below w.heap.size w w' := by
  obtain ⟨i0, hi, hz0, hz1, hz2⟩ := info_parts Tryz.infoQry
  go_enter Tryz.func28, Tryz.ntmps28
  go_wp2_with (first
    | (at_make; refine wpList_make_full _ rfl (.const (.int .i64 4)) (.const (.int .i64 4)) 35 rfl 0 139 i0 _ 3 Tryz.underlying35 hi hz0 hz1 .i64 .i64 _ _ 4 rfl rfl rfl rfl (by rw [hz2]; omega) (by unfold maxLen; omega) (Nat.zero_le _) ?_; intro w1 hown hgrow; obtain ⟨hp1, hb1⟩ := new_w hgrow; have hq1 := new_q hown; clear hown hgrow; have cp1 := cell_of hp1; have fp1 := frozen_of hp1)
    | fail)
  refine (size_any w.heap.size _ _ _ _ _ _ _ _ _ _ _ _ _ _ _ _ _ _ _ _ _ _ 8 8 _ (heap_set_same hp1 _ _) (by omega) (by omega) (by omega) (by omega)).mono ?_
  rintro e w2 ⟨rfl, hp2, hd2, hk2⟩
  have hs1 := lt_of_heap hq1
  rw [size_setCell'] at hp2 hd2
  have hq2 : w2.heap[w.heap.size + 1]? = some (.cells (qcells [q0, q0, q0, q0]) 139 (0, 0)) := by
    rw [hk2.block _ (by rw [size_setCell']; omega) (by omega), heap_set_ne (by omega)]; exact hq1
  have hb2 : Below w.heap.size w w2 := by
    have hsz := hk2.size
    rw [size_setCell'] at hsz
    refine ⟨hk2.os.trans hb1.os, hk2.tape.trans hb1.tape, hk2.output.trans hb1.output, Nat.le_trans hb1.size hsz, fun k hk => ?_⟩
    rw [hk2.block k (by rw [size_setCell']; omega) (by omega), heap_set_ne (by omega)]
    exact hb1.block k hk
  clear hk2 hq1 hb1 cp1 fp1 hp1
  go_wp2_with fail
  go_ret
  go_light
  refine ⟨rfl, w1.heap.size, w.heap.size + 1, .slice none 0 0, .slice none 0 0, ⟨⟨?_, ?_, hq2, .inl ⟨rfl, rfl⟩, by omega, by omega, by omega⟩, ⟨rfl, .inl ⟨rfl, rfl⟩⟩, fun k hk => by simp [Value.ownBlock] at hk, Nat.le_refl _, by omega, by omega⟩, hb2⟩
  · rw [hp2]; rfl
  · rw [hd2]; rfl

end Go.Proofs.YthcikinkicpicaaGreatDoor

namespace Go.Proofs.YthcikinkicpicaaGreatDoor
open Go.RowKit

theorem bad_any (p g cap : Nat) (W H kind : Int) (a : List Int) (w : World) (h : BadW p g cap W H a w) (hl : lenOk kind a) (hW0 : 0 ≤ W) (hW1 : W ≤ 24) (hH0 : 0 ≤ H) (hH1 : H ≤ 24) :
    Calls Tryz.prog 29 #[.pointer (some ⟨p, 0, none⟩), .int .i64 kind, .slice (some ⟨g, 0, none⟩) a.length cap] w fun e w' => e = .returned (.bool (badB W H kind a)) ∧ Below w.heap.size w w' := by
  rcases hl with ⟨rfl, m, hm, hl, _⟩ | ⟨h8, hk1, hl⟩
  · exact bad8 p g cap W H a w m h hl hm
  · rcases kinds hk1 with ⟨rfl, hk⟩ | ⟨rfl, hk⟩ | ⟨rfl, hk⟩ | ⟨rfl, hk⟩ | ⟨rfl, hk⟩ | ⟨rfl, hk⟩ | ⟨rfl, hk⟩ | ⟨rfl, hk⟩ | ⟨rfl, hk⟩ | ⟨rfl, hk⟩ | ⟨rfl, hk⟩ | ⟨rfl, hk⟩ | ⟨rfl, hk⟩ | ⟨rfl, hk⟩
    · have e : a.length = 2 := by omega
      rw [e]; exact bad1 p g cap W H a w h e
    · exact bad2 p g cap W H a w a.length h rfl (by omega) 2 (by omega)
    · have e : a.length = 2 := by omega
      rw [e]; exact bad3 p g cap W H a w h e
    · have e : a.length = 7 := by omega
      rw [e]; exact bad4 p g cap W H a w h e
    · have e : a.length = 4 := by omega
      rw [e]; exact bad5 p g cap W H a w h e hW0 hW1 hH0 hH1
    · exact bad2 p g cap W H a w a.length h rfl (by omega) 6 (by omega)
    · exact bad2 p g cap W H a w a.length h rfl (by omega) 7 (by omega)
    · exact absurd rfl h8
    · exact bad9 p g cap W H a w a.length 9 (by omega)
    · exact bad2 p g cap W H a w a.length h rfl (by omega) 10 (by omega)
    · exact bad2 p g cap W H a w a.length h rfl (by omega) 11 (by omega)
    · exact bad9 p g cap W H a w a.length 12 (by omega)
    · have e : a.length = 3 := by omega
      rw [e]; exact bad13 p g cap W H a w h e
    · exact bad2 p g cap W H a w a.length h rfl (by omega) 14 (by omega)

end Go.Proofs.YthcikinkicpicaaGreatDoor

namespace Go.Proofs.YthcikinkicpicaaGreatDoor
open Go.RowKit

end Go.Proofs.YthcikinkicpicaaGreatDoor

namespace Go.Proofs.YthcikinkicpicaaGreatDoor
open Go.RowKit

theorem Tryz.infoInt : (Tryz.prog.info? 3).map (fun i => (i.zero, i.size, i.bytes)) = some (some (.int .i64 0), 1, 8) := by kernel_rfl

/-- What holds while a command's numbers are gathered: C is the block of the cursor. -/
structure Gather (C : Nat) (s : ByteArray) (i n : Nat) (W : World) (m : Nat) (wr : World) : Prop where
  box : ∃ v, wr.heap[C]? = some (.cells #[.string s, .int .i64 i, v] 48 (0, 0)) ∧ wr.ownsRow (C + 1) 3 1 v m ((argsAt s (i + 1) m).map (Value.int .i64))
  bel : Below C W wr
  sz : C < wr.heap.size

theorem lit1d (w : World) (a : Value) (T : TypeId) (B : Nat) (hB : B = w.heap.size) : ∀ j u, [a][j]? = some u → (w.alloc (.cells #[a] T)).drew.cell? ((⟨B, 0, none⟩ : Addr).add j) = some u := by
  subst hB
  intro j u hj
  have : j = 0 := by
    have := (List.getElem?_eq_some_iff.1 hj).1
    simp at this; omega
  subst this
  simp at hj
  subst hj
  exact World.cell?_alloc_at (w := w) #[a] T w.heap.size 0 rfl

theorem Gather.push {C : Nat} {s : ByteArray} {i n m : Nat} {W wr w' : World} {o : Obj} {v v' : Value} (h : Gather C s i n W m wr)
    (hbox : wr.heap[C]? = some (.cells #[.string s, .int .i64 i, v] 48 (0, 0))) (hown : wr.ownsRow (C + 1) 3 1 v m ((argsAt s (i + 1) m).map (Value.int .i64)))
    (ho : w'.ownsRow (C + 1) 3 1 v' (m + 1) ((argsAt s (i + 1) m).map (Value.int .i64) ++ [.int .i64 (byteAt s (i + 1 + m))])) (hg : (wr.alloc o).drew.grownBy w' v.ownBlock) :
    Gather C s i n W (m + 1) (w'.setCell ⟨C, 2, none⟩ v') ∧ w'.heap[C]? = some (.cells #[.string s, .int .i64 i, v] 48 (0, 0)) := by
  have hs := h.sz
  have hne : ∀ k, k ≤ C → some k ≠ v.ownBlock := fun k hk e => by have := (hown.lt k e.symm).1; omega
  have hC : w'.heap[C]? = some (.cells #[.string s, .int .i64 i, v] 48 (0, 0)) := by
    rw [hg.block C (by show C < (wr.alloc o).heap.size; simp; omega) (hne C (Nat.le_refl _))]
    show (wr.alloc o).heap[C]? = _
    rw [heap_alloc_old hs]; exact hbox
  refine ⟨⟨⟨v', ?_, ?_⟩, ?_, ?_⟩, hC⟩
  · rw [heap_set_same hC]; rfl
  · rw [argsAt_succ, List.map_append]
    obtain ⟨o1, o2⟩ := ho
    refine ⟨o1, ?_⟩
    rcases o2 with o2 | ⟨g, cap, cur, hv, hge, hh, r⟩
    · exact .inl o2
    · exact .inr ⟨g, cap, cur, hv, hge, by rw [heap_set_ne (by omega)]; exact hh, r⟩
  · have h1 : Below C W w' := by
      refine h.bel.trans ⟨hg.os, hg.tape, hg.output, ?_, fun k hk => ?_⟩
      · have := hg.size; have e : (wr.alloc o).drew.heap.size = wr.heap.size + 1 := by show (wr.alloc o).heap.size = _; simp
        omega
      · rw [hg.block k (by show k < (wr.alloc o).heap.size; simp; omega) (hne k (by omega))]
        exact heap_alloc_old (by omega) o
    exact h1.setCell (Nat.le_refl _) _
  · rw [size_setCell']; exact lt_of_heap hC

end Go.Proofs.YthcikinkicpicaaGreatDoor

namespace Go.Proofs.YthcikinkicpicaaGreatDoor
open Go.RowKit

section
variable {C : Nat} {s : ByteArray} {i n m g cap : Nat} {W wr : World}

theorem own_cells {xs : List Int} (hown : wr.ownsRow (C + 1) 3 1 (.slice (some ⟨g, 0, none⟩) m cap) m (xs.map (Value.int .i64))) (hl : xs.length = m) :
    (∀ j, j < xs.length → wr.cell? ⟨g, j, none⟩ = some (.int .i64 (xs.getD j 0))) ∧ g < wr.heap.size ∧ C + 1 ≤ g ∧ m ≤ cap ∧ ∃ c f, wr.heap[g]? = some (.cells c 3 f) := by
  have h1 := hown.lt g rfl
  refine ⟨fun j hj => ?_, h1.2, h1.1, ?_, ?_⟩
  · rw [hown.cellAt j (by omega)]
    rw [List.getElem?_map, List.getElem?_eq_getElem hj, List.getD_eq_getElem?_getD, List.getElem?_eq_getElem hj]
    rfl
  · rcases hown.2 with ⟨h2, _⟩ | ⟨g', cap', cur, hv, _, _, hc, _⟩
    · cases h2
    · injection hv with _ _ e3
      omega
  · obtain ⟨cur, hc⟩ := owns_block hown g rfl
    exact ⟨cur, (0, 0), hc⟩
end

end Go.Proofs.YthcikinkicpicaaGreatDoor
