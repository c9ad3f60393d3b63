import Derived.Test.YtifloehpdkfchaaGreatDoorB12

namespace Go.Proofs.YtifloehpdkfchaaGreatDoor
open Go.RowKit
theorem PaneO.shade {base : Nat} {w : World} {p dB qB : Nat} {shV outV : Value} {st : St} (h : PaneO base w p dB qB shV outV st) (g so cap : Nat) (l : List Int)
    (hg : g < w.heap.size) (hgp : g ≠ p) (hgd : g ≠ dB) (hgq : g ≠ qB) (ht : ∃ c f, w.heap[g]? = some (.cells c 3 f)) (hcap : l.length ≤ cap) (hcell : ∀ j, j < l.length → w.cell? ⟨g, so + j, none⟩ = some (.int .i64 (l.getD j 0))) :
    PaneO base (w.setCell ⟨p, 18, none⟩ (.slice (some ⟨g, so, none⟩) l.length cap)) p dB qB (.slice (some ⟨g, so, none⟩) l.length cap) outV { st with sh := l } := by
  have hk : Kept (· = p) w (w.setCell ⟨p, 18, none⟩ (.slice (some ⟨g, so, none⟩) l.length cap)) := (Kept.refl (· = p) w).set (.inl rfl) _ _
  obtain ⟨l1, l2, l3⟩ := h.pin.lt
  refine ⟨⟨?_, ?_, ?_, .inr ⟨g, so, cap, rfl, hcap, by rw [size_setCell']; exact hg, ?_, fun j hj => ?_⟩, h.pin.pd, h.pin.pq, h.pin.dq⟩, ?_, ?_, h.bp0, h.bd0, h.bq0⟩
  · rw [heap_set_same h.pin.bp]; simp [pcells]
  · rw [hk.block dB l2 (fun x => h.pin.pd x.symm)]; exact h.pin.bd
  · rw [hk.block qB l3 (fun x => h.pin.pq x.symm)]; exact h.pin.bq
  · rintro (e | e | e)
    · exact hgp e
    · exact hgd e
    · exact hgq e
  · rw [World.cell?_of_block (w := w) (a := ⟨g, so + j, none⟩) (hk.block g hg hgp)]; exact hcell j hj
  · obtain ⟨o1, o2⟩ := h.out
    refine ⟨o1, ?_⟩
    rcases o2 with o2 | ⟨g', cap', cur, hv, hge, hh, r⟩
    · exact .inl o2
    · refine .inr ⟨g', cap', cur, hv, hge, ?_, r⟩
      rw [hk.block g' (lt_of_heap hh) (h.ob g' (by rw [hv]; rfl)).1]
      exact hh
  · intro k hk'
    simp [Value.ownBlock] at hk'
    subst hk'
    rw [hk.block g hg hgp]; exact ht

theorem tail_getD (a : List Int) (j : Nat) : a.tail.getD j 0 = a.getD (j + 1) 0 := by
  cases a with
  | nil => simp
  | cons x l => simp

section
variable (base p dB qB : Nat) (shV outV : Value) (st : St) (s : ByteArray) (fr : Int) (g cap : Nat) (a : List Int) (w : World)

set_option maxRecDepth 100000 in
set_option maxHeartbeats 1000000 in
theorem does8 (h : DoesW base p dB qB shV outV st g cap a w) (n : Nat) (hl : a.length = n + 1) (hgp : g ≠ p) (hgd : g ≠ dB) (hgq : g ≠ qB) (ht : ∃ c f, w.heap[g]? = some (.cells c 3 f)) :
    Calls Tryz.prog 17 #[.pointer (some ⟨p, 0, none⟩), .int .i64 8, curV s fr (.slice (some ⟨g, 0, none⟩) (n + 1) cap)] w (DoesPost base p qB w (st.does 8 a)) := by
  have hfin : st.does 8 a = ({ st with sh := a.tail }, 0) := by unfold St.does; simp
  rw [hfin]
  have hpane := h.pane
  have hg := h.g0
  have hcell := h.cell
  have hlen := h.len
  have hcap := h.cap
  rw [hl] at hcap hlen
  clear h hfin
  have HC : Hid (∀ j, j < a.length → w.cell? ⟨g, j, none⟩ = some (.int .i64 (a.getD j 0))) := hcell
  have HL : Hid (a.length = n + 1) := hl
  clear hcell hl
  have cp := cell_of hpane.pin.bp
  simp only [pcells] at cp
  have fp := frozen_of hpane.pin.bp
  obtain ⟨lp, ld, lq⟩ := hpane.pin.lt
  have hn1 : (1 : Int) ≤ ((n + 1 : Nat) : Int) := by omega
  have hc1 : ((n + 1 : Nat) : Int) ≤ (cap : Int) := by omega
  unfold curV
  go_enter Tryz.func17, Tryz.ntmps17
  go_wp2_with fail
  · go_ret
    go_light
    have htl : a.tail.length = n := by rw [List.length_tail, HL.out]; rfl
    have hn0 : n = 0 := by omega
    have P := hpane.shade g 0 0 a.tail hg hgp hgd hgq ht (by omega) (fun j hj => by omega)
    rw [htl] at P
    exact ⟨rfl, dB, _, outV, P.frame below1, hpane.low1 ((Kept.refl (· = p) w).set (.inl rfl) _ _) _⟩
  · go_ret
    go_light
    have htl : a.tail.length = n := by rw [List.length_tail, HL.out]; rfl
    have P := hpane.shade g 1 (cap - 1) a.tail hg hgp hgd hgq ht (by omega) (fun j hj => by rw [tail_getD, Nat.add_comm 1 j]; exact HC.out (j + 1) (by have := HL.out; omega))
    rw [htl] at P
    exact ⟨rfl, dB, _, outV, P.frame below1, hpane.low1 ((Kept.refl (· = p) w).set (.inl rfl) _ _) _⟩

theorem tri_out (x y z : Cor) : (st.tri x y z).out = st.out ∧ (st.tri x y z).sh = st.sh := by
  have key : ∀ (a b c : Cor) (A : Int) (n : Nat) (y : Int) (st : St), (triY a b c A n y st).out = st.out ∧ (triY a b c A n y st).sh = st.sh := by
    intro a b c A n
    induction n with
    | zero => intro y st; exact ⟨rfl, rfl⟩
    | succ n ih =>
      intro y st
      rw [triY]
      have h1 := ih (y + 1) (triX a b c A y st.ww.toNat st.wx st)
      have h2 := triX_same a b c A y st.ww.toNat st.wx st
      exact ⟨h1.1.trans h2.2.2.2.2.2.2.2.2, h1.2.trans h2.2.2.2.2.2.2.2.1⟩
  unfold St.tri
  split
  · exact ⟨rfl, rfl⟩
  · split <;> exact key ..

theorem corner9 (hg : g < w.heap.size) (hcell : ∀ j, j < a.length → w.cell? ⟨g, j, none⟩ = some (.int .i64 (a.getD j 0))) (hby : bytesOk a) (hl : a.length = 27) (o : Obj) (i : Int) (n : Nat) (hn : i = n) (h18 : n ≤ 18) (x : Cor) (hx : cornerOf a n = x) {W : World}
    (hb : Below (w.alloc o).heap.size (w.alloc o) W) :
    Calls Tryz.prog 29 #[.agg #[.string s, .int .i64 fr, .slice (some ⟨g, 0, none⟩) 27 cap], .int .i64 i] W fun e w' => e = .returned x.v ∧ Below (w.alloc o).heap.size (w.alloc o) w' := by
  have hs := hb.size
  simp at hs
  have h1 := corner_any s fr g cap a i W (by omega) (by omega) (fun j hj => by
    rw [hb.cell (p := ⟨g, j, none⟩) (by simp; omega), World.cell?_alloc_past _ _ _ hg]; exact hcell j hj) (by omega) (by omega) hby
  rw [hl] at h1
  refine h1.mono ?_
  rintro e w' ⟨he, hb'⟩
  refine ⟨?_, hb.trans (hb'.mono hb.size)⟩
  rw [he, ← hx, hn]; rfl

theorem tri9 (hp : PaneO base w p dB qB shV outV st) (x y z : Cor) (hx : x.Ok) (hy : y.Ok) (hz : z.Ok) (K : Int) (hok : st.Ok K) (hK : K ≤ 3900000000000000000) (o : Obj) {W : World} (hb : Below (w.alloc o).heap.size (w.alloc o) W) :
    Calls Tryz.prog 28 #[.pointer (some ⟨p, 0, none⟩), x.v, y.v, z.v] W fun e w' =>
      e = .returned (.tuple #[]) ∧ PaneO base w' p dB qB shV outV (st.tri x y z) ∧ Below base w w' := by
  have h0 : Below w.heap.size w W := below1.trans (hb.mono (by simp))
  have hW := hp.frame h0
  refine (tri_in p dB qB shV outV st x y z W K hW.pin hok hK hx hy hz).mono ?_
  rintro e w' ⟨rfl, h1, hk⟩
  have hout := tri_out st x y z
  refine ⟨rfl, hW.step h1 hout.1 hk, ?_⟩
  have hlt := hp.pin.lt
  have hb0 := hp.bp0
  exact (h0.mono (by omega)).trans (hW.low (hk.mono (fun k hk => by rcases hk with h | h | h; exact Or.inl h; exact Or.inr (Or.inl h); exact Or.inr (Or.inr (Or.inl h)))))

set_option maxRecDepth 100000 in
set_option maxHeartbeats 4000000 in
theorem does9 (h : DoesW base p dB qB shV outV st g cap a w) (hl : a.length = 27) (K : Int) (hok : st.Ok K) (hK : K ≤ 3900000000000000000) :
    Calls Tryz.prog 17 #[.pointer (some ⟨p, 0, none⟩), .int .i64 9, curV s fr (.slice (some ⟨g, 0, none⟩) 27 cap)] w (DoesPost base p qB w (st.does 9 a)) := by
  have hfin : st.does 9 a = (st.tri (cornerOf a 0) (cornerOf a 9) (cornerOf a 18), 0) := by unfold St.does; simp
  rw [hfin]
  have hpane := h.pane
  have hg := h.g0
  have hcell := h.cell
  have hby := h.byte
  clear h hfin
  have HC : Hid (∀ j, j < a.length → w.cell? ⟨g, j, none⟩ = some (.int .i64 (a.getD j 0))) := hcell
  clear hcell
  have hout := tri_out st (cornerOf a 0) (cornerOf a 9) (cornerOf a 18)
  have k0 := cornerOf_ok a hby 0
  have k9 := cornerOf_ok a hby 9
  have k18 := cornerOf_ok a hby 18
  generalize hc0 : cornerOf a 0 = x0 at *
  generalize hc9 : cornerOf a 9 = x9 at *
  generalize hc18 : cornerOf a 18 = x18 at *
  clear hout
  have H0 : Hid (cornerOf a 0 = x0) := hc0
  have H9 : Hid (cornerOf a 9 = x9) := hc9
  have H18 : Hid (cornerOf a 18 = x18) := hc18
  clear hc0 hc9 hc18
  have hB0 : Below (w.alloc (.cells #[.string s, .int .i64 fr, .slice (some ⟨g, 0, none⟩) 27 cap] 75)).heap.size (w.alloc (.cells #[.string s, .int .i64 fr, .slice (some ⟨g, 0, none⟩) 27 cap] 75)) (w.alloc (.cells #[.string s, .int .i64 fr, .slice (some ⟨g, 0, none⟩) 27 cap] 75)).drew := (Below.refl _ _).drew
  unfold curV
  go_enter Tryz.func17, Tryz.ntmps17
  go_wp2_with fail
  go_region_with (first
    | (go_at_call_of 29 (Value.int IntKind.i64 0); refine (corner9 s fr g cap a w hg HC.out hby hl _ 0 0 rfl (by omega) x0 H0.out hB0).mono ?_; rintro e w1 ⟨rfl, hb1⟩; obtain ⟨hc1, hf1⟩ := bcell hb1)
    | (go_at_call_of 29 (Value.int IntKind.i64 9); refine (corner9 s fr g cap a w hg HC.out hby hl _ 9 9 rfl (by omega) x9 H9.out hb1).mono ?_; rintro e w2 ⟨rfl, hb2⟩; obtain ⟨hc2, hf2⟩ := bcell hb2)
    | (go_at_call_of 29 (Value.int IntKind.i64 18); refine (corner9 s fr g cap a w hg HC.out hby hl _ 18 18 rfl (by omega) x18 H18.out hb2).mono ?_; rintro e w3 ⟨rfl, hb3⟩; obtain ⟨hc3, hf3⟩ := bcell hb3)
    | (go_at_call 28; refine (tri9 base p dB qB shV outV st w hpane x0 x9 x18 k0 k9 k18 K hok hK _ hb3).mono ?_; rintro e w4 ⟨rfl, hp4, hb4⟩))
  all_goals
    go_wp2_with fail
    go_ret
    go_light
    exact ⟨rfl, dB, shV, outV, hp4, hb4⟩
end
end Go.Proofs.YtifloehpdkfchaaGreatDoor
