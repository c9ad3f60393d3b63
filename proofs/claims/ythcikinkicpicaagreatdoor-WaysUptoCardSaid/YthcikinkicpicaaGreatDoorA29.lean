import Derived.Scope
import Derived.Test.YthcikinkicpicaaGreatDoorA13
import Derived.Test.YthcikinkicpicaaGreatDoorA26
import Derived.Test.YthcikinkicpicaaGreatDoorA14
import Derived.Test.YthcikinkicpicaaGreatDoorA27
import Derived.LoopNIn
import Derived.Test.YthcikinkicpicaaGreatDoorA28

namespace Go.Proofs.YthcikinkicpicaaGreatDoor
open Go.RowKit Go.Shelf
attribute [local go_sem] Oper.semAt_some

section
variable (base : Nat) (p cB zB sB A n : Nat) (s : ByteArray) (k : Int) (ways : Wy) (shV outV : Value) (st : St) (a : ByteArray) (w : World)

/-- The triangle is there, in a block of its own. -/
structure TrW (q : Nat) (t : Tr) (W : World) : Prop where
  dr : Dr base W p cB zB sB A n s k ways shV outV st
  tri : W.heap[q]? = some (.cells (trT t) 165 (0, 0))
  b0 : W.heap[w.heap.size]? = some (.cells #[.pointer (some ⟨p, 0, none⟩)] 61 (0, 0))
  bel : Below w.heap.size w W
  hq : w.heap.size + 1 ≤ q

theorem TrW.below {base p cB zB sB A n : Nat} {s : ByteArray} {k : Int} {ways : Wy} {shV outV : Value} {st : St} {w W W' : World} {q : Nat} {t : Tr} (h : TrW base p cB zB sB A n s k ways shV outV st w q t W) (hb : Below W.heap.size W W') : TrW base p cB zB sB A n s k ways shV outV st w q t W' :=
  ⟨h.dr.frame hb, (hb.block _ (lt_of_heap h.tri)).trans h.tri, (hb.block _ (lt_of_heap h.b0)).trans h.b0, h.bel.trans (hb.mono h.bel.size), h.hq⟩

/-- What a step of the tiles leaves. -/
def StepP (J : List (Int × Int) → World → Prop) (pre : List (Int × Int)) (W W' : World) : Prop := J pre W' ∧ (∀ i, w.heap.size ≤ i → i < W.heap.size → W'.heap[i]? = W.heap[i]?) ∧ W.heap.size ≤ W'.heap.size

def unseenB (t : Tr) : Bool := decide (((winBx st).meet t.bounds).c = 0 ∨ ((winBx st).meet t.bounds).r = 0) || (!failB st.T && !passB st.T (anyOn st.qs))

set_option maxRecDepth 100000 in
set_option maxHeartbeats 1000000 in
theorem drawTri_walk (h : Dr base w p cB zB sB A n s k ways shV outV st) (K : Int) (hok : st.Ok K) (t : Tr) (hrd : ∀ W, Calls Tryz.prog 86 #[.string a] W fun e w' => e = .returned (.agg (triL t.a t.b t.c t.ar ⟨t.f, t.bounds⟩).toArray) ∧ Below W.heap.size W w')
    (dr : Bool) (hdr : (if st.T.faces = 1 then t.f else if st.T.faces = 2 then !t.f else true) = dr) (ht : t.ar ≠ 0 → dr = true → t.Ok) (Post : World → Prop)
    (h0 : t.ar = 0 ∨ dr = false ∨ (useB ways.v 1 = true ∧ unseenB st t = true) → ∀ w', Below w.heap.size w w' → Post w')
    (J : Nat → List (Int × Int) → World → Prop) (hJ0 : t.Ok → ∀ q W, TrW base p cB zB sB A n s k ways shV outV st w q t W → J q [] W)
    (hJc : ∀ q pre W, J q pre W → W.heap[q]? = some (.cells (trT t) 165 (0, 0)) ∧ W.cell? ⟨p, 41, none⟩ = some (.map (some ways.m)) ∧ W.cell? ⟨p, 28, none⟩ = some (.int .i64 ways.v))
    (hJg : ∀ q pre A B, Below A.heap.size A B → J q pre A → J q pre B) (hJp : ∀ q pre A g o x, w.heap.size ≤ g → A.heap[g]? = some (.loop x) → J q pre A → J q pre (A.putObj g o))
    (hskip : t.Ok → ∀ q pre key rest W, tilesOf (lookBx (useB ways.v 128) st t) = pre ++ key :: rest → useB ways.v 2 = true → t.leaves (partBx (useB ways.v 128) st t key) = true → J q pre W → J q (pre ++ [key]) W)
    (hput : t.Ok → useB ways.v 64 = true → ∀ q pre (kx ky : Nat) rest W, tilesOf (lookBx (useB ways.v 128) st t) = pre ++ ((kx : Int), (ky : Int)) :: rest → (useB ways.v 2 = true → t.leaves (partBx (useB ways.v 128) st t ((kx : Int), (ky : Int))) = false) → J q pre W → w.heap.size + 1 ≤ W.heap.size →
      Calls Tryz.prog 93 #[.map (some ways.m), .pointer (some ⟨q, 0, none⟩), boxV kx ky 4 4] W fun e W' => e = .returned (.tuple #[]) ∧ StepP w (J q) (pre ++ [((kx : Int), (ky : Int))]) W W')
    (hdrw : t.Ok → useB ways.v 64 = false → ∀ q pre (kx ky : Nat) rest W, tilesOf (lookBx (useB ways.v 128) st t) = pre ++ ((kx : Int), (ky : Int)) :: rest → (useB ways.v 2 = true → t.leaves (partBx (useB ways.v 128) st t ((kx : Int), (ky : Int))) = false) → J q pre W → w.heap.size + 1 ≤ W.heap.size →
      Calls Tryz.prog 68 #[.pointer (some ⟨p, 0, none⟩), .pointer (some ⟨q, 0, none⟩), boxV kx ky 4 4] W fun e W' => e = .returned (.tuple #[]) ∧ StepP w (J q) (pre ++ [((kx : Int), (ky : Int))]) W W')
    (hend : t.Ok → dr = true → ∀ q D W f, J q (tilesOf (lookBx (useB ways.v 128) st t)) W → W.heap[D]? = some (.deferred (some [])) → w.heap.size ≤ D → Post (W.putObj D f)) :
    Calls Tryz.prog 59 #[.pointer (some ⟨p, 0, none⟩), .string a] w fun e w' => e = .returned (.int .i64 0) ∧ Post w' := by
  have lp := lt_of_heap h.bp
  have HRd : Hid (∀ W, Calls Tryz.prog 86 #[.string a] W fun e w' => e = .returned (.agg (triL t.a t.b t.c t.ar ⟨t.f, t.bounds⟩).toArray) ∧ Below W.heap.size W w') := hrd
  have HD : Hid (Dr base w p cB zB sB A n s k ways shV outV st) := h
  have HS : Hid (∀ w1, Below w.heap.size w w1 → w1.heap[w.heap.size]? = some (.cells #[.pointer (some ⟨p, 0, none⟩)] 61 (0, 0)) → TrW base p cB zB sB A n s k ways shV outV st w w1.heap.size t ((w1.alloc (.cells #[.int .i64 0, .int .i64 0, .int .i64 0, .int .i64 0, .int .i64 0, .int .i64 0, .int .i64 0, .int .i64 0, .int .i64 0, .int .i64 0, .int .i64 0, .int .i64 0, .int .i64 0, .int .i64 0, .int .i64 0, .int .i64 0, .int .i64 0, .int .i64 0, .int .i64 0, .bool false, .int .i64 0, .int .i64 0, .int .i64 0, .int .i64 0] 165)).setCells w1.heap.size 0 (triL t.a t.b t.c t.ar ⟨t.f, t.bounds⟩))) := by
    intro w1 hb1 hp1
    have hn : (w1.alloc (.cells (trc cz cz cz 0 fr0) 165)).heap[w1.heap.size]? = some (.cells (trc cz cz cz 0 fr0) 165 (0, 0)) := heap_alloc_new _ _
    have hk := kept_setCells w1.heap.size (triL t.a t.b t.c t.ar ⟨t.f, t.bounds⟩) 0 (w1.alloc (.cells (trc cz cz cz 0 fr0) 165))
    have hb3 : Below w1.heap.size w1 (w1.alloc (.cells (trc cz cz cz 0 fr0) 165)) := below1
    have hb4 : Below w1.heap.size w1 ((w1.alloc (.cells (trc cz cz cz 0 fr0) 165)).setCells w1.heap.size 0 (triL t.a t.b t.c t.ar ⟨t.f, t.bounds⟩)) :=
      ⟨hk.os.trans hb3.os, hk.tape.trans hb3.tape, hk.output.trans hb3.output, Nat.le_trans hb3.size hk.size, fun i hi => (hk.block i (Nat.lt_of_lt_of_le hi hb3.size) (by omega)).trans (hb3.block i hi)⟩
    have hb2 := hb1.trans (hb4.mono hb1.size)
    exact ⟨HD.out.frame hb2, by show ((w1.alloc (.cells (trc cz cz cz 0 fr0) 165)).setCells _ _ _).heap[w1.heap.size]? = _; rw [heap_setCells _ _ _ _ _ _ hn, put_all]; rfl, (hb4.block _ (lt_of_heap hp1)).trans hp1, hb2, by have := lt_of_heap hp1; omega⟩
  have HT : Hid (∀ w1 : World, (w1.alloc (.cells #[.int .i64 0, .int .i64 0, .int .i64 0, .int .i64 0, .int .i64 0, .int .i64 0, .int .i64 0, .int .i64 0, .int .i64 0, .int .i64 0, .int .i64 0, .int .i64 0, .int .i64 0, .int .i64 0, .int .i64 0, .int .i64 0, .int .i64 0, .int .i64 0, .int .i64 0, .bool false, .int .i64 0, .int .i64 0, .int .i64 0, .int .i64 0] 165)).there w1.heap.size 0 (triL t.a t.b t.c t.ar ⟨t.f, t.bounds⟩).toArray.size) := fun w1 => there_of (cur := trc cz cz cz 0 fr0) (heap_alloc_new _ _) 0 24 (by rw [trc_size]; decide)
  have HN : Hid ((Tryz.prog.info? 165).map (·.size) = some (triL t.a t.b t.c t.ar ⟨t.f, t.bounds⟩).toArray.size) := Tryz.infoTri
  have HB0 : Hid (∀ w1, Below (w.alloc (.cells #[.pointer (some ⟨p, 0, none⟩)] 61)).heap.size (w.alloc (.cells #[.pointer (some ⟨p, 0, none⟩)] 61)) w1 → Below w.heap.size w w1 ∧ w1.heap[w.heap.size]? = some (.cells #[.pointer (some ⟨p, 0, none⟩)] 61 (0, 0))) := fun w1 hb => ⟨(show Below w.heap.size w (w.alloc (.cells #[.pointer (some ⟨p, 0, none⟩)] 61)) from below1).trans (hb.mono (by simp)), (hb.block _ (by simp)).trans (heap_alloc_new _ _)⟩
  have HZ : Hid (t.ar = 0 ∨ dr = false ∨ (useB ways.v 1 = true ∧ unseenB st t = true) → ∀ w', Below w.heap.size w w' → Post w') := h0
  have HJ0 : Hid (t.Ok → ∀ q W, TrW base p cB zB sB A n s k ways shV outV st w q t W → J q [] W) := hJ0
  have HJc : Hid (∀ q pre W, J q pre W → W.heap[q]? = some (.cells (trT t) 165 (0, 0)) ∧ W.cell? ⟨p, 41, none⟩ = some (.map (some ways.m)) ∧ W.cell? ⟨p, 28, none⟩ = some (.int .i64 ways.v)) := hJc
  have HJg : Hid (∀ q pre A B, Below A.heap.size A B → J q pre A → J q pre B) := hJg
  have HJp : Hid (∀ q pre A g o x, w.heap.size ≤ g → A.heap[g]? = some (.loop x) → J q pre A → J q pre (A.putObj g o)) := hJp
  have HSk : Hid (t.Ok → ∀ q pre key rest W, tilesOf (lookBx (useB ways.v 128) st t) = pre ++ key :: rest → useB ways.v 2 = true → t.leaves (partBx (useB ways.v 128) st t key) = true → J q pre W → J q (pre ++ [key]) W) := hskip
  have HPu : Hid (t.Ok → useB ways.v 64 = true → ∀ q pre (kx ky : Nat) rest W, tilesOf (lookBx (useB ways.v 128) st t) = pre ++ ((kx : Int), (ky : Int)) :: rest → (useB ways.v 2 = true → t.leaves (partBx (useB ways.v 128) st t ((kx : Int), (ky : Int))) = false) → J q pre W → w.heap.size + 1 ≤ W.heap.size →
      Calls Tryz.prog 93 #[.map (some ways.m), .pointer (some ⟨q, 0, none⟩), boxV kx ky 4 4] W fun e W' => e = .returned (.tuple #[]) ∧ StepP w (J q) (pre ++ [((kx : Int), (ky : Int))]) W W') := hput
  have HDw : Hid (t.Ok → useB ways.v 64 = false → ∀ q pre (kx ky : Nat) rest W, tilesOf (lookBx (useB ways.v 128) st t) = pre ++ ((kx : Int), (ky : Int)) :: rest → (useB ways.v 2 = true → t.leaves (partBx (useB ways.v 128) st t ((kx : Int), (ky : Int))) = false) → J q pre W → w.heap.size + 1 ≤ W.heap.size →
      Calls Tryz.prog 68 #[.pointer (some ⟨p, 0, none⟩), .pointer (some ⟨q, 0, none⟩), boxV kx ky 4 4] W fun e W' => e = .returned (.tuple #[]) ∧ StepP w (J q) (pre ++ [((kx : Int), (ky : Int))]) W W') := hdrw
  have HEn : Hid (t.Ok → dr = true → ∀ q D W f, J q (tilesOf (lookBx (useB ways.v 128) st t)) W → W.heap[D]? = some (.deferred (some [])) → w.heap.size ≤ D → Post (W.putObj D f)) := hend
  have HOk : Hid (t.ar ≠ 0 → dr = true → t.Ok) := ht
  have HOK : Hid (st.Ok K) := hok
  clear h hrd h0 hJ0 hJc hJg hJp hskip hput hdrw hend ht hok
  refine (callsIn_wide (n := 0)).1 ?_
  refine callsIn_of_wp_marks Tryz.func59 rfl trivial ?_ rfl
  simp only [Tryz.ntmps59, List.size_toArray, List.length_cons, List.length_nil, Nat.reduceAdd, Nat.reduceSub, Array.replicate_succ, Array.replicate_zero, List.push_toArray, List.append_toArray, List.nil_append, List.cons_append]
  gi_wp2_with fail
  refine wpIn_wide.2 (wp_scope_straight ?_)
  go_wp2_with (first
    | (go_at_call 86; refine (HRd.out _).mono ?_; rintro e w1 ⟨rfl, hb1⟩; obtain ⟨hb1', hp1⟩ := HB0.out w1 hb1)
    | (refine wpList_store_mid (by rfl) 165 (.tmp 5) (.tmp 11) (by rfl) w1.heap.size 0 (triL t.a t.b t.c t.ar ⟨t.f, t.bounds⟩).toArray (by rfl) (by rfl) (HT.out _) HN.out (triL_one _ _ _ _ _) ?_))
  dsimp only [Act.put]
  refine gen_w (TrW base p cB zB sB A n s k ways shV outV st w w1.heap.size t) (Code.wp _ _ _ _) _ (HS.out w1 hb1' hp1) ?_
  intro W hW
  clear HS HT HN HRd hb1 hb1' hp1 HB0
  generalize w1.heap.size = q at *
  have HW : Hid (TrW base p cB zB sB A n s k ways shV outV st w q t W) := hW
  refine Code.wp_mono (Q := Exit.then (fun a' W' => TrW base p cB zB sB A n s k ways shV outV st w q t W' ∧ ∃ r x12 x13 x14 x15 x16 x17 x18 x19 x20 x21 x22 x23 x24 x25 x26 x27 x28 x29 x30 x31 x32, a' = { tmps := #[.pointer (some ⟨p, 0, none⟩), .string a, .pointer (some ⟨w.heap.size, 0, none⟩), undef, .int .i64 0, .pointer (some ⟨q, 0, none⟩), undef, undef, undef, undef, .string a, .agg (triL t.a t.b t.c t.ar ⟨t.f, t.bounds⟩).toArray, x12, x13, x14, x15, x16, x17, x18, x19, x20, x21, x22, x23, x24, x25, x26, x27, x28, x29, x30, x31, x32, .bool r, undef, undef, undef, undef, undef, undef, undef, undef, undef, undef, undef, undef, undef, undef, undef, undef, undef, undef, undef, undef, undef, undef, undef, undef, undef, undef, undef, undef, undef, undef, undef, undef, undef], defers := [] } ∧ (r = true → (t.ar = 0 ∨ dr = false ∨ (useB ways.v 1 = true ∧ unseenB st t = true))) ∧ (r = false → t.Ok ∧ dr = true)) (fun _ _ _ => False)) ?tail ?reg
  case reg =>
    have c18 : W.cell? ⟨q, 18, none⟩ = some (.int .i64 t.ar) := cell_of hW.tri 18
    have c19 : W.cell? ⟨q, 19, none⟩ = some (.bool t.f) := cell_of hW.tri 19
    have c0 : W.cell? ⟨w.heap.size, 0, none⟩ = some (.pointer (some ⟨p, 0, none⟩)) := cell_of hW.b0 0
    have HSm : Hid (∀ W', (∃ m, W' = W.drewN m) ∨ W' = W.drew ∨ W' = W → Below W.heap.size W W') := by
      rintro W' (⟨m, rfl⟩ | rfl | rfl)
      · exact (Below.refl _ _).drewN' m
      · exact (Below.refl _ _).drew
      · exact Below.refl _ _
    have HDr : Hid (∀ W', (∃ m, W' = W.drewN m) ∨ W' = W.drew ∨ W' = W → Calls Tryz.prog 87 #[.pointer (some ⟨p, 14, none⟩), .bool t.f] W' fun e w' => e = .returned (.bool dr) ∧ w' = W') := by
      intro W' hW'
      have := draws_any p W' st.T.faces t.f (cell_of (HW.out.below (HSm.out W' hW')).dr.bp 23)
      rw [hdr] at this
      exact this
    have HU1 : Hid (∀ W', (∃ m, W' = W.drewN m) ∨ W' = W.drew ∨ W' = W → Calls Tryz.prog 80 #[.pointer (some ⟨p, 14, none⟩), .int .i64 1] W' fun e w' => e = .returned (.bool (useB ways.v 1)) ∧ w' = W') := fun W' hW' => Dr.uses base p cB zB sB A n s k ways shV outV st W' (HW.out.below (HSm.out W' hW')).dr 1
    have HUn : Hid (t.Ok → ∀ W', (∃ m, W' = W.drewN m) ∨ W' = W.drew ∨ W' = W → Calls Tryz.prog 88 #[.pointer (some ⟨p, 0, none⟩), .pointer (some ⟨q, 0, none⟩)] W' fun e w' => e = .returned (.bool (unseenB st t)) ∧ TrW base p cB zB sB A n s k ways shV outV st w q t w') := by
      intro hto W' hW'
      have h1 := HW.out.below (HSm.out W' hW')
      refine (cannotBeSeen_in base p cB zB sB A n s k ways shV outV st W' h1.dr K HOK.out q t hto h1.tri).mono ?_
      rintro e w' ⟨rfl, hb⟩
      exact ⟨rfl, h1.below hb⟩
    have HFr : Hid (∀ W', (∃ m, W' = W.drewN m) ∨ W' = W.drew ∨ W' = W → TrW base p cB zB sB A n s k ways shV outV st w q t W') := fun W' hW' => HW.out.below (HSm.out W' hW')
    clear hW hdr HJ0 HJc HJg HJp HSk HPu HDw HEn HZ HD HOK HSm HW
    generalize unseenB st t = un at *
    generalize useB ways.v 1 = u1 at *
    have har : t.ar = t.ar := rfl
    generalize hari : t.ar = ar at *
    clear har
    by_cases hz : ar = 0
    · subst hz
      clear HDr HU1 HUn HOk
      go_quiet (fail)
      exact ⟨HFr.out _ (by first | exact .inr (.inl rfl) | exact .inr (.inr rfl) | exact .inl ⟨_, rfl⟩), true, _, _, _, _, _, _, _, _, _, _, _, _, _, _, _, _, _, _, _, _, _, rfl, fun _ => .inl rfl, fun e => by cases e⟩
    · have hne : (ar != 0) = true := by simpa using hz
      have hne' : (ar == 0) = false := by simpa using hz
      have HNz : Hid (ar ≠ 0) := hz
      have hmx : Tryz.prog.follows .mixedOrders = true := by kernel_rfl
      cases dr
      · clear HU1 HUn HOk
        refine wp_region_held_drew (S := fun w2 => w2.cell? ⟨q, 18, none⟩ = some (.int .i64 ar) ∧ w2.cell? ⟨q, 19, none⟩ = some (.bool t.f) ∧ w2.cell? ⟨w.heap.size, 0, none⟩ = some (.pointer (some ⟨p, 0, none⟩))) hmx ⟨c18, c19, c0⟩ (fun hS => ?_)
        refine wpAnyH_take (i := 0) (v := ?va0) rfl (by kernel_rfl) (by kernel_rfl) (by kernel_rfl) (fun _ _ _ h => h) (Or.inl ⟨by rfl, ?hya0⟩) hS ?resta0
        case hya0 => (intro w hSw; obtain ⟨s0, s1, s2⟩ := hSw; go_simp; try with_reducible rfl)
        simp only [Act.put, List.setIfInBounds_toArray, List.set_cons_zero, List.set_cons_succ, List.getElem_toArray, List.getElem_cons_zero]
        refine wpAnyH_take (i := 1) (v := ?va1) rfl (by kernel_rfl) (by kernel_rfl) (by kernel_rfl) (fun _ _ _ h => h) (Or.inl ⟨by rfl, ?hya1⟩) hS ?resta1
        case hya1 => (intro w hSw; obtain ⟨s0, s1, s2⟩ := hSw; go_simp; try with_reducible rfl)
        simp only [Act.put, List.setIfInBounds_toArray, List.set_cons_zero, List.set_cons_succ, List.getElem_toArray, List.getElem_cons_zero, List.getElem_cons_succ]
        refine wpAnyH_take (i := 2) (v := (.bool false)) rfl (by kernel_rfl) (by kernel_rfl) (by kernel_rfl) (fun _ _ _ h => h) (Or.inl ⟨by rfl, ?hya2⟩) hS ?resta2
        case hya2 => (intro w hSw; obtain ⟨s0, s1, s2⟩ := hSw; go_simp; try simp [hne'])
        simp only [Act.put, List.setIfInBounds_toArray, List.set_cons_zero, List.set_cons_succ, List.getElem_toArray, List.getElem_cons_zero, List.getElem_cons_succ]
        refine wpAnyH_take (i := 3) (v := (.bool false)) rfl (by kernel_rfl) (by kernel_rfl) (by kernel_rfl) (fun _ _ _ h => h) (Or.inl ⟨by rfl, ?hya3⟩) hS ?resta3
        case hya3 => (intro w hSw; obtain ⟨s0, s1, s2⟩ := hSw; go_simp; try simp [hne'])
        simp only [Act.put, List.setIfInBounds_toArray, List.set_cons_zero, List.set_cons_succ, List.getElem_toArray, List.getElem_cons_zero, List.getElem_cons_succ]
        refine wpAnyH_take (i := 4) (v := ?va4) rfl (by kernel_rfl) (by kernel_rfl) (by kernel_rfl) (fun _ _ _ h => h) (Or.inl ⟨by rfl, ?hya4⟩) hS ?resta4
        case hya4 => (intro w hSw; obtain ⟨s0, s1, s2⟩ := hSw; go_simp; try with_reducible rfl)
        simp only [Act.put, List.setIfInBounds_toArray, List.set_cons_zero, List.set_cons_succ, List.getElem_toArray, List.getElem_cons_zero, List.getElem_cons_succ]
        refine wpAnyH_take (i := 5) (v := ?va5) rfl (by kernel_rfl) (by kernel_rfl) (by kernel_rfl) (fun _ _ _ h => h) (Or.inl ⟨by rfl, ?hya5⟩) hS ?resta5
        case hya5 => (intro w hSw; obtain ⟨s0, s1, s2⟩ := hSw; go_simp; try with_reducible rfl)
        simp only [Act.put, List.setIfInBounds_toArray, List.set_cons_zero, List.set_cons_succ, List.getElem_toArray, List.getElem_cons_zero, List.getElem_cons_succ]
        refine wpAnyH_take (i := 6) (v := ?va6) rfl (by kernel_rfl) (by kernel_rfl) (by kernel_rfl) (fun _ _ _ h => h) (Or.inl ⟨by rfl, ?hya6⟩) hS ?resta6
        case hya6 => (intro w hSw; obtain ⟨s0, s1, s2⟩ := hSw; go_simp; try with_reducible rfl)
        simp only [Act.put, List.setIfInBounds_toArray, List.set_cons_zero, List.set_cons_succ, List.getElem_toArray, List.getElem_cons_zero, List.getElem_cons_succ]
        refine wpAnyH_take (i := 7) (v := ?va7) rfl (by kernel_rfl) (by kernel_rfl) (by kernel_rfl) (fun _ _ _ h => h) (Or.inl ⟨by rfl, ?hya7⟩) hS ?resta7
        case hya7 => (intro w hSw; obtain ⟨s0, s1, s2⟩ := hSw; go_simp; try with_reducible rfl)
        simp only [Act.put, List.setIfInBounds_toArray, List.set_cons_zero, List.set_cons_succ, List.getElem_toArray, List.getElem_cons_zero, List.getElem_cons_succ]
        refine wpAnyH_take (i := 8) (v := ?va8) rfl (by kernel_rfl) (by kernel_rfl) (by kernel_rfl) (fun _ _ _ h => h) (Or.inl ⟨by rfl, ?hya8⟩) hS ?resta8
        case hya8 => (intro w hSw; obtain ⟨s0, s1, s2⟩ := hSw; go_simp; try with_reducible rfl)
        simp only [Act.put, List.setIfInBounds_toArray, List.set_cons_zero, List.set_cons_succ, List.getElem_toArray, List.getElem_cons_zero, List.getElem_cons_succ]
        refine wpAnyH_ready (rs := [9]) (by kernel_rfl) (by simp) ?_
        refine AllReadyH.cons rfl (fun K hK => ?_) AllReadyH.nil
        go_simp
        refine (HDr.out _ (by first | exact .inr (.inl rfl) | exact .inr (.inr rfl) | exact .inl ⟨_, rfl⟩)).mono ?_; rintro e w2 ⟨rfl, rfl⟩
        refine hK.out _ _ hS (fun hS => ?_)
        clear hK K
        try simp only [Act.put, List.setIfInBounds_toArray, List.set_cons_zero, List.set_cons_succ, List.getElem_toArray, List.getElem_cons_zero, List.getElem_cons_succ]
        refine wpAnyH_take (i := 10) (v := ?va10) rfl (by kernel_rfl) (by kernel_rfl) (by kernel_rfl) (fun _ _ _ h => h) (Or.inl ⟨by rfl, ?hya10⟩) hS ?resta10
        case hya10 => (intro w hSw; obtain ⟨s0, s1, s2⟩ := hSw; go_simp; try with_reducible rfl)
        simp only [Act.put, List.setIfInBounds_toArray, List.set_cons_zero, List.set_cons_succ, List.getElem_toArray, List.getElem_cons_zero, List.getElem_cons_succ]
        refine wpAnyH_take (i := 11) (v := ?va11) rfl (by kernel_rfl) (by kernel_rfl) (by kernel_rfl) (fun _ _ _ h => h) (Or.inl ⟨by rfl, ?hya11⟩) hS ?resta11
        case hya11 => (intro w hSw; obtain ⟨s0, s1, s2⟩ := hSw; go_simp; try with_reducible rfl)
        simp only [Act.put, List.setIfInBounds_toArray, List.set_cons_zero, List.set_cons_succ, List.getElem_toArray, List.getElem_cons_zero, List.getElem_cons_succ]
        refine wpAnyH_take (i := 12) (v := ?va12) rfl (by kernel_rfl) (by kernel_rfl) (by kernel_rfl) (fun _ _ _ h => h) (Or.inl ⟨by rfl, ?hya12⟩) hS ?resta12
        case hya12 => (intro w hSw; obtain ⟨s0, s1, s2⟩ := hSw; go_simp; try with_reducible rfl)
        simp only [Act.put, List.setIfInBounds_toArray, List.set_cons_zero, List.set_cons_succ, List.getElem_toArray, List.getElem_cons_zero, List.getElem_cons_succ]
        refine wpAnyH_take (i := 13) (v := undef) rfl (by kernel_rfl) (by kernel_rfl) (by kernel_rfl) (fun _ _ _ h => h) (Or.inr ⟨by rfl, rfl⟩) hS ?resta13
        simp only [Act.put, List.setIfInBounds_toArray, List.set_cons_zero, List.set_cons_succ, List.getElem_toArray, List.getElem_cons_zero, List.getElem_cons_succ]
        refine wpAnyH_take (i := 14) (v := undef) rfl (by kernel_rfl) (by kernel_rfl) (by kernel_rfl) (fun _ _ _ h => h) (Or.inr ⟨by rfl, rfl⟩) hS ?resta14
        simp only [Act.put, List.setIfInBounds_toArray, List.set_cons_zero, List.set_cons_succ, List.getElem_toArray, List.getElem_cons_zero, List.getElem_cons_succ]
        refine wpAnyH_take (i := 15) (v := undef) rfl (by kernel_rfl) (by kernel_rfl) (by kernel_rfl) (fun _ _ _ h => h) (Or.inr ⟨by rfl, rfl⟩) hS ?resta15
        simp only [Act.put, List.setIfInBounds_toArray, List.set_cons_zero, List.set_cons_succ, List.getElem_toArray, List.getElem_cons_zero, List.getElem_cons_succ]
        refine wpAnyH_take (i := 16) (v := undef) rfl (by kernel_rfl) (by kernel_rfl) (by kernel_rfl) (fun _ _ _ h => h) (Or.inr ⟨by rfl, rfl⟩) hS ?resta16
        simp only [Act.put, List.setIfInBounds_toArray, List.set_cons_zero, List.set_cons_succ, List.getElem_toArray, List.getElem_cons_zero, List.getElem_cons_succ]
        refine wpAnyH_take (i := 17) (v := undef) rfl (by kernel_rfl) (by kernel_rfl) (by kernel_rfl) (fun _ _ _ h => h) (Or.inr ⟨by rfl, rfl⟩) hS ?resta17
        simp only [Act.put, List.setIfInBounds_toArray, List.set_cons_zero, List.set_cons_succ, List.getElem_toArray, List.getElem_cons_zero, List.getElem_cons_succ]
        refine wpAnyH_take (i := 18) (v := undef) rfl (by kernel_rfl) (by kernel_rfl) (by kernel_rfl) (fun _ _ _ h => h) (Or.inr ⟨by rfl, rfl⟩) hS ?resta18
        simp only [Act.put, List.setIfInBounds_toArray, List.set_cons_zero, List.set_cons_succ, List.getElem_toArray, List.getElem_cons_zero, List.getElem_cons_succ]
        refine wpAnyH_take (i := 19) (v := undef) rfl (by kernel_rfl) (by kernel_rfl) (by kernel_rfl) (fun _ _ _ h => h) (Or.inr ⟨by rfl, rfl⟩) hS ?resta19
        simp only [Act.put, List.setIfInBounds_toArray, List.set_cons_zero, List.set_cons_succ, List.getElem_toArray, List.getElem_cons_zero, List.getElem_cons_succ]
        refine wpAnyH_take (i := 20) (v := undef) rfl (by kernel_rfl) (by kernel_rfl) (by kernel_rfl) (fun _ _ _ h => h) (Or.inr ⟨by rfl, rfl⟩) hS ?resta20
        simp only [Act.put, List.setIfInBounds_toArray, List.set_cons_zero, List.set_cons_succ, List.getElem_toArray, List.getElem_cons_zero, List.getElem_cons_succ]
        refine wpAnyH_take (i := 21) (v := ?va21) rfl (by kernel_rfl) (by kernel_rfl) (by kernel_rfl) (fun _ _ _ h => h) (Or.inl ⟨by rfl, ?hya21⟩) hS ?resta21
        case hya21 => (intro w hSw; obtain ⟨s0, s1, s2⟩ := hSw; go_simp; try with_reducible rfl)
        simp only [Act.put, List.setIfInBounds_toArray, List.set_cons_zero, List.set_cons_succ, List.getElem_toArray, List.getElem_cons_zero, List.getElem_cons_succ]
        refine wpAnyH_done (by kernel_rfl) ?_ _
        exact ⟨HFr.out _ (by first | exact .inr (.inl rfl) | exact .inr (.inr rfl) | exact .inl ⟨_, rfl⟩), true, _, _, _, _, _, _, _, _, _, _, _, _, _, _, _, _, _, _, _, _, _, rfl, fun _ => .inr (.inl (by first | exact trivial | rfl)), fun e => by cases e⟩
      · have HTo : Hid t.Ok := HOk.out HNz.out (by first | exact trivial | rfl)
        clear HOk
        cases u1
        · clear HUn
          refine wp_region_held_drew (S := fun w2 => w2.cell? ⟨q, 18, none⟩ = some (.int .i64 ar) ∧ w2.cell? ⟨q, 19, none⟩ = some (.bool t.f) ∧ w2.cell? ⟨w.heap.size, 0, none⟩ = some (.pointer (some ⟨p, 0, none⟩))) hmx ⟨c18, c19, c0⟩ (fun hS => ?_)
          refine wpAnyH_take (i := 0) (v := ?vb0) rfl (by kernel_rfl) (by kernel_rfl) (by kernel_rfl) (fun _ _ _ h => h) (Or.inl ⟨by rfl, ?hyb0⟩) hS ?restb0
          case hyb0 => (intro w hSw; obtain ⟨s0, s1, s2⟩ := hSw; go_simp; try with_reducible rfl)
          simp only [Act.put, List.setIfInBounds_toArray, List.set_cons_zero, List.set_cons_succ, List.getElem_toArray, List.getElem_cons_zero]
          refine wpAnyH_take (i := 1) (v := ?vb1) rfl (by kernel_rfl) (by kernel_rfl) (by kernel_rfl) (fun _ _ _ h => h) (Or.inl ⟨by rfl, ?hyb1⟩) hS ?restb1
          case hyb1 => (intro w hSw; obtain ⟨s0, s1, s2⟩ := hSw; go_simp; try with_reducible rfl)
          simp only [Act.put, List.setIfInBounds_toArray, List.set_cons_zero, List.set_cons_succ, List.getElem_toArray, List.getElem_cons_zero, List.getElem_cons_succ]
          refine wpAnyH_take (i := 2) (v := (.bool false)) rfl (by kernel_rfl) (by kernel_rfl) (by kernel_rfl) (fun _ _ _ h => h) (Or.inl ⟨by rfl, ?hyb2⟩) hS ?restb2
          case hyb2 => (intro w hSw; obtain ⟨s0, s1, s2⟩ := hSw; go_simp; try simp [hne'])
          simp only [Act.put, List.setIfInBounds_toArray, List.set_cons_zero, List.set_cons_succ, List.getElem_toArray, List.getElem_cons_zero, List.getElem_cons_succ]
          refine wpAnyH_take (i := 3) (v := (.bool false)) rfl (by kernel_rfl) (by kernel_rfl) (by kernel_rfl) (fun _ _ _ h => h) (Or.inl ⟨by rfl, ?hyb3⟩) hS ?restb3
          case hyb3 => (intro w hSw; obtain ⟨s0, s1, s2⟩ := hSw; go_simp; try simp [hne'])
          simp only [Act.put, List.setIfInBounds_toArray, List.set_cons_zero, List.set_cons_succ, List.getElem_toArray, List.getElem_cons_zero, List.getElem_cons_succ]
          refine wpAnyH_take (i := 4) (v := ?vb4) rfl (by kernel_rfl) (by kernel_rfl) (by kernel_rfl) (fun _ _ _ h => h) (Or.inl ⟨by rfl, ?hyb4⟩) hS ?restb4
          case hyb4 => (intro w hSw; obtain ⟨s0, s1, s2⟩ := hSw; go_simp; try with_reducible rfl)
          simp only [Act.put, List.setIfInBounds_toArray, List.set_cons_zero, List.set_cons_succ, List.getElem_toArray, List.getElem_cons_zero, List.getElem_cons_succ]
          refine wpAnyH_take (i := 5) (v := ?vb5) rfl (by kernel_rfl) (by kernel_rfl) (by kernel_rfl) (fun _ _ _ h => h) (Or.inl ⟨by rfl, ?hyb5⟩) hS ?restb5
          case hyb5 => (intro w hSw; obtain ⟨s0, s1, s2⟩ := hSw; go_simp; try with_reducible rfl)
          simp only [Act.put, List.setIfInBounds_toArray, List.set_cons_zero, List.set_cons_succ, List.getElem_toArray, List.getElem_cons_zero, List.getElem_cons_succ]
          refine wpAnyH_take (i := 6) (v := ?vb6) rfl (by kernel_rfl) (by kernel_rfl) (by kernel_rfl) (fun _ _ _ h => h) (Or.inl ⟨by rfl, ?hyb6⟩) hS ?restb6
          case hyb6 => (intro w hSw; obtain ⟨s0, s1, s2⟩ := hSw; go_simp; try with_reducible rfl)
          simp only [Act.put, List.setIfInBounds_toArray, List.set_cons_zero, List.set_cons_succ, List.getElem_toArray, List.getElem_cons_zero, List.getElem_cons_succ]
          refine wpAnyH_take (i := 7) (v := ?vb7) rfl (by kernel_rfl) (by kernel_rfl) (by kernel_rfl) (fun _ _ _ h => h) (Or.inl ⟨by rfl, ?hyb7⟩) hS ?restb7
          case hyb7 => (intro w hSw; obtain ⟨s0, s1, s2⟩ := hSw; go_simp; try with_reducible rfl)
          simp only [Act.put, List.setIfInBounds_toArray, List.set_cons_zero, List.set_cons_succ, List.getElem_toArray, List.getElem_cons_zero, List.getElem_cons_succ]
          refine wpAnyH_take (i := 8) (v := ?vb8) rfl (by kernel_rfl) (by kernel_rfl) (by kernel_rfl) (fun _ _ _ h => h) (Or.inl ⟨by rfl, ?hyb8⟩) hS ?restb8
          case hyb8 => (intro w hSw; obtain ⟨s0, s1, s2⟩ := hSw; go_simp; try with_reducible rfl)
          simp only [Act.put, List.setIfInBounds_toArray, List.set_cons_zero, List.set_cons_succ, List.getElem_toArray, List.getElem_cons_zero, List.getElem_cons_succ]
          refine wpAnyH_ready (rs := [9]) (by kernel_rfl) (by simp) ?_
          refine AllReadyH.cons rfl (fun K hK => ?_) AllReadyH.nil
          go_simp
          refine (HDr.out _ (by first | exact .inr (.inl rfl) | exact .inr (.inr rfl) | exact .inl ⟨_, rfl⟩)).mono ?_; rintro e w2 ⟨rfl, rfl⟩
          refine hK.out _ _ hS (fun hS => ?_)
          clear hK K
          try simp only [Act.put, List.setIfInBounds_toArray, List.set_cons_zero, List.set_cons_succ, List.getElem_toArray, List.getElem_cons_zero, List.getElem_cons_succ]
          refine wpAnyH_take (i := 10) (v := ?vb10) rfl (by kernel_rfl) (by kernel_rfl) (by kernel_rfl) (fun _ _ _ h => h) (Or.inl ⟨by rfl, ?hyb10⟩) hS ?restb10
          case hyb10 => (intro w hSw; obtain ⟨s0, s1, s2⟩ := hSw; go_simp; try with_reducible rfl)
          simp only [Act.put, List.setIfInBounds_toArray, List.set_cons_zero, List.set_cons_succ, List.getElem_toArray, List.getElem_cons_zero, List.getElem_cons_succ]
          refine wpAnyH_take (i := 11) (v := ?vb11) rfl (by kernel_rfl) (by kernel_rfl) (by kernel_rfl) (fun _ _ _ h => h) (Or.inl ⟨by rfl, ?hyb11⟩) hS ?restb11
          case hyb11 => (intro w hSw; obtain ⟨s0, s1, s2⟩ := hSw; go_simp; try with_reducible rfl)
          simp only [Act.put, List.setIfInBounds_toArray, List.set_cons_zero, List.set_cons_succ, List.getElem_toArray, List.getElem_cons_zero, List.getElem_cons_succ]
          refine wpAnyH_take (i := 12) (v := ?vb12) rfl (by kernel_rfl) (by kernel_rfl) (by kernel_rfl) (fun _ _ _ h => h) (Or.inl ⟨by rfl, ?hyb12⟩) hS ?restb12
          case hyb12 => (intro w hSw; obtain ⟨s0, s1, s2⟩ := hSw; go_simp; try with_reducible rfl)
          simp only [Act.put, List.setIfInBounds_toArray, List.set_cons_zero, List.set_cons_succ, List.getElem_toArray, List.getElem_cons_zero, List.getElem_cons_succ]
          refine wpAnyH_take (i := 13) (v := ?vb13) rfl (by kernel_rfl) (by kernel_rfl) (by kernel_rfl) (fun _ _ _ h => h) (Or.inl ⟨by rfl, ?hyb13⟩) hS ?restb13
          case hyb13 => (intro w hSw; obtain ⟨s0, s1, s2⟩ := hSw; go_simp; try with_reducible rfl)
          simp only [Act.put, List.setIfInBounds_toArray, List.set_cons_zero, List.set_cons_succ, List.getElem_toArray, List.getElem_cons_zero, List.getElem_cons_succ]
          refine wpAnyH_take (i := 14) (v := ?vb14) rfl (by kernel_rfl) (by kernel_rfl) (by kernel_rfl) (fun _ _ _ h => h) (Or.inl ⟨by rfl, ?hyb14⟩) hS ?restb14
          case hyb14 => (intro w hSw; obtain ⟨s0, s1, s2⟩ := hSw; go_simp; try with_reducible rfl)
          simp only [Act.put, List.setIfInBounds_toArray, List.set_cons_zero, List.set_cons_succ, List.getElem_toArray, List.getElem_cons_zero, List.getElem_cons_succ]
          refine wpAnyH_take (i := 15) (v := ?vb15) rfl (by kernel_rfl) (by kernel_rfl) (by kernel_rfl) (fun _ _ _ h => h) (Or.inl ⟨by rfl, ?hyb15⟩) hS ?restb15
          case hyb15 => (intro w hSw; obtain ⟨s0, s1, s2⟩ := hSw; go_simp; try with_reducible rfl)
          simp only [Act.put, List.setIfInBounds_toArray, List.set_cons_zero, List.set_cons_succ, List.getElem_toArray, List.getElem_cons_zero, List.getElem_cons_succ]
          refine wpAnyH_ready (rs := [16]) (by kernel_rfl) (by simp) ?_
          refine AllReadyH.cons rfl (fun K hK => ?_) AllReadyH.nil
          go_simp
          refine (HU1.out _ (by first | exact .inr (.inl rfl) | exact .inr (.inr rfl) | exact .inl ⟨_, rfl⟩)).mono ?_; rintro e w3 ⟨rfl, rfl⟩
          refine hK.out _ _ hS (fun hS => ?_)
          clear hK K
          try simp only [Act.put, List.setIfInBounds_toArray, List.set_cons_zero, List.set_cons_succ, List.getElem_toArray, List.getElem_cons_zero, List.getElem_cons_succ]
          refine wpAnyH_take (i := 17) (v := ?vb17) rfl (by kernel_rfl) (by kernel_rfl) (by kernel_rfl) (fun _ _ _ h => h) (Or.inl ⟨by rfl, ?hyb17⟩) hS ?restb17
          case hyb17 => (intro w hSw; obtain ⟨s0, s1, s2⟩ := hSw; go_simp; try with_reducible rfl)
          simp only [Act.put, List.setIfInBounds_toArray, List.set_cons_zero, List.set_cons_succ, List.getElem_toArray, List.getElem_cons_zero, List.getElem_cons_succ]
          refine wpAnyH_take (i := 18) (v := undef) rfl (by kernel_rfl) (by kernel_rfl) (by kernel_rfl) (fun _ _ _ h => h) (Or.inr ⟨by rfl, rfl⟩) hS ?restb18
          simp only [Act.put, List.setIfInBounds_toArray, List.set_cons_zero, List.set_cons_succ, List.getElem_toArray, List.getElem_cons_zero, List.getElem_cons_succ]
          refine wpAnyH_take (i := 19) (v := undef) rfl (by kernel_rfl) (by kernel_rfl) (by kernel_rfl) (fun _ _ _ h => h) (Or.inr ⟨by rfl, rfl⟩) hS ?restb19
          simp only [Act.put, List.setIfInBounds_toArray, List.set_cons_zero, List.set_cons_succ, List.getElem_toArray, List.getElem_cons_zero, List.getElem_cons_succ]
          refine wpAnyH_take (i := 20) (v := ?vb20) rfl (by kernel_rfl) (by kernel_rfl) (by kernel_rfl) (fun _ _ _ h => h) (Or.inl ⟨by rfl, ?hyb20⟩) hS ?restb20
          case hyb20 => (intro w hSw; obtain ⟨s0, s1, s2⟩ := hSw; go_simp; try with_reducible rfl)
          simp only [Act.put, List.setIfInBounds_toArray, List.set_cons_zero, List.set_cons_succ, List.getElem_toArray, List.getElem_cons_zero, List.getElem_cons_succ]
          refine wpAnyH_take (i := 21) (v := ?vb21) rfl (by kernel_rfl) (by kernel_rfl) (by kernel_rfl) (fun _ _ _ h => h) (Or.inl ⟨by rfl, ?hyb21⟩) hS ?restb21
          case hyb21 => (intro w hSw; obtain ⟨s0, s1, s2⟩ := hSw; go_simp; try with_reducible rfl)
          simp only [Act.put, List.setIfInBounds_toArray, List.set_cons_zero, List.set_cons_succ, List.getElem_toArray, List.getElem_cons_zero, List.getElem_cons_succ]
          refine wpAnyH_done (by kernel_rfl) ?_ _
          exact ⟨HFr.out _ (by first | exact .inr (.inl rfl) | exact .inr (.inr rfl) | exact .inl ⟨_, rfl⟩), false, _, _, _, _, _, _, _, _, _, _, _, _, _, _, _, _, _, _, _, _, _, rfl, (fun e => by cases e), fun _ => ⟨HTo.out, by first | exact trivial | rfl⟩⟩
        · refine wp_region_held_drew (S := fun w2 => w2.cell? ⟨q, 18, none⟩ = some (.int .i64 ar) ∧ w2.cell? ⟨q, 19, none⟩ = some (.bool t.f) ∧ w2.cell? ⟨w.heap.size, 0, none⟩ = some (.pointer (some ⟨p, 0, none⟩))) hmx ⟨c18, c19, c0⟩ (fun hS => ?_)
          refine wpAnyH_take (i := 0) (v := ?vc0) rfl (by kernel_rfl) (by kernel_rfl) (by kernel_rfl) (fun _ _ _ h => h) (Or.inl ⟨by rfl, ?hyc0⟩) hS ?restc0
          case hyc0 => (intro w hSw; obtain ⟨s0, s1, s2⟩ := hSw; go_simp; try with_reducible rfl)
          simp only [Act.put, List.setIfInBounds_toArray, List.set_cons_zero, List.set_cons_succ, List.getElem_toArray, List.getElem_cons_zero]
          refine wpAnyH_take (i := 1) (v := ?vc1) rfl (by kernel_rfl) (by kernel_rfl) (by kernel_rfl) (fun _ _ _ h => h) (Or.inl ⟨by rfl, ?hyc1⟩) hS ?restc1
          case hyc1 => (intro w hSw; obtain ⟨s0, s1, s2⟩ := hSw; go_simp; try with_reducible rfl)
          simp only [Act.put, List.setIfInBounds_toArray, List.set_cons_zero, List.set_cons_succ, List.getElem_toArray, List.getElem_cons_zero, List.getElem_cons_succ]
          refine wpAnyH_take (i := 2) (v := (.bool false)) rfl (by kernel_rfl) (by kernel_rfl) (by kernel_rfl) (fun _ _ _ h => h) (Or.inl ⟨by rfl, ?hyc2⟩) hS ?restc2
          case hyc2 => (intro w hSw; obtain ⟨s0, s1, s2⟩ := hSw; go_simp; try simp [hne'])
          simp only [Act.put, List.setIfInBounds_toArray, List.set_cons_zero, List.set_cons_succ, List.getElem_toArray, List.getElem_cons_zero, List.getElem_cons_succ]
          refine wpAnyH_take (i := 3) (v := (.bool false)) rfl (by kernel_rfl) (by kernel_rfl) (by kernel_rfl) (fun _ _ _ h => h) (Or.inl ⟨by rfl, ?hyc3⟩) hS ?restc3
          case hyc3 => (intro w hSw; obtain ⟨s0, s1, s2⟩ := hSw; go_simp; try simp [hne'])
          simp only [Act.put, List.setIfInBounds_toArray, List.set_cons_zero, List.set_cons_succ, List.getElem_toArray, List.getElem_cons_zero, List.getElem_cons_succ]
          refine wpAnyH_take (i := 4) (v := ?vc4) rfl (by kernel_rfl) (by kernel_rfl) (by kernel_rfl) (fun _ _ _ h => h) (Or.inl ⟨by rfl, ?hyc4⟩) hS ?restc4
          case hyc4 => (intro w hSw; obtain ⟨s0, s1, s2⟩ := hSw; go_simp; try with_reducible rfl)
          simp only [Act.put, List.setIfInBounds_toArray, List.set_cons_zero, List.set_cons_succ, List.getElem_toArray, List.getElem_cons_zero, List.getElem_cons_succ]
          refine wpAnyH_take (i := 5) (v := ?vc5) rfl (by kernel_rfl) (by kernel_rfl) (by kernel_rfl) (fun _ _ _ h => h) (Or.inl ⟨by rfl, ?hyc5⟩) hS ?restc5
          case hyc5 => (intro w hSw; obtain ⟨s0, s1, s2⟩ := hSw; go_simp; try with_reducible rfl)
          simp only [Act.put, List.setIfInBounds_toArray, List.set_cons_zero, List.set_cons_succ, List.getElem_toArray, List.getElem_cons_zero, List.getElem_cons_succ]
          refine wpAnyH_take (i := 6) (v := ?vc6) rfl (by kernel_rfl) (by kernel_rfl) (by kernel_rfl) (fun _ _ _ h => h) (Or.inl ⟨by rfl, ?hyc6⟩) hS ?restc6
          case hyc6 => (intro w hSw; obtain ⟨s0, s1, s2⟩ := hSw; go_simp; try with_reducible rfl)
          simp only [Act.put, List.setIfInBounds_toArray, List.set_cons_zero, List.set_cons_succ, List.getElem_toArray, List.getElem_cons_zero, List.getElem_cons_succ]
          refine wpAnyH_take (i := 7) (v := ?vc7) rfl (by kernel_rfl) (by kernel_rfl) (by kernel_rfl) (fun _ _ _ h => h) (Or.inl ⟨by rfl, ?hyc7⟩) hS ?restc7
          case hyc7 => (intro w hSw; obtain ⟨s0, s1, s2⟩ := hSw; go_simp; try with_reducible rfl)
          simp only [Act.put, List.setIfInBounds_toArray, List.set_cons_zero, List.set_cons_succ, List.getElem_toArray, List.getElem_cons_zero, List.getElem_cons_succ]
          refine wpAnyH_take (i := 8) (v := ?vc8) rfl (by kernel_rfl) (by kernel_rfl) (by kernel_rfl) (fun _ _ _ h => h) (Or.inl ⟨by rfl, ?hyc8⟩) hS ?restc8
          case hyc8 => (intro w hSw; obtain ⟨s0, s1, s2⟩ := hSw; go_simp; try with_reducible rfl)
          simp only [Act.put, List.setIfInBounds_toArray, List.set_cons_zero, List.set_cons_succ, List.getElem_toArray, List.getElem_cons_zero, List.getElem_cons_succ]
          refine wpAnyH_ready (rs := [9]) (by kernel_rfl) (by simp) ?_
          refine AllReadyH.cons rfl (fun K hK => ?_) AllReadyH.nil
          go_simp
          refine (HDr.out _ (by first | exact .inr (.inl rfl) | exact .inr (.inr rfl) | exact .inl ⟨_, rfl⟩)).mono ?_; rintro e w2 ⟨rfl, rfl⟩
          refine hK.out _ _ hS (fun hS => ?_)
          clear hK K
          try simp only [Act.put, List.setIfInBounds_toArray, List.set_cons_zero, List.set_cons_succ, List.getElem_toArray, List.getElem_cons_zero, List.getElem_cons_succ]
          refine wpAnyH_take (i := 10) (v := ?vc10) rfl (by kernel_rfl) (by kernel_rfl) (by kernel_rfl) (fun _ _ _ h => h) (Or.inl ⟨by rfl, ?hyc10⟩) hS ?restc10
          case hyc10 => (intro w hSw; obtain ⟨s0, s1, s2⟩ := hSw; go_simp; try with_reducible rfl)
          simp only [Act.put, List.setIfInBounds_toArray, List.set_cons_zero, List.set_cons_succ, List.getElem_toArray, List.getElem_cons_zero, List.getElem_cons_succ]
          refine wpAnyH_take (i := 11) (v := ?vc11) rfl (by kernel_rfl) (by kernel_rfl) (by kernel_rfl) (fun _ _ _ h => h) (Or.inl ⟨by rfl, ?hyc11⟩) hS ?restc11
          case hyc11 => (intro w hSw; obtain ⟨s0, s1, s2⟩ := hSw; go_simp; try with_reducible rfl)
          simp only [Act.put, List.setIfInBounds_toArray, List.set_cons_zero, List.set_cons_succ, List.getElem_toArray, List.getElem_cons_zero, List.getElem_cons_succ]
          refine wpAnyH_take (i := 12) (v := ?vc12) rfl (by kernel_rfl) (by kernel_rfl) (by kernel_rfl) (fun _ _ _ h => h) (Or.inl ⟨by rfl, ?hyc12⟩) hS ?restc12
          case hyc12 => (intro w hSw; obtain ⟨s0, s1, s2⟩ := hSw; go_simp; try with_reducible rfl)
          simp only [Act.put, List.setIfInBounds_toArray, List.set_cons_zero, List.set_cons_succ, List.getElem_toArray, List.getElem_cons_zero, List.getElem_cons_succ]
          refine wpAnyH_take (i := 13) (v := ?vc13) rfl (by kernel_rfl) (by kernel_rfl) (by kernel_rfl) (fun _ _ _ h => h) (Or.inl ⟨by rfl, ?hyc13⟩) hS ?restc13
          case hyc13 => (intro w hSw; obtain ⟨s0, s1, s2⟩ := hSw; go_simp; try with_reducible rfl)
          simp only [Act.put, List.setIfInBounds_toArray, List.set_cons_zero, List.set_cons_succ, List.getElem_toArray, List.getElem_cons_zero, List.getElem_cons_succ]
          refine wpAnyH_take (i := 14) (v := ?vc14) rfl (by kernel_rfl) (by kernel_rfl) (by kernel_rfl) (fun _ _ _ h => h) (Or.inl ⟨by rfl, ?hyc14⟩) hS ?restc14
          case hyc14 => (intro w hSw; obtain ⟨s0, s1, s2⟩ := hSw; go_simp; try with_reducible rfl)
          simp only [Act.put, List.setIfInBounds_toArray, List.set_cons_zero, List.set_cons_succ, List.getElem_toArray, List.getElem_cons_zero, List.getElem_cons_succ]
          refine wpAnyH_take (i := 15) (v := ?vc15) rfl (by kernel_rfl) (by kernel_rfl) (by kernel_rfl) (fun _ _ _ h => h) (Or.inl ⟨by rfl, ?hyc15⟩) hS ?restc15
          case hyc15 => (intro w hSw; obtain ⟨s0, s1, s2⟩ := hSw; go_simp; try with_reducible rfl)
          simp only [Act.put, List.setIfInBounds_toArray, List.set_cons_zero, List.set_cons_succ, List.getElem_toArray, List.getElem_cons_zero, List.getElem_cons_succ]
          refine wpAnyH_ready (rs := [16]) (by kernel_rfl) (by simp) ?_
          refine AllReadyH.cons rfl (fun K hK => ?_) AllReadyH.nil
          go_simp
          refine (HU1.out _ (by first | exact .inr (.inl rfl) | exact .inr (.inr rfl) | exact .inl ⟨_, rfl⟩)).mono ?_; rintro e w3 ⟨rfl, rfl⟩
          refine hK.out _ _ hS (fun hS => ?_)
          clear hK K
          try simp only [Act.put, List.setIfInBounds_toArray, List.set_cons_zero, List.set_cons_succ, List.getElem_toArray, List.getElem_cons_zero, List.getElem_cons_succ]
          refine wpAnyH_take (i := 17) (v := ?vc17) rfl (by kernel_rfl) (by kernel_rfl) (by kernel_rfl) (fun _ _ _ h => h) (Or.inl ⟨by rfl, ?hyc17⟩) hS ?restc17
          case hyc17 => (intro w hSw; obtain ⟨s0, s1, s2⟩ := hSw; go_simp; try with_reducible rfl)
          simp only [Act.put, List.setIfInBounds_toArray, List.set_cons_zero, List.set_cons_succ, List.getElem_toArray, List.getElem_cons_zero, List.getElem_cons_succ]
          refine wpAnyH_take (i := 18) (v := ?vc18) rfl (by kernel_rfl) (by kernel_rfl) (by kernel_rfl) (fun _ _ _ h => h) (Or.inl ⟨by rfl, ?hyc18⟩) hS ?restc18
          case hyc18 => (intro w hSw; obtain ⟨s0, s1, s2⟩ := hSw; go_simp; try with_reducible rfl)
          simp only [Act.put, List.setIfInBounds_toArray, List.set_cons_zero, List.set_cons_succ, List.getElem_toArray, List.getElem_cons_zero, List.getElem_cons_succ]
          refine wpAnyH_ready (rs := [19]) (by kernel_rfl) (by simp) ?_
          refine AllReadyH.cons rfl (fun K hK => ?_) AllReadyH.nil
          go_simp
          refine (HUn.out HTo.out _ (by first | exact .inr (.inl rfl) | exact .inr (.inr rfl) | exact .inl ⟨_, rfl⟩)).mono ?_; rintro e w4 ⟨rfl, hW4⟩; have e18 : w4.cell? ⟨q, 18, none⟩ = some (.int .i64 ar) := by rw [← hari]; exact cell_of hW4.tri 18
          have e19 : w4.cell? ⟨q, 19, none⟩ = some (.bool t.f) := cell_of hW4.tri 19
          have e0 : w4.cell? ⟨w.heap.size, 0, none⟩ = some (.pointer (some ⟨p, 0, none⟩)) := cell_of hW4.b0 0
          refine hK.out _ _ ⟨e18, e19, e0⟩ (fun hS => ?_)
          clear hK K
          try simp only [Act.put, List.setIfInBounds_toArray, List.set_cons_zero, List.set_cons_succ, List.getElem_toArray, List.getElem_cons_zero, List.getElem_cons_succ]
          refine wpAnyH_take (i := 20) (v := ?vc20) rfl (by kernel_rfl) (by kernel_rfl) (by kernel_rfl) (fun _ _ _ h => h) (Or.inl ⟨by rfl, ?hyc20⟩) hS ?restc20
          case hyc20 => (intro w hSw; obtain ⟨s0, s1, s2⟩ := hSw; go_simp; try with_reducible rfl)
          simp only [Act.put, List.setIfInBounds_toArray, List.set_cons_zero, List.set_cons_succ, List.getElem_toArray, List.getElem_cons_zero, List.getElem_cons_succ]
          refine wpAnyH_take (i := 21) (v := ?vc21) rfl (by kernel_rfl) (by kernel_rfl) (by kernel_rfl) (fun _ _ _ h => h) (Or.inl ⟨by rfl, ?hyc21⟩) hS ?restc21
          case hyc21 => (intro w hSw; obtain ⟨s0, s1, s2⟩ := hSw; go_simp; try with_reducible rfl)
          simp only [Act.put, List.setIfInBounds_toArray, List.set_cons_zero, List.set_cons_succ, List.getElem_toArray, List.getElem_cons_zero, List.getElem_cons_succ]
          refine wpAnyH_done (by kernel_rfl) ?_ _
          exact ⟨hW4, un, _, _, _, _, _, _, _, _, _, _, _, _, _, _, _, _, _, _, _, _, _, rfl, (fun e => .inr (.inr ⟨by first | exact trivial | rfl, e⟩)), fun _ => ⟨HTo.out, by first | exact trivial | rfl⟩⟩
  case tail =>
    intro e a' W' hX
    obtain ⟨rfl, hW', r, x12, x13, x14, x15, x16, x17, x18, x19, x20, x21, x22, x23, x24, x25, x26, x27, x28, x29, x30, x31, x32, rfl, h1, h2⟩ := then_false hX
    have HW' : Hid (TrW base p cB zB sB A n s k ways shV outV st w q t W') := hW'
    have c0 : W'.cell? ⟨w.heap.size, 0, none⟩ = some (.pointer (some ⟨p, 0, none⟩)) := cell_of hW'.b0 0
    clear hX hW HW hdr
    cases r
    · have HTo : Hid t.Ok := (h2 rfl).1
      have HDt : Hid (dr = true) := (h2 rfl).2
      have HL : Hid (Calls Tryz.prog 89 #[.pointer (some ⟨p, 0, none⟩), .pointer (some ⟨q, 0, none⟩)] W' fun e w' => e = .returned (bxV (lookBx (useB ways.v 128) st t)) ∧ TrW base p cB zB sB A n s k ways shV outV st w q t w') := by
        refine (lookedAt_in base p cB zB sB A n s k ways shV outV st W' hW'.dr K HOK.out q t HTo.out hW'.tri).mono ?_
        rintro e w' ⟨rfl, hb⟩
        exact ⟨rfl, hW'.below hb⟩
      clear h1 h2 hW' HZ HOk
      go_wp2_with (go_at_call 89; refine HL.out.mono ?_; rintro e w2 ⟨rfl, hW2⟩)
      have hlr := look_range (bd := useB ways.v 128) (t := t) HOK.out
      have hlI := look_in (useB ways.v 128) st K HOK.out t HTo.out
      have HTi : Hid (∀ key, key ∈ tilesOf (lookBx (useB ways.v 128) st t) → ∃ kx ky : Nat, key = ((kx : Int), (ky : Int)) ∧ TileIn st (useB ways.v 128) t kx ky ∧ kx ≤ 100 ∧ ky ≤ 100 ∧
        0 ≤ (partBx (useB ways.v 128) st t key).x ∧ (partBx (useB ways.v 128) st t key).x + (partBx (useB ways.v 128) st t key).c ≤ 100 ∧ 1 ≤ (partBx (useB ways.v 128) st t key).c ∧ 0 ≤ (partBx (useB ways.v 128) st t key).y ∧ (partBx (useB ways.v 128) st t key).y + (partBx (useB ways.v 128) st t key).r ≤ 100 ∧ 1 ≤ (partBx (useB ways.v 128) st t key).r) := fun key hk => tiles_in HOK.out hk
      have HPt : Hid (∀ key, partBx (useB ways.v 128) st t key = (lookBx (useB ways.v 128) st t).meet (tileBx key)) := fun _ => rfl
      generalize lookBx (useB ways.v 128) st t = lk at *
      generalize useB ways.v 128 = bd at *
      refine gen_w (fun W3 => TrW base p cB zB sB A n s k ways shV outV st w q t W3 ∧ W3.heap[w2.heap.size]? = some (.cells #[.int .i64 lk.x, .int .i64 lk.y, .int .i64 lk.c, .int .i64 lk.r] 66 (0, 0)) ∧ w.heap.size + 1 ≤ w2.heap.size) (Code.wp _ _ _ _) _ ⟨hW2.below below1, heap_alloc_new _ _, by have := lt_of_heap hW2.b0; omega⟩ ?_
      rintro W3 ⟨hW3, hLk, lLk⟩
      clear hW2 HW' HL c0
      generalize w2.heap.size = Lk at *
      have cLk := cell_of hLk
      have HLk : Hid (W3.heap[Lk]? = some (.cells #[.int .i64 lk.x, .int .i64 lk.y, .int .i64 lk.c, .int .i64 lk.r] 66 (0, 0))) := hLk
      have HW3 : Hid (TrW base p cB zB sB A n s k ways shV outV st w q t W3) := hW3
      clear hLk hW3
      refine (wpIn_wide (n := 0)).1 (wpIn_label ?_)
      go_wp2_with fail
      have hJ3 := HJ0.out HTo.out q W3 HW3.out
      refine (wpIn_wide (n := 0)).1 ?_
      refine range_lawG (gf := 67) (r := boxV lk.x lk.y lk.c lk.r) rfl (enters_of Tryz.func67 (by kernel_rfl) rfl) (eachBoxG lk.x lk.y lk.c lk.r (by omega)) (fun _ => rfl)
        (fun pre W => W3.heap.size ≤ W.heap.size ∧ J q pre W ∧ W.heap[w.heap.size]? = some (.cells #[.pointer (some ⟨p, 0, none⟩)] 61 (0, 0)) ∧ W.heap[Lk]? = some (.cells #[.int .i64 lk.x, .int .i64 lk.y, .int .i64 lk.c, .int .i64 lk.r] 66 (0, 0))) ?hI ?hP ?hR ⟨Nat.le_refl _, hJ3, HW3.out.b0, HLk.out⟩ (fun k1 => .cells #[.int .i64 k1.1, .int .i64 k1.2, .int .i64 4, .int .i64 4] 66)
        (fun k1 B => { tmps := #[.pointer (some ⟨p, 0, none⟩), .string a, .pointer (some ⟨w.heap.size, 0, none⟩), undef, .int .i64 0, .pointer (some ⟨q, 0, none⟩), .pointer (some ⟨Lk, 0, none⟩), .pointer (some ⟨B, 0, none⟩), undef, undef, .string a, .agg (triL t.a t.b t.c t.ar ⟨t.f, t.bounds⟩).toArray, x12, x13, x14, x15, x16, x17, x18, x19, x20, x21, x22, x23, x24, x25, x26, x27, x28, x29, x30, x31, x32, .bool false, .pointer (some ⟨p, 0, none⟩), bxV lk, .agg #[.int .i64 lk.x, .int .i64 lk.y, .int .i64 lk.c, .int .i64 lk.r], .func (.func 67) #[.agg #[.int .i64 lk.x, .int .i64 lk.y, .int .i64 lk.c, .int .i64 lk.r]] #[], boxV k1.1 k1.2 4 4, undef, undef, undef, undef, undef, undef, undef, undef, undef, undef, undef, undef, undef, undef, undef, undef, undef, undef, undef, undef, undef, undef, undef, undef, undef, undef, undef, undef], defers := [] }) ?hassign ?hbody ?hdone
      case hI =>
        rintro pre A' B hs1 hbl ⟨hs, hi, h2, h3⟩
        exact ⟨Nat.le_trans hs hbl.size, HJg.out q pre A' B hbl hi, (hbl.block _ (lt_of_heap h2)).trans h2, (hbl.block _ (lt_of_heap h3)).trans h3⟩
      case hP =>
        rintro pre A' o x hx ⟨hs, hi, h2, h3⟩
        have l1 := lt_of_heap HW3.out.b0
        have l2 := lt_of_heap HLk.out
        exact ⟨by rw [World.putObj_size]; exact hs, HJp.out q pre A' _ o x (by omega) hx hi, (World.putObj_heap_other (by omega)).trans h2, (World.putObj_heap_other (by omega)).trans h3⟩
      case hR =>
        rintro pre A' ⟨hs, hi, h2, h3⟩
        exact ⟨hs, trivial⟩
      case hassign =>
        intro l k1 W K hK'
        gi_wp2
        exact hK'
      case hbody =>
        rintro l pre k1 rest B W hx ⟨hs, hi, h2, h3⟩ hB1 hBx
        have hxs : tilesOf lk = pre ++ k1 :: rest := hx
        have lW3 := lt_of_heap HW3.out.b0
        obtain ⟨kx, ky, rfl, hTI, hkx, hky, px0, px1, pc1, py0, py1, pr1⟩ := HTi.out k1 (by rw [hxs]; simp)
        have hpq := HPt.out ((kx : Int), (ky : Int))
        dsimp only at hBx ⊢
        obtain ⟨htri, c41, c28⟩ := HJc.out q pre W hi
        have c0 := cell_of h2 0
        have kB := cell_of hBx
        have cL := cell_of h3
        have HU : Hid (∀ way, Calls Tryz.prog 80 #[.pointer (some ⟨p, 14, none⟩), .int .i64 way] W fun e w' => e = .returned (.bool (useB ways.v way)) ∧ w' = W) := fun way => uses_any p W ways.v way c28
        have HI : Hid (J q pre W) := hi
        have HBx : Hid (W.heap[B]? = some (.cells #[.int .i64 kx, .int .i64 ky, .int .i64 4, .int .i64 4] 66 (0, 0))) := hBx
        have HLx : Hid (W.heap[Lk]? = some (.cells #[.int .i64 lk.x, .int .i64 lk.y, .int .i64 lk.c, .int .i64 lk.r] 66 (0, 0))) := h3
        have HB0 : Hid (W.heap[w.heap.size]? = some (.cells #[.pointer (some ⟨p, 0, none⟩)] 61 (0, 0))) := h2
        have HBW : Hid (Below W.heap.size W W) := Below.refl _ _
        have hmx : Tryz.prog.follows .mixedOrders = true := by kernel_rfl
        have HG : Hid (∀ V, Below W.heap.size W V → V.cell? ⟨w.heap.size, 0, none⟩ = some (.pointer (some ⟨p, 0, none⟩)) ∧ V.cell? ⟨p, 41, none⟩ = some (.map (some ways.m)) ∧ V.cell? ⟨B, 0, none⟩ = some (.int .i64 kx) ∧ V.cell? ⟨B, 1, none⟩ = some (.int .i64 ky) ∧ V.cell? ⟨B, 2, none⟩ = some (.int .i64 4) ∧ V.cell? ⟨B, 3, none⟩ = some (.int .i64 4)) := by
          intro V hV
          have z1 := cell_of ((hV.block _ (lt_of_heap HB0.out)).trans HB0.out)
          have z2 := cell_of ((hV.block _ (lt_of_heap HBx.out)).trans HBx.out)
          exact ⟨z1 0, (HJc.out q pre V (HJg.out q pre W V hV HI.out)).2.1, z2 0, z2 1, z2 2, z2 3⟩
        have HU64 : Hid (∀ V, Below W.heap.size W V → Calls Tryz.prog 80 #[.pointer (some ⟨p, 14, none⟩), .int .i64 64] V fun e w' => e = .returned (.bool (useB ways.v 64)) ∧ w' = V) := fun V hV => uses_any p V ways.v 64 (HJc.out q pre V (HJg.out q pre W V hV HI.out)).2.2
        have HFin : Hid (∀ V V', Below W.heap.size W V → StepP w (J q) (pre ++ [((kx : Int), (ky : Int))]) V V' → (V'.cell? ⟨w.heap.size, 0, none⟩ = some (.pointer (some ⟨p, 0, none⟩)) ∧ V'.cell? ⟨p, 41, none⟩ = some (.map (some ways.m)) ∧ V'.cell? ⟨B, 0, none⟩ = some (.int .i64 kx) ∧ V'.cell? ⟨B, 1, none⟩ = some (.int .i64 ky) ∧ V'.cell? ⟨B, 2, none⟩ = some (.int .i64 4) ∧ V'.cell? ⟨B, 3, none⟩ = some (.int .i64 4)) ∧
            (W3.heap.size ≤ V'.heap.size ∧ J q (pre ++ [((kx : Int), (ky : Int))]) V' ∧ V'.heap[w.heap.size]? = some (.cells #[.pointer (some ⟨p, 0, none⟩)] 61 (0, 0)) ∧ V'.heap[Lk]? = some (.cells #[.int .i64 lk.x, .int .i64 lk.y, .int .i64 lk.c, .int .i64 lk.r] 66 (0, 0))) ∧ ∀ kk, W3.heap.size ≤ kk → kk < W.heap.size → V'.heap[kk]? = W.heap[kk]?) := by
          rintro V V' hV ⟨hj, hk, hsz⟩
          have e1 := (hk _ (Nat.le_refl _) (Nat.lt_of_lt_of_le (lt_of_heap HB0.out) hV.size)).trans ((hV.block _ (lt_of_heap HB0.out)).trans HB0.out)
          have e2 := (hk _ (by omega) (Nat.lt_of_lt_of_le (lt_of_heap HLx.out) hV.size)).trans ((hV.block _ (lt_of_heap HLx.out)).trans HLx.out)
          have e3 := (hk _ (by omega) (Nat.lt_of_lt_of_le (lt_of_heap HBx.out) hV.size)).trans ((hV.block _ (lt_of_heap HBx.out)).trans HBx.out)
          have z1 := cell_of e1
          have z3 := cell_of e3
          exact ⟨⟨z1 0, (HJc.out q _ V' hj).2.1, z3 0, z3 1, z3 2, z3 3⟩, ⟨Nat.le_trans hs (Nat.le_trans hV.size hsz), hj, e1, e2⟩, fun kk h1 h2 => (hk kk (by omega) (Nat.lt_of_lt_of_le h2 hV.size)).trans (hV.block kk h2)⟩
        have HDr : Hid (useB ways.v 64 = false → ∀ V, Below W.heap.size W V → (useB ways.v 2 = true → t.leaves (partBx bd st t ((kx : Int), (ky : Int))) = false) → Hid (Calls Tryz.prog 68 #[.pointer (some ⟨p, 0, none⟩), .pointer (some ⟨q, 0, none⟩), .agg #[.int .i64 kx, .int .i64 ky, .int .i64 4, .int .i64 4]] V fun e V' => e = .returned (.tuple #[]) ∧ Hid ((V'.cell? ⟨w.heap.size, 0, none⟩ = some (.pointer (some ⟨p, 0, none⟩)) ∧ V'.cell? ⟨p, 41, none⟩ = some (.map (some ways.m)) ∧ V'.cell? ⟨B, 0, none⟩ = some (.int .i64 kx) ∧ V'.cell? ⟨B, 1, none⟩ = some (.int .i64 ky) ∧ V'.cell? ⟨B, 2, none⟩ = some (.int .i64 4) ∧ V'.cell? ⟨B, 3, none⟩ = some (.int .i64 4)) ∧
            (W3.heap.size ≤ V'.heap.size ∧ J q (pre ++ [((kx : Int), (ky : Int))]) V' ∧ V'.heap[w.heap.size]? = some (.cells #[.pointer (some ⟨p, 0, none⟩)] 61 (0, 0)) ∧ V'.heap[Lk]? = some (.cells #[.int .i64 lk.x, .int .i64 lk.y, .int .i64 lk.c, .int .i64 lk.r] 66 (0, 0))) ∧ ∀ kk, W3.heap.size ≤ kk → kk < W.heap.size → V'.heap[kk]? = W.heap[kk]?))) := by
          intro h64 V hV hlv
          refine (HDw.out HTo.out h64 q pre kx ky rest V hxs hlv (HJg.out q pre W V hV HI.out) (by have := hV.size; omega)).mono ?_
          rintro e V' ⟨rfl, hst⟩
          exact ⟨rfl, HFin.out V V' hV hst⟩
        have HPt2 : Hid (useB ways.v 64 = true → ∀ V, Below W.heap.size W V → (useB ways.v 2 = true → t.leaves (partBx bd st t ((kx : Int), (ky : Int))) = false) → Hid (Calls Tryz.prog 93 #[.map (some ways.m), .pointer (some ⟨q, 0, none⟩), .agg #[.int .i64 kx, .int .i64 ky, .int .i64 4, .int .i64 4]] V fun e V' => e = .returned (.tuple #[]) ∧ Hid ((V'.cell? ⟨w.heap.size, 0, none⟩ = some (.pointer (some ⟨p, 0, none⟩)) ∧ V'.cell? ⟨p, 41, none⟩ = some (.map (some ways.m)) ∧ V'.cell? ⟨B, 0, none⟩ = some (.int .i64 kx) ∧ V'.cell? ⟨B, 1, none⟩ = some (.int .i64 ky) ∧ V'.cell? ⟨B, 2, none⟩ = some (.int .i64 4) ∧ V'.cell? ⟨B, 3, none⟩ = some (.int .i64 4)) ∧
            (W3.heap.size ≤ V'.heap.size ∧ J q (pre ++ [((kx : Int), (ky : Int))]) V' ∧ V'.heap[w.heap.size]? = some (.cells #[.pointer (some ⟨p, 0, none⟩)] 61 (0, 0)) ∧ V'.heap[Lk]? = some (.cells #[.int .i64 lk.x, .int .i64 lk.y, .int .i64 lk.c, .int .i64 lk.r] 66 (0, 0))) ∧ ∀ kk, W3.heap.size ≤ kk → kk < W.heap.size → V'.heap[kk]? = W.heap[kk]?))) := by
          intro h64 V hV hlv
          refine (HPu.out HTo.out h64 q pre kx ky rest V hxs hlv (HJg.out q pre W V hV HI.out) (by have := hV.size; omega)).mono ?_
          rintro e V' ⟨rfl, hst⟩
          exact ⟨rfl, HFin.out V V' hV hst⟩
        have HSkp : Hid (∀ V, Below W.heap.size W V → useB ways.v 2 = true → t.leaves (partBx bd st t ((kx : Int), (ky : Int))) = true → (W3.heap.size ≤ V.heap.size ∧ J q (pre ++ [((kx : Int), (ky : Int))]) V ∧ V.heap[w.heap.size]? = some (.cells #[.pointer (some ⟨p, 0, none⟩)] 61 (0, 0)) ∧ V.heap[Lk]? = some (.cells #[.int .i64 lk.x, .int .i64 lk.y, .int .i64 lk.c, .int .i64 lk.r] 66 (0, 0))) ∧ ∀ kk, W3.heap.size ≤ kk → kk < W.heap.size → V.heap[kk]? = W.heap[kk]?) := by
          intro V hV h2' hlv
          exact ⟨⟨Nat.le_trans hs hV.size, HSk.out HTo.out q pre _ rest V hxs h2' hlv (HJg.out q pre W V hV HI.out), (hV.block _ (lt_of_heap HB0.out)).trans HB0.out, (hV.block _ (lt_of_heap HLx.out)).trans HLx.out⟩, fun kk _ h2 => hV.block kk h2⟩
        have HMt : Hid (Calls Tryz.prog 90 #[.agg #[.int .i64 lk.x, .int .i64 lk.y, .int .i64 lk.c, .int .i64 lk.r], .agg #[.int .i64 kx, .int .i64 ky, .int .i64 4, .int .i64 4]] W fun e w' => e = .returned (bxV (partBx bd st t ((kx : Int), (ky : Int)))) ∧ Below W.heap.size W w') := by
          rw [hpq]
          exact meet_any lk (tileBx ((kx : Int), (ky : Int))) hlI (tile_in _ (by dsimp only; omega) (by dsimp only; omega) (by dsimp only; omega) (by dsimp only; omega)) W
        have HTr : Hid (W.heap[q]? = some (.cells (trT t) 165 (0, 0))) := htri
        have HLe : Hid (t.leaves (partBx bd st t ((kx : Int), (ky : Int))) = (leavesB t.b t.c (partBx bd st t ((kx : Int), (ky : Int))) || leavesB t.c t.a (partBx bd st t ((kx : Int), (ky : Int))) || leavesB t.a t.b (partBx bd st t ((kx : Int), (ky : Int))))) := rfl
        clear HSk HPu HDw HFin hpq htri hlI hlr HJ0 HEn HPt HTi hTI
        generalize partBx bd st t ((kx : Int), (ky : Int)) = pt at *
        generalize useB ways.v 64 = u64 at *
        clear hi h2 h3 hBx hx hJ3
        gi_wp2_with fail
        refine ⟨trivial, rfl, ?_⟩
        refine (CallsIn.inRound l (callsIn_wide.2 (HU.out 2))).mono ?_
        rintro e w4 ⟨rfl, hw4⟩
        obtain rfl : W = w4 := hw4.symm
        clear HU
        generalize useB ways.v 2 = u2 at *
        cases u2
        · clear HSkp HMt HTr HLe
          obtain ⟨f0, f41, f1, f2, f3, f4⟩ := HG.out _ HBW.out
          gi_wp2_with fail
          refine ⟨trivial, rfl, ?_⟩
          refine (CallsIn.inRound l (callsIn_wide.2 (HU64.out _ HBW.out))).mono ?_
          rintro e w6 ⟨rfl, hw6⟩
          obtain rfl : W = w6 := hw6.symm
          cases u64
          · have HC := HDr.out rfl _ HBW.out (fun e => by cases e)
            gi_wp2_with fail
            refine ⟨trivial, rfl, ?_⟩
            refine (CallsIn.inRound l (callsIn_wide.2 HC.out)).mono ?_
            rintro e w7 ⟨rfl, hE7⟩
            gi_wp2_with fail
            exact hE7.out.2
          · have HC := HPt2.out rfl _ (HBW.out.trans ((Below.refl _ _).drew.mono HBW.out.size)) (fun e => by cases e)
            gi_wp2_with fail
            refine region_held_round 6 (by rfl) (S := fun w' => w'.cell? ⟨w.heap.size, 0, none⟩ = some (.pointer (some ⟨p, 0, none⟩)) ∧ w'.cell? ⟨p, 41, none⟩ = some (.map (some ways.m)) ∧ w'.cell? ⟨B, 0, none⟩ = some (.int .i64 kx) ∧ w'.cell? ⟨B, 1, none⟩ = some (.int .i64 ky) ∧ w'.cell? ⟨B, 2, none⟩ = some (.int .i64 4) ∧ w'.cell? ⟨B, 3, none⟩ = some (.int .i64 4)) hmx (by rfl) ?_ ?_
            · rintro ⟨a', w', h'⟩
              obtain ⟨h1, _⟩ := h'
              cases h1
            · have hS : (fun w' => w'.cell? ⟨w.heap.size, 0, none⟩ = some (.pointer (some ⟨p, 0, none⟩)) ∧ w'.cell? ⟨p, 41, none⟩ = some (.map (some ways.m)) ∧ w'.cell? ⟨B, 0, none⟩ = some (.int .i64 kx) ∧ w'.cell? ⟨B, 1, none⟩ = some (.int .i64 ky) ∧ w'.cell? ⟨B, 2, none⟩ = some (.int .i64 4) ∧ w'.cell? ⟨B, 3, none⟩ = some (.int .i64 4)) W.drew := ⟨f0, f41, f1, f2, f3, f4⟩
              refine wpAnyH_take (i := 0) (v := ?vAp0) rfl (by kernel_rfl) (by kernel_rfl) (by kernel_rfl) (fun _ _ _ h => h) (Or.inl ⟨by rfl, ?hyAp0⟩) hS ?restAp0
              case hyAp0 => (intro w hSw; obtain ⟨s0, s1, s2, s3, s4, s5⟩ := hSw; go_simp; try with_reducible rfl)
              simp only [Act.put, List.setIfInBounds_toArray, List.set_cons_zero, List.set_cons_succ, List.getElem_toArray, List.getElem_cons_zero]
              refine wpAnyH_take (i := 1) (v := ?vAp1) rfl (by kernel_rfl) (by kernel_rfl) (by kernel_rfl) (fun _ _ _ h => h) (Or.inl ⟨by rfl, ?hyAp1⟩) hS ?restAp1
              case hyAp1 => (intro w hSw; obtain ⟨s0, s1, s2, s3, s4, s5⟩ := hSw; go_simp; try with_reducible rfl)
              simp only [Act.put, List.setIfInBounds_toArray, List.set_cons_zero, List.set_cons_succ, List.getElem_toArray, List.getElem_cons_zero, List.getElem_cons_succ]
              refine wpAnyH_take (i := 2) (v := ?vAp2) rfl (by kernel_rfl) (by kernel_rfl) (by kernel_rfl) (fun _ _ _ h => h) (Or.inl ⟨by rfl, ?hyAp2⟩) hS ?restAp2
              case hyAp2 => (intro w hSw; obtain ⟨s0, s1, s2, s3, s4, s5⟩ := hSw; go_simp; try with_reducible rfl)
              simp only [Act.put, List.setIfInBounds_toArray, List.set_cons_zero, List.set_cons_succ, List.getElem_toArray, List.getElem_cons_zero, List.getElem_cons_succ]
              refine wpAnyH_take (i := 3) (v := ?vAp3) rfl (by kernel_rfl) (by kernel_rfl) (by kernel_rfl) (fun _ _ _ h => h) (Or.inl ⟨by rfl, ?hyAp3⟩) hS ?restAp3
              case hyAp3 => (intro w hSw; obtain ⟨s0, s1, s2, s3, s4, s5⟩ := hSw; go_simp; try with_reducible rfl)
              simp only [Act.put, List.setIfInBounds_toArray, List.set_cons_zero, List.set_cons_succ, List.getElem_toArray, List.getElem_cons_zero, List.getElem_cons_succ]
              refine wpAnyH_take (i := 4) (v := ?vAp4) rfl (by kernel_rfl) (by kernel_rfl) (by kernel_rfl) (fun _ _ _ h => h) (Or.inl ⟨by rfl, ?hyAp4⟩) hS ?restAp4
              case hyAp4 => (intro w hSw; obtain ⟨s0, s1, s2, s3, s4, s5⟩ := hSw; go_simp; try with_reducible rfl)
              simp only [Act.put, List.setIfInBounds_toArray, List.set_cons_zero, List.set_cons_succ, List.getElem_toArray, List.getElem_cons_zero, List.getElem_cons_succ]
              refine wpAnyH_ready (rs := [5]) (by kernel_rfl) (by simp) ?_
              refine AllReadyH.cons rfl (fun K hK => ?_) AllReadyH.nil
              go_simp
              refine HC.out.mono ?_; rintro e w7 ⟨rfl, hE7⟩; obtain ⟨z0, z41, z1, z2, z3, z4⟩ := hE7.out.1
              refine hK.out _ _ ⟨z0, z41, z1, z2, z3, z4⟩ (fun hS => ?_)
              clear hK K
              try simp only [Act.put, List.setIfInBounds_toArray, List.set_cons_zero, List.set_cons_succ, List.getElem_toArray, List.getElem_cons_zero, List.getElem_cons_succ]
              refine wpAnyH_done (by kernel_rfl) ?_ _
              gi_wp2_with fail
              exact hE7.out.2
        · gi_wp2_with fail
          refine ⟨trivial, rfl, ?_⟩
          refine (CallsIn.inRound l (callsIn_wide.2 HMt.out)).mono ?_
          rintro e w5 ⟨rfl, hb5⟩
          gi_wp2_with fail
          refine gen_w (fun W4 => Below W.heap.size W W4 ∧ W4.heap[w5.heap.size]? = some (.cells #[.int .i64 pt.x, .int .i64 pt.y, .int .i64 pt.c, .int .i64 pt.r] 66 (0, 0))) (Code.wpIn (Fence.wide.inRound l) 0 _ _ _ _) _ ⟨hb5.alloc hb5.size _, heap_alloc_new _ _⟩ ?_
          rintro W4 ⟨hb4, hPt⟩
          clear hb5 HMt
          generalize w5.heap.size = Pt at *
          have HB4 : Hid (Below W.heap.size W W4) := hb4
          have HGp : Hid (∀ V, Below W4.heap.size W4 V → V.cell? ⟨Pt, 0, none⟩ = some (.int .i64 pt.x) ∧ V.cell? ⟨Pt, 1, none⟩ = some (.int .i64 pt.y) ∧ V.cell? ⟨Pt, 2, none⟩ = some (.int .i64 pt.c) ∧ V.cell? ⟨Pt, 3, none⟩ = some (.int .i64 pt.r)) := by
            intro V hV
            have z := cell_of ((hV.block _ (lt_of_heap hPt)).trans hPt)
            exact ⟨z 0, z 1, z 2, z 3⟩
          have HTri : Hid (∀ V, Below W4.heap.size W4 V → V.heap[q]? = some (.cells (trc t.a t.b t.c t.ar ⟨t.f, t.bounds⟩) 165 (0, 0))) := fun V hV => (hV.block _ (Nat.lt_of_lt_of_le (lt_of_heap HTr.out) hb4.size)).trans ((hb4.block _ (lt_of_heap HTr.out)).trans HTr.out)
          have HSd0 : Hid (∀ V, Below W4.heap.size W4 V → Calls Tryz.prog 91 #[.pointer (some ⟨q, 0, none⟩), .int .i64 0] V fun e w' => e = .returned (sideV t.b t.c) ∧ Below W4.heap.size W4 w') := by
            intro V hV
            refine (side0 q t.a t.b t.c t.ar ⟨t.f, t.bounds⟩ V (HTri.out V hV)).mono ?_
            rintro e w' ⟨rfl, hb⟩
            exact ⟨rfl, hV.trans (hb.mono hV.size)⟩
          have HSd1 : Hid (∀ V, Below W4.heap.size W4 V → Calls Tryz.prog 91 #[.pointer (some ⟨q, 0, none⟩), .int .i64 1] V fun e w' => e = .returned (sideV t.c t.a) ∧ Below W4.heap.size W4 w') := by
            intro V hV
            refine (side1 q t.a t.b t.c t.ar ⟨t.f, t.bounds⟩ V (HTri.out V hV)).mono ?_
            rintro e w' ⟨rfl, hb⟩
            exact ⟨rfl, hV.trans (hb.mono hV.size)⟩
          have HSd2 : Hid (∀ V, Below W4.heap.size W4 V → Calls Tryz.prog 91 #[.pointer (some ⟨q, 0, none⟩), .int .i64 2] V fun e w' => e = .returned (sideV t.a t.b) ∧ Below W4.heap.size W4 w') := by
            intro V hV
            refine (side2 q t.a t.b t.c t.ar ⟨t.f, t.bounds⟩ V (HTri.out V hV)).mono ?_
            rintro e w' ⟨rfl, hb⟩
            exact ⟨rfl, hV.trans (hb.mono hV.size)⟩
          have HLv0 : Hid (∀ V, Below W4.heap.size W4 V → Calls Tryz.prog 92 #[sideV t.b t.c, .agg #[.int .i64 pt.x, .int .i64 pt.y, .int .i64 pt.c, .int .i64 pt.r]] V fun e w' => e = .returned (.bool (leavesB t.b t.c pt)) ∧ Below W4.heap.size W4 w') := by
            intro V hV
            refine (leavesOut_any t.b t.c pt V HTo.out.b HTo.out.c px0 px1 pc1 py0 py1 pr1).mono ?_
            rintro e w' ⟨rfl, hb⟩
            exact ⟨rfl, hV.trans (hb.mono hV.size)⟩
          have HLv1 : Hid (∀ V, Below W4.heap.size W4 V → Calls Tryz.prog 92 #[sideV t.c t.a, .agg #[.int .i64 pt.x, .int .i64 pt.y, .int .i64 pt.c, .int .i64 pt.r]] V fun e w' => e = .returned (.bool (leavesB t.c t.a pt)) ∧ Below W4.heap.size W4 w') := by
            intro V hV
            refine (leavesOut_any t.c t.a pt V HTo.out.c HTo.out.a px0 px1 pc1 py0 py1 pr1).mono ?_
            rintro e w' ⟨rfl, hb⟩
            exact ⟨rfl, hV.trans (hb.mono hV.size)⟩
          have HLv2 : Hid (∀ V, Below W4.heap.size W4 V → Calls Tryz.prog 92 #[sideV t.a t.b, .agg #[.int .i64 pt.x, .int .i64 pt.y, .int .i64 pt.c, .int .i64 pt.r]] V fun e w' => e = .returned (.bool (leavesB t.a t.b pt)) ∧ Below W4.heap.size W4 w') := by
            intro V hV
            refine (leavesOut_any t.a t.b pt V HTo.out.a HTo.out.b px0 px1 pc1 py0 py1 pr1).mono ?_
            rintro e w' ⟨rfl, hb⟩
            exact ⟨rfl, hV.trans (hb.mono hV.size)⟩
          have HW4 : Hid (Below W4.heap.size W4 W4) := Below.refl _ _
          have HUp : Hid (∀ V, Below W4.heap.size W4 V → Below W.heap.size W V) := fun V hV => HB4.out.trans (hV.mono HB4.out.size)
          clear hb4 hPt HTri c0 kB cL
          refine wpIn_loop_rounds 4 ?_
          rw [roundsIn_succ]
          gi_wp2_with fail
          obtain ⟨g0, g1, g2, g3⟩ := HGp.out _ HW4.out
          refine region_held_round 4 (by rfl) (S := fun w' => w'.cell? ⟨Pt, 0, none⟩ = some (.int .i64 pt.x) ∧ w'.cell? ⟨Pt, 1, none⟩ = some (.int .i64 pt.y) ∧ w'.cell? ⟨Pt, 2, none⟩ = some (.int .i64 pt.c) ∧ w'.cell? ⟨Pt, 3, none⟩ = some (.int .i64 pt.r)) hmx (by rfl) ?_ ?_
          · rintro ⟨a', w', h'⟩
            obtain ⟨h1, _⟩ := h'
            cases h1
          · have hS : (fun w' => w'.cell? ⟨Pt, 0, none⟩ = some (.int .i64 pt.x) ∧ w'.cell? ⟨Pt, 1, none⟩ = some (.int .i64 pt.y) ∧ w'.cell? ⟨Pt, 2, none⟩ = some (.int .i64 pt.c) ∧ w'.cell? ⟨Pt, 3, none⟩ = some (.int .i64 pt.r)) W4.drew := ⟨g0, g1, g2, g3⟩
            refine wpAnyH_take (i := 0) (v := ?vr00) rfl (by kernel_rfl) (by kernel_rfl) (by kernel_rfl) (fun _ _ _ h => h) (Or.inl ⟨by rfl, ?hyr00⟩) hS ?restr00
            case hyr00 => (intro w hSw; obtain ⟨s0, s1, s2, s3⟩ := hSw; go_simp; try with_reducible rfl)
            simp only [Act.put, List.setIfInBounds_toArray, List.set_cons_zero, List.set_cons_succ, List.getElem_toArray, List.getElem_cons_zero]
            refine wpAnyH_take (i := 2) (v := ?vr02) rfl (by kernel_rfl) (by kernel_rfl) (by kernel_rfl) (fun _ _ _ h => h) (Or.inl ⟨by rfl, ?hyr02⟩) hS ?restr02
            case hyr02 => (intro w hSw; obtain ⟨s0, s1, s2, s3⟩ := hSw; go_simp; try with_reducible rfl)
            simp only [Act.put, List.setIfInBounds_toArray, List.set_cons_zero, List.set_cons_succ, List.getElem_toArray, List.getElem_cons_zero, List.getElem_cons_succ]
            refine wpAnyH_ready (rs := [1]) (by kernel_rfl) (by simp) ?_
            refine AllReadyH.cons rfl (fun K hK => ?_) AllReadyH.nil
            go_simp
            refine (HSd0.out _ (HW4.out.trans ((Below.refl _ _).drew.mono HW4.out.size))).mono ?_; rintro e w8 ⟨rfl, hb8⟩; obtain ⟨d0, d1, d2, d3⟩ := HGp.out _ hb8
            refine hK.out _ _ ⟨d0, d1, d2, d3⟩ (fun hS => ?_)
            clear hK K
            try simp only [Act.put, List.setIfInBounds_toArray, List.set_cons_zero, List.set_cons_succ, List.getElem_toArray, List.getElem_cons_zero, List.getElem_cons_succ]
            refine wpAnyH_ready (rs := [3]) (by kernel_rfl) (by simp) ?_
            refine AllReadyH.cons rfl (fun K hK => ?_) AllReadyH.nil
            go_simp
            refine (HLv0.out _ hb8).mono ?_; rintro e V1 ⟨rfl, hb9⟩; obtain ⟨d0', d1', d2', d3'⟩ := HGp.out _ hb9
            refine hK.out _ _ ⟨d0', d1', d2', d3'⟩ (fun hS => ?_)
            clear hK K
            try simp only [Act.put, List.setIfInBounds_toArray, List.set_cons_zero, List.set_cons_succ, List.getElem_toArray, List.getElem_cons_zero, List.getElem_cons_succ]
            refine wpAnyH_done (by kernel_rfl) ?_ _
            have HV1 : Hid (Below W4.heap.size W4 V1) := hb9
            clear hS hb8 hb9 d0 d1 d2 d3 d0' d1' d2' d3' g0 g1 g2 g3
            obtain ⟨lv0, hlv0⟩ : ∃ b, leavesB t.b t.c pt = b := ⟨_, rfl⟩
            rw [hlv0]
            cases lv0
            case true =>
              have hE := HSkp.out V1 (HUp.out _ HV1.out) (by first | exact trivial | rfl) (by rw [HLe.out, hlv0]; simp)
              clear HSkp
              gi_wp2_with fail
              exact hE.2
            case false =>
              gi_wp2_with fail
              rw [roundsIn_succ]
              gi_wp2_with fail
              obtain ⟨g0, g1, g2, g3⟩ := HGp.out _ HV1.out
              refine region_held_round 4 (by rfl) (S := fun w' => w'.cell? ⟨Pt, 0, none⟩ = some (.int .i64 pt.x) ∧ w'.cell? ⟨Pt, 1, none⟩ = some (.int .i64 pt.y) ∧ w'.cell? ⟨Pt, 2, none⟩ = some (.int .i64 pt.c) ∧ w'.cell? ⟨Pt, 3, none⟩ = some (.int .i64 pt.r)) hmx (by rfl) ?_ ?_
              · rintro ⟨a', w', h'⟩
                obtain ⟨h1, _⟩ := h'
                cases h1
              · have hS : (fun w' => w'.cell? ⟨Pt, 0, none⟩ = some (.int .i64 pt.x) ∧ w'.cell? ⟨Pt, 1, none⟩ = some (.int .i64 pt.y) ∧ w'.cell? ⟨Pt, 2, none⟩ = some (.int .i64 pt.c) ∧ w'.cell? ⟨Pt, 3, none⟩ = some (.int .i64 pt.r)) V1.drew := ⟨g0, g1, g2, g3⟩
                refine wpAnyH_take (i := 0) (v := ?vr10) rfl (by kernel_rfl) (by kernel_rfl) (by kernel_rfl) (fun _ _ _ h => h) (Or.inl ⟨by rfl, ?hyr10⟩) hS ?restr10
                case hyr10 => (intro w hSw; obtain ⟨s0, s1, s2, s3⟩ := hSw; go_simp; try with_reducible rfl)
                simp only [Act.put, List.setIfInBounds_toArray, List.set_cons_zero, List.set_cons_succ, List.getElem_toArray, List.getElem_cons_zero]
                refine wpAnyH_take (i := 2) (v := ?vr12) rfl (by kernel_rfl) (by kernel_rfl) (by kernel_rfl) (fun _ _ _ h => h) (Or.inl ⟨by rfl, ?hyr12⟩) hS ?restr12
                case hyr12 => (intro w hSw; obtain ⟨s0, s1, s2, s3⟩ := hSw; go_simp; try with_reducible rfl)
                simp only [Act.put, List.setIfInBounds_toArray, List.set_cons_zero, List.set_cons_succ, List.getElem_toArray, List.getElem_cons_zero, List.getElem_cons_succ]
                refine wpAnyH_ready (rs := [1]) (by kernel_rfl) (by simp) ?_
                refine AllReadyH.cons rfl (fun K hK => ?_) AllReadyH.nil
                go_simp
                refine (HSd1.out _ (HV1.out.trans ((Below.refl _ _).drew.mono HV1.out.size))).mono ?_; rintro e w8 ⟨rfl, hb8⟩; obtain ⟨d0, d1, d2, d3⟩ := HGp.out _ hb8
                refine hK.out _ _ ⟨d0, d1, d2, d3⟩ (fun hS => ?_)
                clear hK K
                try simp only [Act.put, List.setIfInBounds_toArray, List.set_cons_zero, List.set_cons_succ, List.getElem_toArray, List.getElem_cons_zero, List.getElem_cons_succ]
                refine wpAnyH_ready (rs := [3]) (by kernel_rfl) (by simp) ?_
                refine AllReadyH.cons rfl (fun K hK => ?_) AllReadyH.nil
                go_simp
                refine (HLv1.out _ hb8).mono ?_; rintro e V2 ⟨rfl, hb9⟩; obtain ⟨d0', d1', d2', d3'⟩ := HGp.out _ hb9
                refine hK.out _ _ ⟨d0', d1', d2', d3'⟩ (fun hS => ?_)
                clear hK K
                try simp only [Act.put, List.setIfInBounds_toArray, List.set_cons_zero, List.set_cons_succ, List.getElem_toArray, List.getElem_cons_zero, List.getElem_cons_succ]
                refine wpAnyH_done (by kernel_rfl) ?_ _
                have HV2 : Hid (Below W4.heap.size W4 V2) := hb9
                clear hS hb8 hb9 d0 d1 d2 d3 d0' d1' d2' d3' g0 g1 g2 g3
                obtain ⟨lv1, hlv1⟩ : ∃ b, leavesB t.c t.a pt = b := ⟨_, rfl⟩
                rw [hlv1]
                cases lv1
                case true =>
                  have hE := HSkp.out V2 (HUp.out _ HV2.out) (by first | exact trivial | rfl) (by rw [HLe.out, hlv1]; simp)
                  clear HSkp
                  gi_wp2_with fail
                  exact hE.2
                case false =>
                  gi_wp2_with fail
                  rw [roundsIn_succ]
                  gi_wp2_with fail
                  obtain ⟨g0, g1, g2, g3⟩ := HGp.out _ HV2.out
                  refine region_held_round 4 (by rfl) (S := fun w' => w'.cell? ⟨Pt, 0, none⟩ = some (.int .i64 pt.x) ∧ w'.cell? ⟨Pt, 1, none⟩ = some (.int .i64 pt.y) ∧ w'.cell? ⟨Pt, 2, none⟩ = some (.int .i64 pt.c) ∧ w'.cell? ⟨Pt, 3, none⟩ = some (.int .i64 pt.r)) hmx (by rfl) ?_ ?_
                  · rintro ⟨a', w', h'⟩
                    obtain ⟨h1, _⟩ := h'
                    cases h1
                  · have hS : (fun w' => w'.cell? ⟨Pt, 0, none⟩ = some (.int .i64 pt.x) ∧ w'.cell? ⟨Pt, 1, none⟩ = some (.int .i64 pt.y) ∧ w'.cell? ⟨Pt, 2, none⟩ = some (.int .i64 pt.c) ∧ w'.cell? ⟨Pt, 3, none⟩ = some (.int .i64 pt.r)) V2.drew := ⟨g0, g1, g2, g3⟩
                    refine wpAnyH_take (i := 0) (v := ?vr20) rfl (by kernel_rfl) (by kernel_rfl) (by kernel_rfl) (fun _ _ _ h => h) (Or.inl ⟨by rfl, ?hyr20⟩) hS ?restr20
                    case hyr20 => (intro w hSw; obtain ⟨s0, s1, s2, s3⟩ := hSw; go_simp; try with_reducible rfl)
                    simp only [Act.put, List.setIfInBounds_toArray, List.set_cons_zero, List.set_cons_succ, List.getElem_toArray, List.getElem_cons_zero]
                    refine wpAnyH_take (i := 2) (v := ?vr22) rfl (by kernel_rfl) (by kernel_rfl) (by kernel_rfl) (fun _ _ _ h => h) (Or.inl ⟨by rfl, ?hyr22⟩) hS ?restr22
                    case hyr22 => (intro w hSw; obtain ⟨s0, s1, s2, s3⟩ := hSw; go_simp; try with_reducible rfl)
                    simp only [Act.put, List.setIfInBounds_toArray, List.set_cons_zero, List.set_cons_succ, List.getElem_toArray, List.getElem_cons_zero, List.getElem_cons_succ]
                    refine wpAnyH_ready (rs := [1]) (by kernel_rfl) (by simp) ?_
                    refine AllReadyH.cons rfl (fun K hK => ?_) AllReadyH.nil
                    go_simp
                    refine (HSd2.out _ (HV2.out.trans ((Below.refl _ _).drew.mono HV2.out.size))).mono ?_; rintro e w8 ⟨rfl, hb8⟩; obtain ⟨d0, d1, d2, d3⟩ := HGp.out _ hb8
                    refine hK.out _ _ ⟨d0, d1, d2, d3⟩ (fun hS => ?_)
                    clear hK K
                    try simp only [Act.put, List.setIfInBounds_toArray, List.set_cons_zero, List.set_cons_succ, List.getElem_toArray, List.getElem_cons_zero, List.getElem_cons_succ]
                    refine wpAnyH_ready (rs := [3]) (by kernel_rfl) (by simp) ?_
                    refine AllReadyH.cons rfl (fun K hK => ?_) AllReadyH.nil
                    go_simp
                    refine (HLv2.out _ hb8).mono ?_; rintro e V3 ⟨rfl, hb9⟩; obtain ⟨d0', d1', d2', d3'⟩ := HGp.out _ hb9
                    refine hK.out _ _ ⟨d0', d1', d2', d3'⟩ (fun hS => ?_)
                    clear hK K
                    try simp only [Act.put, List.setIfInBounds_toArray, List.set_cons_zero, List.set_cons_succ, List.getElem_toArray, List.getElem_cons_zero, List.getElem_cons_succ]
                    refine wpAnyH_done (by kernel_rfl) ?_ _
                    have HV3 : Hid (Below W4.heap.size W4 V3) := hb9
                    clear hS hb8 hb9 d0 d1 d2 d3 d0' d1' d2' d3' g0 g1 g2 g3
                    obtain ⟨lv2, hlv2⟩ : ∃ b, leavesB t.a t.b pt = b := ⟨_, rfl⟩
                    rw [hlv2]
                    cases lv2
                    case true =>
                      have hE := HSkp.out V3 (HUp.out _ HV3.out) (by first | exact trivial | rfl) (by rw [HLe.out, hlv2]; simp)
                      clear HSkp
                      gi_wp2_with fail
                      exact hE.2
                    case false =>
                      have HV3' : Hid (Below W.heap.size W V3) := HUp.out _ HV3.out
                      gi_wp2_with fail
                      rw [roundsIn_succ]
                      obtain ⟨f0, f41, f1, f2, f3, f4⟩ := HG.out _ HV3'.out
                      gi_wp2_with fail
                      refine ⟨trivial, rfl, ?_⟩
                      refine (CallsIn.inRound l (callsIn_wide.2 (HU64.out _ HV3'.out))).mono ?_
                      rintro e w6 ⟨rfl, hw6⟩
                      obtain rfl : V3 = w6 := hw6.symm
                      cases u64
                      · have HC := HDr.out rfl _ HV3'.out (fun _ => by rw [HLe.out, hlv0, hlv1, hlv2]; rfl)
                        gi_wp2_with fail
                        refine ⟨trivial, rfl, ?_⟩
                        refine (CallsIn.inRound l (callsIn_wide.2 HC.out)).mono ?_
                        rintro e w7 ⟨rfl, hE7⟩
                        gi_wp2_with fail
                        exact hE7.out.2
                      · have HC := HPt2.out rfl _ (HV3'.out.trans ((Below.refl _ _).drew.mono HV3'.out.size)) (fun _ => by rw [HLe.out, hlv0, hlv1, hlv2]; rfl)
                        gi_wp2_with fail
                        refine region_held_round 6 (by rfl) (S := fun w' => w'.cell? ⟨w.heap.size, 0, none⟩ = some (.pointer (some ⟨p, 0, none⟩)) ∧ w'.cell? ⟨p, 41, none⟩ = some (.map (some ways.m)) ∧ w'.cell? ⟨B, 0, none⟩ = some (.int .i64 kx) ∧ w'.cell? ⟨B, 1, none⟩ = some (.int .i64 ky) ∧ w'.cell? ⟨B, 2, none⟩ = some (.int .i64 4) ∧ w'.cell? ⟨B, 3, none⟩ = some (.int .i64 4)) hmx (by rfl) ?_ ?_
                        · rintro ⟨a', w', h'⟩
                          obtain ⟨h1, _⟩ := h'
                          cases h1
                        · have hS : (fun w' => w'.cell? ⟨w.heap.size, 0, none⟩ = some (.pointer (some ⟨p, 0, none⟩)) ∧ w'.cell? ⟨p, 41, none⟩ = some (.map (some ways.m)) ∧ w'.cell? ⟨B, 0, none⟩ = some (.int .i64 kx) ∧ w'.cell? ⟨B, 1, none⟩ = some (.int .i64 ky) ∧ w'.cell? ⟨B, 2, none⟩ = some (.int .i64 4) ∧ w'.cell? ⟨B, 3, none⟩ = some (.int .i64 4)) V3.drew := ⟨f0, f41, f1, f2, f3, f4⟩
                          refine wpAnyH_take (i := 0) (v := ?vBp0) rfl (by kernel_rfl) (by kernel_rfl) (by kernel_rfl) (fun _ _ _ h => h) (Or.inl ⟨by rfl, ?hyBp0⟩) hS ?restBp0
                          case hyBp0 => (intro w hSw; obtain ⟨s0, s1, s2, s3, s4, s5⟩ := hSw; go_simp; try with_reducible rfl)
                          simp only [Act.put, List.setIfInBounds_toArray, List.set_cons_zero, List.set_cons_succ, List.getElem_toArray, List.getElem_cons_zero]
                          refine wpAnyH_take (i := 1) (v := ?vBp1) rfl (by kernel_rfl) (by kernel_rfl) (by kernel_rfl) (fun _ _ _ h => h) (Or.inl ⟨by rfl, ?hyBp1⟩) hS ?restBp1
                          case hyBp1 => (intro w hSw; obtain ⟨s0, s1, s2, s3, s4, s5⟩ := hSw; go_simp; try with_reducible rfl)
                          simp only [Act.put, List.setIfInBounds_toArray, List.set_cons_zero, List.set_cons_succ, List.getElem_toArray, List.getElem_cons_zero, List.getElem_cons_succ]
                          refine wpAnyH_take (i := 2) (v := ?vBp2) rfl (by kernel_rfl) (by kernel_rfl) (by kernel_rfl) (fun _ _ _ h => h) (Or.inl ⟨by rfl, ?hyBp2⟩) hS ?restBp2
                          case hyBp2 => (intro w hSw; obtain ⟨s0, s1, s2, s3, s4, s5⟩ := hSw; go_simp; try with_reducible rfl)
                          simp only [Act.put, List.setIfInBounds_toArray, List.set_cons_zero, List.set_cons_succ, List.getElem_toArray, List.getElem_cons_zero, List.getElem_cons_succ]
                          refine wpAnyH_take (i := 3) (v := ?vBp3) rfl (by kernel_rfl) (by kernel_rfl) (by kernel_rfl) (fun _ _ _ h => h) (Or.inl ⟨by rfl, ?hyBp3⟩) hS ?restBp3
                          case hyBp3 => (intro w hSw; obtain ⟨s0, s1, s2, s3, s4, s5⟩ := hSw; go_simp; try with_reducible rfl)
                          simp only [Act.put, List.setIfInBounds_toArray, List.set_cons_zero, List.set_cons_succ, List.getElem_toArray, List.getElem_cons_zero, List.getElem_cons_succ]
                          refine wpAnyH_take (i := 4) (v := ?vBp4) rfl (by kernel_rfl) (by kernel_rfl) (by kernel_rfl) (fun _ _ _ h => h) (Or.inl ⟨by rfl, ?hyBp4⟩) hS ?restBp4
                          case hyBp4 => (intro w hSw; obtain ⟨s0, s1, s2, s3, s4, s5⟩ := hSw; go_simp; try with_reducible rfl)
                          simp only [Act.put, List.setIfInBounds_toArray, List.set_cons_zero, List.set_cons_succ, List.getElem_toArray, List.getElem_cons_zero, List.getElem_cons_succ]
                          refine wpAnyH_ready (rs := [5]) (by kernel_rfl) (by simp) ?_
                          refine AllReadyH.cons rfl (fun K hK => ?_) AllReadyH.nil
                          go_simp
                          refine HC.out.mono ?_; rintro e w7 ⟨rfl, hE7⟩; obtain ⟨z0, z41, z1, z2, z3, z4⟩ := hE7.out.1
                          refine hK.out _ _ ⟨z0, z41, z1, z2, z3, z4⟩ (fun hS => ?_)
                          clear hK K
                          try simp only [Act.put, List.setIfInBounds_toArray, List.set_cons_zero, List.set_cons_succ, List.getElem_toArray, List.getElem_cons_zero, List.getElem_cons_succ]
                          refine wpAnyH_done (by kernel_rfl) ?_ _
                          gi_wp2_with fail
                          exact hE7.out.2
      case hdone =>
        rintro D W2 hD ⟨hs, hi, h2, h3⟩ hK'
        have HE : Hid (∀ f, Post (W2.putObj D f)) := fun f => HEn.out HTo.out HDt.out q D W2 f hi hK' (Nat.le_trans (by have := lt_of_heap HW3.out.b0; omega) hD)
        have HDf : Hid (W2.heap[D]? = some (.deferred (some []))) := hK'
        clear hi hK' h2 h3
        go_wp2_with fail
        refine ⟨by simp, .inl ⟨_, _, rfl, run_takeDeferred HDf.out, ?_⟩⟩
        exact ⟨_, results_tmp rfl _ _ _, rfl, HE.out _⟩
    · have HPs : Hid (Post W') := HZ.out (h1 rfl) W' hW'.bel
      clear h1 h2 hW' HZ HJ0 HJc HJg HJp HSk HPu HDw HEn HD HOk HOK HW'
      go_wp2_with fail
      exact ⟨_, results_tmp rfl _ _ _, rfl, HPs.out⟩
end
end Go.Proofs.YthcikinkicpicaaGreatDoor
