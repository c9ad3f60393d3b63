import Derived.Test.YthcikinkicpicaaGreatDoorA04
import Derived.Test.YthcikinkicpicaaGreatDoorA10

namespace Go.Proofs.YthcikinkicpicaaGreatDoor
open Go.RowKit

/-- A shader's cells: m steps from g on. -/
def StepCells (w : World) (g m : Nat) (l : List Int) : Prop := 4 * m = l.length ∧ ∃ cur, w.heap[g]? = some (.cells cur 208 (0, 0)) ∧ ∀ j, j < l.length → cur[j]? = some (.int .u8 (l.getD j 0))

theorem steps_at : ∀ (j : Nat) (sh : List Int) (m : Nat), 4 * m = sh.length → shOk sh → badSteps sh = false → j < m → ∃ a b c e, sh.drop (4 * j) = a :: b :: c :: e :: sh.drop (4 * (j + 1)) ∧ wrongB a b c e = false ∧
    (0 ≤ a ∧ a ≤ 8 ∧ 0 ≤ b ∧ b ≤ 255 ∧ (a < 7 → b ≤ 7) ∧ 0 ≤ c ∧ c ≤ 255 ∧ 0 ≤ e ∧ e ≤ 255) ∧ sh.getD (4 * j) 0 = a ∧ sh.getD (4 * j + 1) 0 = b ∧ sh.getD (4 * j + 2) 0 = c ∧ sh.getD (4 * j + 3) 0 = e
  | j, [], m, hl, _, _, hj => by simp at hl; omega
  | j, [a], m, hl, _, _, hj => by simp at hl; omega
  | j, [a, b], m, hl, _, _, hj => by simp at hl; omega
  | j, [a, b, c], m, hl, _, _, hj => by simp at hl; omega
  | 0, a :: b :: c :: e :: rest, m, hl, hok, hbad, hj => by
    rw [badSteps, Bool.or_eq_false_iff] at hbad
    exact ⟨a, b, c, e, by simp, hbad.1, hok.1, by simp, by simp, by simp, by simp⟩
  | j + 1, a :: b :: c :: e :: rest, m, hl, hok, hbad, hj => by
    rw [badSteps, Bool.or_eq_false_iff] at hbad
    obtain ⟨a', b', c', e', h1, h2, h3, h4, h5, h6, h7⟩ := steps_at j rest (m - 1) (by simp at hl; omega) hok.2 hbad.2 (by omega)
    have d1 : 4 * (j + 1) = 4 * j + 4 := by omega
    have d2 : 4 * (j + 1 + 1) = 4 * (j + 1) + 4 := by omega
    refine ⟨a', b', c', e', ?_, h2, h3, ?_, ?_, ?_, ?_⟩
    · rw [d2, d1]; simpa [show 4 * (j + 1) = 4 * j + 4 from by omega] using h1
    · rw [d1]; simpa using h4
    · rw [d1]; simpa using h5
    · rw [d1]; simpa using h6
    · rw [d1]; simpa using h7

theorem regs_ok {a b c e : Int} (h : wrongB a b c e = false) (h0 : 0 ≤ a) (h8 : a ≤ 8) : (a < 6 → b ≤ 7 ∧ c ≤ 7 ∧ e ≤ 7) ∧ (a = 6 → b ≤ 7) ∧ (a = 7 → c ≤ 7 ∧ e ≤ 7) ∧ (a = 8 → c ≤ 7) := by
  unfold wrongB at h
  refine ⟨fun h1 => ?_, fun h1 => ?_, fun h1 => ?_, fun h1 => ?_⟩
  · rw [if_neg (by omega), if_neg (by omega), if_neg (by omega)] at h
    simp [aboveB] at h
    omega
  · subst h1; simpa using h
  · subst h1; simpa using h
  · subst h1; simpa using h

theorem kept_setS {w : World} (b o : Nat) (v : Value) : Kept (· = b) w (w.setCell ⟨b, o, none⟩ v) := (Kept.refl (· = b) w).set (.inl rfl) o v

theorem ne_types' {w : World} {a b : Nat} {c c' : Array Value} {T T' : TypeId} {f f' : Nat × Nat} (h : w.heap[a]? = some (.cells c T f)) (h' : w.heap[b]? = some (.cells c' T' f')) (ht : T ≠ T') : a ≠ b := by
  rintro rfl
  rw [h] at h'
  simp at h'
  exact ht h'.2.1

structure ShI (S g m : Nat) (sh : List Int) (x y cr cg cb : Int) (w : World) (fin : Int × Option (List Int × Int)) (j : Nat) (r : List Int) (z : Int) (wr : World) : Prop where
  rl : r.length = 8
  bd : ∀ i, -2147483648 ≤ r.getD i 0 ∧ r.getD i 0 ≤ 2147483647
  reg : ∃ cur, wr.heap[w.heap.size]? = some (.cells cur 256 (0, 0)) ∧ cur = (r.map (Value.int .i64)).toArray
  smp : wr.heap[S]? = some (.cells #[.int .i64 x, .int .i64 y, .int .u8 cr, .int .u8 cg, .int .u8 cb, .int .u16 z] 226 (0, 0))
  z0 : 0 ≤ z
  z1 : z ≤ 65535
  stp : StepCells wr g m sh
  kp : Kept (· = S) w wr
  run : shRun (sh.drop (4 * j)) r z j = fin

theorem shRun_skip (b c e : Int) (rest r : List Int) (z k : Int) (h : ¬ reg r c < reg r e) : shRun (7 :: b :: c :: e :: rest) r z k = shRun rest r z (k + 1) := by
  rw [shRun, if_neg (by rintro ⟨_, h'⟩; exact h h')]; simp
theorem shRun_stop (b c e : Int) (rest r : List Int) (z k : Int) (h : reg r c < reg r e) : shRun (7 :: b :: c :: e :: rest) r z k = (k + 1, none) := by
  rw [shRun, if_pos ⟨rfl, h⟩]
theorem shRun_depth8 (b c e : Int) (rest r : List Int) (z k : Int) : shRun (8 :: b :: c :: e :: rest) r z k = shRun rest r (within (reg r c) 0 65535) (k + 1) := by
  rw [shRun, if_neg (by rintro ⟨h', _⟩; omega)]; simp
theorem shRun_reg (a b c e : Int) (rest r : List Int) (z k : Int) (h : a < 7) : shRun (a :: b :: c :: e :: rest) r z k = shRun rest (r.set b.toNat (within (shVal a c e (reg r c) (reg r e)) (-2147483648) 2147483647)) z (k + 1) := by
  rw [shRun, if_neg (by rintro ⟨h', _⟩; omega), if_pos h, if_neg (by omega)]

theorem reg_at {r : List Int} {C : Nat} (h : C ≤ 7) : reg r (C : Int) = r.getD C 0 := by unfold reg; congr 1; omega

theorem regs_cell {wr : World} {R : Nat} {r : List Int} (hl : r.length = 8) {cur : Array Value} (h : wr.heap[R]? = some (.cells cur 256 (0, 0))) (hc : cur = (r.map (Value.int .i64)).toArray) : ∀ i, i < 8 → wr.cell? ⟨R, i, none⟩ = some (.int .i64 (r.getD i 0)) := by
  intro i hi
  rw [cell_of h, hc]
  simp [List.getD_eq_getElem?_getD, show i < r.length from by omega]

theorem StepCells.kept {S : Nat → Prop} {w w' : World} {g m : Nat} {l : List Int} (h : StepCells w g m l) (hk : Kept S w w') (hS : ∀ cur, w.heap[g]? = some (.cells cur 208 (0, 0)) → ¬ S g) : StepCells w' g m l := by
  obtain ⟨h1, cur, hg, hc⟩ := h
  exact ⟨h1, cur, (hk.block _ (lt_of_heap hg) (hS cur hg)).trans hg, hc⟩

/-- What a shader leaves. -/
def ShPost (S _m : Nat) (x y : Int) (w : World) (fin : Int × Option (List Int × Int)) (e : Ending) (w' : World) : Prop :=
  Kept (· = S) w w' ∧ match fin with
    | (k, none) => e = .returned (.tuple #[.int .i64 k, .bool false])
    | (k, some (r, z)) => e = .returned (.tuple #[.int .i64 k, .bool true]) ∧ w'.heap[S]? = some (.cells #[.int .i64 x, .int .i64 y, .int .u8 (within (r.getD 0 0) 0 255), .int .u8 (within (r.getD 1 0) 0 255), .int .u8 (within (r.getD 2 0) 0 255), .int .u16 z] 226 (0, 0))

theorem cidx0 (a b c : Int) (w : World) : Sem.run Tryz.prog (Instr.index 120 (.agg #[.int .u8 a, .int .u8 b, .int .u8 c]) (.int .i64 0)) w = .ok (.int .u8 a) w := by kernel_rfl
theorem cidx1 (a b c : Int) (w : World) : Sem.run Tryz.prog (Instr.index 120 (.agg #[.int .u8 a, .int .u8 b, .int .u8 c]) (.int .i64 1)) w = .ok (.int .u8 b) w := by kernel_rfl
theorem cidx2 (a b c : Int) (w : World) : Sem.run Tryz.prog (Instr.index 120 (.agg #[.int .u8 a, .int .u8 b, .int .u8 c]) (.int .i64 2)) w = .ok (.int .u8 c) w := by kernel_rfl

set_option maxRecDepth 100000 in
set_option maxHeartbeats 1000000 in
theorem shade_in (S g m : Nat) (sh : List Int) (d : Dot) (x y : Int) (w : World) (hS : w.heap[S]? = some (.cells #[.int .i64 x, .int .i64 y, .int .u8 d.r, .int .u8 d.g, .int .u8 d.b, .int .u16 d.d] 226 (0, 0)))
    (hst : StepCells w g m sh) (hm : m ≤ 16) (hsh : shOk sh) (hbad : badSteps sh = false) (hd : d.Ok) (x0 : 0 ≤ x) (x1 : x < 24) (y0 : 0 ≤ y) (y1 : y < 24) :
    Calls Tryz.prog 145 #[.pointer (some ⟨S, 0, none⟩), .slice (some ⟨g, 0, none⟩) m m] w (ShPost S m x y w (shRun sh [d.r, d.g, d.b, x, y, d.d, 0, 0] d.d 0)) := by
  have ls := lt_of_heap hS
  have cs0 := cell_of hS
  have cs : ∀ o : Nat, (w.alloc (.cells #[.int .i64 0, .int .i64 0, .int .i64 0, .int .i64 0, .int .i64 0, .int .i64 0, .int .i64 0, .int .i64 0] 256)).cell? ⟨S, o, none⟩ = _ := fun o => (World.cell?_alloc_past _ _ _ ls).trans (cs0 o)
  have HF : Hid (∃ f, f = shRun sh [d.r, d.g, d.b, x, y, d.d, 0, 0] d.d 0) := ⟨_, rfl⟩
  have HS : Hid (∀ ob, (w.alloc ob).heap[S]? = some (.cells #[.int .i64 x, .int .i64 y, .int .u8 d.r, .int .u8 d.g, .int .u8 d.b, .int .u16 d.d] 226 (0, 0))) := fun ob => (heap_alloc_old ls ob).trans hS
  have HT : Hid (StepCells w g m sh) := hst
  have hSR : S ≠ w.heap.size := by omega
  have d0 := cidx0 d.r d.g d.b
  have d1 := cidx1 d.r d.g d.b
  have d2 := cidx2 d.r d.g d.b
  have v0 : wrap64 d.r = d.r := w64 (by have := hd.r0; have := hd.r1; omega)
  have v1 : wrap64 d.g = d.g := w64 (by have := hd.g0; have := hd.g1; omega)
  have v2 : wrap64 d.b = d.b := w64 (by have := hd.b0; have := hd.b1; omega)
  clear hst cs0 hS
  go_enter Tryz.func145, Tryz.ntmps145
  go_wp2_with fail
  go_loopg [16] 3 (fun n' i wr => ∃ j : Nat, j + n' = 3 ∧ i = .int .i64 j ∧ wr = ((w.alloc (.cells #[.int .i64 (if 0 < j then d.r else 0), .int .i64 (if 1 < j then d.g else 0), .int .i64 (if 2 < j then d.b else 0), .int .i64 0, .int .i64 0, .int .i64 0, .int .i64 0, .int .i64 0] 256))))
  case atStart => exact ⟨0, rfl, rfl, rfl⟩
  case round =>
    obtain ⟨j, hj, rfl, rfl⟩ := hrel
    have hj' : j = 0 ∨ j = 1 ∨ j = 2 ∨ j = 3 := by omega
    rcases hj' with rfl | rfl | rfl | rfl
    · obtain rfl : gk = 3 := by omega
      go_wp2_with fail
      go_roundg 2
      case rel => exact ⟨1, by omega, by go_num, by simp⟩
      case measure => omega
    · obtain rfl : gk = 2 := by omega
      go_wp2_with fail
      go_roundg 1
      case rel => exact ⟨2, by omega, by go_num, by simp⟩
      case measure => omega
    · obtain rfl : gk = 1 := by omega
      go_wp2_with fail
      go_roundg 0
      case rel => exact ⟨3, by omega, by go_num, by simp⟩
      case measure => omega
    · obtain rfl : gk = 0 := by omega
      have cs1 : ∀ (ob : Obj) (o : Nat), (w.alloc ob).cell? ⟨S, o, none⟩ = #[Value.int .i64 x, .int .i64 y, .int .u8 d.r, .int .u8 d.g, .int .u8 d.b, .int .u16 d.d][o]? := fun ob o => cell_of (HS.out ob) o
      have vd : IntKind.i64.wrap d.d = d.d := k64 (by have := hd.d0; have := hd.d1; omega)
      go_wp2_with fail
      go_region_held (fun w2 => w2.cell? ⟨S, 0, none⟩ = some (.int .i64 x) ∧ w2.cell? ⟨S, 1, none⟩ = some (.int .i64 y) ∧ w2.cell? ⟨S, 5, none⟩ = some (.int .u16 d.d)) (go_keep) (fail)
      all_goals
        have HI : Hid (ShI S g m sh x y d.r d.g d.b w (shRun sh [d.r, d.g, d.b, x, y, d.d, 0, 0] d.d 0) 0 [d.r, d.g, d.b, x, y, d.d, 0, 0] d.d
            (w.alloc (.cells #[.int .i64 d.r, .int .i64 d.g, .int .i64 d.b, .int .i64 x, .int .i64 y, .int .i64 d.d, .int .i64 0, .int .i64 0] 256)).drew) := by
          have h1 := hd.r0; have h2 := hd.r1; have h3 := hd.g0; have h4 := hd.g1; have h5 := hd.b0; have h6 := hd.b1; have h7 := hd.d0; have h8 := hd.d1
          refine ⟨rfl, ?_, ⟨_, heap_alloc_new _ _, rfl⟩, HS.out _, h7, h8, ?_, ((Kept.refl _ w).alloc _).drew, rfl⟩
          · intro i
            match i with
            | 0 => show _ ≤ d.r ∧ d.r ≤ _; omega
            | 1 => show _ ≤ d.g ∧ d.g ≤ _; omega
            | 2 => show _ ≤ d.b ∧ d.b ≤ _; omega
            | 3 => show _ ≤ x ∧ x ≤ _; omega
            | 4 => show _ ≤ y ∧ y ≤ _; omega
            | 5 => show _ ≤ d.d ∧ d.d ≤ _; omega
            | 6 => show _ ≤ (0 : Int) ∧ (0 : Int) ≤ _; omega
            | 7 => show _ ≤ (0 : Int) ∧ (0 : Int) ≤ _; omega
            | i + 8 => show _ ≤ (0 : Int) ∧ (0 : Int) ≤ _; omega
          · exact HT.out.kept (((Kept.refl (fun _ => False) w).alloc _).drew) (fun _ _ => id)
        have HL : Hid (4 * m = sh.length) := HT.out.1
        generalize shRun sh [d.r, d.g, d.b, x, y, d.d, 0, 0] d.d 0 = fin at *
        clear cs1 cs d0 d1 d2 v0 v1 v2 HS HT HF
        go_wp2_with fail
        go_loopg [44] m (fun n' i wr => ∃ (j : Nat) (r : List Int) (z : Int), j + n' = m ∧ i = .int .i64 j ∧ ShI S g m sh x y d.r d.g d.b w fin j r z wr)
        case atStart => exact ⟨0, _, _, by omega, rfl, HI.out⟩
        case round =>
          obtain ⟨j, r, z, hj2, rfl, hI⟩ := hrel
          clear HI
          by_cases hlt : j < m
          · obtain ⟨n', rfl⟩ : ∃ n', gk = n' + 1 := ⟨gk - 1, by omega⟩
            obtain ⟨a, b, c, e, hdrop, hwr, ⟨a0, a8, b0, b255, hb7, c0, c255, e0, e255⟩, ga, gb, gc, ge⟩ := steps_at j sh m HL.out hsh hbad hlt
            obtain ⟨hl4, cur, hg, hcur⟩ := hI.stp
            have s0 : wr.cell? ⟨g, j * 4, none⟩ = some (.int .u8 a) := by rw [cell_of hg, Nat.mul_comm, hcur _ (by omega), ga]
            have s1 : wr.cell? ⟨g, j * 4 + 1, none⟩ = some (.int .u8 b) := by rw [cell_of hg, Nat.mul_comm, hcur _ (by omega), gb]
            have s2 : wr.cell? ⟨g, j * 4 + 2, none⟩ = some (.int .u8 c) := by rw [cell_of hg, Nat.mul_comm, hcur _ (by omega), gc]
            have s3 : wr.cell? ⟨g, j * 4 + 3, none⟩ = some (.int .u8 e) := by rw [cell_of hg, Nat.mul_comm, hcur _ (by omega), ge]
            obtain ⟨rc, hrg, hrc⟩ := hI.reg
            have hcell := regs_cell hI.rl hrg hrc
            have lR := lt_of_heap hrg
            have lS := lt_of_heap hI.smp
            obtain ⟨q1, q2, q3, q4⟩ := regs_ok hwr a0 a8
            have i1 : (j : Int) < (m : Int) := by omega
            have HRUN : Hid (shRun (a :: b :: c :: e :: sh.drop (4 * (j + 1))) r z j = fin) := by have := hI.run; rw [hdrop] at this; exact this
            have HI : Hid (ShI S g m sh x y d.r d.g d.b w fin j r z wr) := hI
            have hal : ∀ (ob : Obj) (i : Nat), i < 8 → (wr.alloc ob).cell? ⟨w.heap.size, i, none⟩ = some (.int .i64 (r.getD i 0)) := fun ob i hi => (World.cell?_alloc_past _ _ _ lR).trans (hcell i hi)
            have hgS : g ≠ S := ne_types' hg hI.smp (by decide)
            have hgR : g ≠ w.heap.size := ne_types' hg hrg (by decide)
            -- a world behind a step that turned nothing but the registers and the sample
            have HN : Hid (∀ (r' : List Int) (z' : Int) (W : World), r'.length = 8 → (∀ i, -2147483648 ≤ r'.getD i 0 ∧ r'.getD i 0 ≤ 2147483647) → 0 ≤ z' → z' ≤ 65535 → W.heap[w.heap.size]? = some (.cells (r'.map (Value.int .i64)).toArray 256 (0, 0)) →
                W.heap[S]? = some (.cells #[.int .i64 x, .int .i64 y, .int .u8 d.r, .int .u8 d.g, .int .u8 d.b, .int .u16 z'] 226 (0, 0)) → Kept (fun i => i = S ∨ i = w.heap.size) wr W → shRun (sh.drop (4 * (j + 1))) r' z' ((j : Int) + 1) = fin →
                ShI S g m sh x y d.r d.g d.b w fin (j + 1) r' z' W) := by
              intro r' z' W h1 h2 h3 h4 h5 h6 h7 h8
              refine ⟨h1, h2, ⟨_, h5, rfl⟩, h6, h3, h4, HI.out.stp.kept h7 (fun _ _ h => by rcases h with h | h; exact hgS h; exact hgR h), ?_, by push_cast; exact h8⟩
              have hk := HI.out.kp
              exact ⟨h7.os.trans hk.os, h7.tape.trans hk.tape, h7.output.trans hk.output, Nat.le_trans hk.size h7.size, fun i hi hS => (h7.block i (Nat.lt_of_lt_of_le hi hk.size) (by rintro (h | h); exact hS h; omega)).trans (hk.block i hi hS)⟩
            have hsm := hI.smp
            have hbd := hI.bd
            have hrl := hI.rl
            have hz0 := hI.z0
            have hz1 := hI.z1
            subst hrc
            clear hI ga gb gc ge hwr hdrop hcur hl4
            by_cases h7 : a = 7
            · subst h7
              obtain ⟨hc7, he7⟩ := q3 rfl
              obtain ⟨C, rfl⟩ := Int.eq_ofNat_of_zero_le c0
              obtain ⟨E, rfl⟩ := Int.eq_ofNat_of_zero_le e0
              have k1 := fun ob => hal ob C (by omega)
              have k2 := fun ob => hal ob E (by omega)
              have i2 : (C : Int) < 8 := by omega
              have i3 : (E : Int) < 8 := by omega
              have r1 := reg_at (r := r) (C := C) (by omega)
              have r2 := reg_at (r := r) (C := E) (by omega)
              by_cases hcmp : r.getD C 0 < r.getD E 0
              · have HP : Hid (fin = ((j : Int) + 1, none)) := by show _ = _; rw [← HRUN.out]; exact shRun_stop _ _ _ _ _ _ _ (by rw [r1, r2]; exact hcmp)
                have HK : Hid (Kept (· = S) w wr) := HI.out.kp
                generalize r.getD C 0 = u at *
                generalize r.getD E 0 = v at *
                clear hal hcell HN HRUN hbd r1 r2
                go_wp2_with fail
                go_quiet (fail)
                go_wp2_with fail
                refine bodyPost_ret (v := .tuple #[.int .i64 ((j : Int) + 1), .bool false]) (by simp [results, Tryz.results145, go_sem]) rfl ?_
                refine ⟨(HK.out.alloc _).drewN _, ?_⟩
                rw [HP.out]
              · generalize hu : r.getD C 0 = u at *
                generalize hv : r.getD E 0 = v at *
                have hn : ¬ reg r (C : Int) < reg r (E : Int) := by rw [r1, r2]; exact hcmp
                have HX : Hid (∀ ob N, ShI S g m sh x y d.r d.g d.b w fin (j + 1) r z ((wr.alloc ob).drewN N)) := fun ob N =>
                  HN.out r z _ hrl hbd hz0 hz1 ((heap_alloc_old lR ob).trans hrg) ((heap_alloc_old lS ob).trans hsm) (((Kept.refl _ wr).alloc ob).drewN N) (by rw [← HRUN.out]; exact (shRun_skip _ _ _ _ _ _ _ hn).symm)
                clear hal hcell HN HRUN hbd r1 r2 hn
                go_wp2_with fail
                go_quiet (fail)
                go_wp2_with fail
                go_roundg n'
                case rel => exact ⟨j + 1, r, z, by omega, by go_num, HX.out _ _⟩
                case measure => omega
            by_cases h8 : a = 8
            · subst h8
              have hc7 := q4 rfl
              obtain ⟨C, rfl⟩ := Int.eq_ofNat_of_zero_le c0
              have k1 := fun ob => hal ob C (by omega)
              have i2 : (C : Int) < 8 := by omega
              have r1 := reg_at (r := r) (C := C) (by omega)
              have hw := within_bd (r.getD C 0) 0 65535 (by omega)
              have w16 : IntKind.u16.wrap (within (r.getD C 0) 0 65535) = within (r.getD C 0) 0 65535 := IntWalk.u16_in _ hw
              have c5 : ∀ ob, (wr.alloc ob).cell? ⟨S, 5, none⟩ = some (.int .u16 z) := fun ob => (World.cell?_alloc_past _ _ _ lS).trans (cell_of hsm 5)
              have f5 : ∀ ob, (wr.alloc ob).frozen? ⟨S, 5, none⟩ = false := fun ob => frozen_of ((heap_alloc_old lS ob).trans hsm) 5
              have hSP : S ≠ wr.heap.size := by omega
              have HX : Hid (∀ ob, ShI S g m sh x y d.r d.g d.b w fin (j + 1) r (within (r.getD C 0) 0 65535) ((wr.setCell ⟨S, 5, none⟩ (.int .u16 (within (r.getD C 0) 0 65535))).alloc ob)) := fun ob => by
                refine HN.out r _ _ hrl hbd hw.1 hw.2 ?_ ?_ ?_ (by rw [← HRUN.out, shRun_depth8, r1])
                · rw [heap_alloc_old (by rw [hs_set]; exact lR), heap_set_ne (by omega)]; exact hrg
                · rw [heap_alloc_old (by rw [hs_set]; exact lS), heap_set_same hsm]; rfl
                · exact ((Kept.refl _ wr).set (.inl (.inl rfl)) _ _).alloc _
              have hbr := fun w' => bring_any (r.getD C 0) 0 65535 w' (by omega)
              generalize within (r.getD C 0) 0 65535 = zz at *
              have HBR : Hid (∀ w', Calls Tryz.prog 152 #[.int .i64 (r.getD C 0), .int .i64 0, .int .i64 65535] w' fun e w'' => e = .returned (.int .i64 zz) ∧ w'' = w') := hbr
              clear hbr
              generalize r.getD C 0 = u at *
              clear hal hcell HN HRUN hbd r1
              go_wp2_with fail
              refine (HBR.out _).mono ?_
              rintro e' w' ⟨rfl, rfl⟩
              go_wp2_with fail
              go_roundg n'
              case rel => exact ⟨j + 1, r, zz, by omega, by go_num, HX.out _⟩
              case measure => omega
            · have ha7 : a < 7 := by omega
              have hbb := hb7 ha7
              obtain ⟨B, rfl⟩ := Int.eq_ofNat_of_zero_le b0
              have iB : (B : Int) < 8 := by omega
              have n7 : (a == 7) = false := by simpa using h7
              have n8 : (a == 8) = false := by simpa using h8
              have hw := within_bd (shVal a c e (reg r c) (reg r e)) (-2147483648) 2147483647 (by omega)
              have hrk : ∀ w2, (∀ i, i < 8 → w2.cell? ⟨w.heap.size, i, none⟩ = some (.int .i64 (r.getD i 0))) → Calls Tryz.prog 153 #[.agg #[.int .u8 a, .int .u8 B, .int .u8 c, .int .u8 e], .pointer (some ⟨w.heap.size, 0, none⟩)] w2 fun q w' =>
                  q = .returned (.int .i64 (within (shVal a c e (reg r c) (reg r e)) (-2147483648) 2147483647)) ∧ Below w2.heap.size w2 w' := fun w2 h2 =>
                reckon_any w.heap.size a B c e r w2 hrl h2 hbd a0 ha7 c0 c255 e0 e255 (fun h6 => (q1 (by omega)).2.1) (fun h6 => (q1 (by omega)).2.2)
              have HX : Hid (∀ W, Below wr.heap.size wr W → ShI S g m sh x y d.r d.g d.b w fin (j + 1) (r.set B (within (shVal a c e (reg r c) (reg r e)) (-2147483648) 2147483647)) z (W.setCell ⟨w.heap.size, B, none⟩ (.int .i64 (within (shVal a c e (reg r c) (reg r e)) (-2147483648) 2147483647)))) := fun W hW => by
                refine HN.out _ z _ (by simpa using hrl) ?_ hz0 hz1 ?_ ?_ ?_ (by rw [← HRUN.out]; exact (shRun_reg a B c e _ r z j ha7).symm)
                · intro i
                  rw [List.getD_eq_getElem?_getD, List.getElem?_set]
                  split
                  · split
                    · simpa using hw
                    · simp
                  · rw [← List.getD_eq_getElem?_getD]; exact hbd i
                · rw [heap_set_same ((hW.block _ lR).trans hrg)]
                  simp [List.map_set]
                · rw [heap_set_ne (by omega)]; exact (hW.block _ lS).trans hsm
                · exact (((Kept.refl _ wr).below hW).trans ((Kept.refl _ W).set (.inl (.inr rfl)) _ _))
              generalize within (shVal a c e (reg r c) (reg r e)) (-2147483648) 2147483647 = vv at *
              have HC : Hid (∀ w2, Below wr.heap.size wr w2 → w2.heap[wr.heap.size]? = some (.cells #[.int .u8 a, .int .u8 B, .int .u8 c, .int .u8 e] 208 (0, 0)) → Calls Tryz.prog 153 #[.agg #[.int .u8 a, .int .u8 B, .int .u8 c, .int .u8 e], .pointer (some ⟨w.heap.size, 0, none⟩)] w2 fun q w' =>
                  q = .returned (.int .i64 vv) ∧ Below wr.heap.size wr w' ∧ (w'.cell? ⟨wr.heap.size, 0, none⟩ = some (.int .u8 a) ∧ w'.cell? ⟨wr.heap.size, 1, none⟩ = some (.int .u8 B) ∧ w'.cell? ⟨wr.heap.size, 2, none⟩ = some (.int .u8 c) ∧ w'.cell? ⟨wr.heap.size, 3, none⟩ = some (.int .u8 e)) ∧
                    w'.cell? ⟨w.heap.size, B, none⟩ = some (.int .i64 (r.getD B 0)) ∧ w'.frozen? ⟨w.heap.size, B, none⟩ = false) := by
                intro w2 h2 hp
                refine (hrk w2 (fun i hi => (h2.cell (p := ⟨w.heap.size, i, none⟩) lR).trans (hcell i hi))).mono ?_
                rintro q w' ⟨rfl, hb⟩
                have hp' := (hb.block _ (lt_of_heap hp)).trans hp
                have hr' := (hb.block _ (Nat.lt_of_lt_of_le lR h2.size)).trans ((h2.block _ lR).trans hrg)
                exact ⟨rfl, h2.trans (hb.mono h2.size), ⟨cell_of hp' 0, cell_of hp' 1, cell_of hp' 2, cell_of hp' 3⟩, (h2.trans (hb.mono h2.size)).cell (p := ⟨w.heap.size, B, none⟩) lR |>.trans (hcell B (by omega)), frozen_of hr' B⟩
              generalize r.getD B 0 = ob0 at *
              have hPR : w.heap.size ≠ wr.heap.size := by omega
              clear hal hcell HN HRUN hbd hrk hw q1 q2 q3 q4 hb7
              go_wp2_with fail
              go_region_held (fun w2 => w2.cell? ⟨wr.heap.size, 0, none⟩ = some (.int .u8 a) ∧ w2.cell? ⟨wr.heap.size, 1, none⟩ = some (.int .u8 B) ∧ w2.cell? ⟨wr.heap.size, 2, none⟩ = some (.int .u8 c) ∧ w2.cell? ⟨wr.heap.size, 3, none⟩ = some (.int .u8 e)) (go_keep)
                ((go_at_call 153; refine (HC.out _ below1.drew (by exact heap_alloc_new _ _)).mono ?_; rintro q w' ⟨rfl, hbw, ⟨p0, p1, p2, p3⟩, pB, fB⟩))
              all_goals
                go_wp2_with fail
                go_roundg n'
                case rel => exact ⟨j + 1, _, z, by omega, by go_num, HX.out w' hbw⟩
                case measure => omega
          · obtain rfl : gk = 0 := by omega
            obtain rfl : j = m := by omega
            have hfin : fin = ((j : Int), some (r, z)) := by
              have := hI.run
              rw [HL.out, List.drop_length] at this
              rw [← this]; rfl
            have hsm := hI.smp
            have hkp := hI.kp
            obtain ⟨rc, hrg, hrc⟩ := hI.reg
            have hcell := regs_cell hI.rl hrg hrc
            have hSR' : w.heap.size ≠ S := by omega
            have HF : Hid (∀ W, Kept (· = S) w W → W.heap[S]? = some (.cells #[.int .i64 x, .int .i64 y, .int .u8 (within (r.getD 0 0) 0 255), .int .u8 (within (r.getD 1 0) 0 255), .int .u8 (within (r.getD 2 0) 0 255), .int .u16 z] 226 (0, 0)) → ShPost S j x y w fin (.returned (.tuple #[.int .i64 j, .bool true])) W) := by
              intro W h1 h2
              refine ⟨h1, ?_⟩
              rw [hfin]
              exact ⟨rfl, h2⟩
            have w0 : IntKind.u8.wrap (within (r.getD 0 0) 0 255) = within (r.getD 0 0) 0 255 := k8 (within_bd _ 0 255 (by omega))
            have w1 : IntKind.u8.wrap (within (r.getD 1 0) 0 255) = within (r.getD 1 0) 0 255 := k8 (within_bd _ 0 255 (by omega))
            have w2 : IntKind.u8.wrap (within (r.getD 2 0) 0 255) = within (r.getD 2 0) 0 255 := k8 (within_bd _ 0 255 (by omega))
            have B0 : Hid (∀ w', Calls Tryz.prog 152 #[.int .i64 (r.getD 0 0), .int .i64 0, .int .i64 255] w' fun e w'' => e = .returned (.int .i64 (within (r.getD 0 0) 0 255)) ∧ w'' = w') := fun w' => bring_any _ 0 255 w' (by omega)
            have B1 : Hid (∀ w', Calls Tryz.prog 152 #[.int .i64 (r.getD 1 0), .int .i64 0, .int .i64 255] w' fun e w'' => e = .returned (.int .i64 (within (r.getD 1 0) 0 255)) ∧ w'' = w') := fun w' => bring_any _ 0 255 w' (by omega)
            have B2 : Hid (∀ w', Calls Tryz.prog 152 #[.int .i64 (r.getD 2 0), .int .i64 0, .int .i64 255] w' fun e w'' => e = .returned (.int .i64 (within (r.getD 2 0) 0 255)) ∧ w'' = w') := fun w' => bring_any _ 0 255 w' (by omega)
            have h0 := hcell 0 (by omega)
            have h1 := hcell 1 (by omega)
            have h2 := hcell 2 (by omega)
            clear hI hcell hfin hrc
            generalize within (r.getD 0 0) 0 255 = g0 at *
            generalize within (r.getD 1 0) 0 255 = g1 at *
            generalize within (r.getD 2 0) 0 255 = g2 at *
            generalize r.getD 0 0 = u0 at *
            generalize r.getD 1 0 = u1 at *
            generalize r.getD 2 0 = u2 at *
            have H3 : Hid (wr.cell? ⟨w.heap.size, 0, none⟩ = some (.int .i64 u0) ∧ wr.cell? ⟨w.heap.size, 1, none⟩ = some (.int .i64 u1) ∧ wr.cell? ⟨w.heap.size, 2, none⟩ = some (.int .i64 u2)) := ⟨h0, h1, h2⟩
            have HKP : Hid (Kept (· = S) w wr) := hkp
            have HSM : Hid (wr.heap[S]? = some (.cells #[.int .i64 x, .int .i64 y, .int .u8 d.r, .int .u8 d.g, .int .u8 d.b, .int .u16 z] 226 (0, 0))) := hsm
            clear h0 h1 h2 hkp hsm hrg
            go_wp2_with fail
            go_loopg [81] 3 (fun n' i wq => ∃ t : Nat, t + n' = 3 ∧ i = .int .i64 t ∧ (wq.cell? ⟨w.heap.size, 0, none⟩ = some (.int .i64 u0) ∧ wq.cell? ⟨w.heap.size, 1, none⟩ = some (.int .i64 u1) ∧ wq.cell? ⟨w.heap.size, 2, none⟩ = some (.int .i64 u2)) ∧ Kept (· = S) w wq ∧
              wq.heap[S]? = some (.cells #[.int .i64 x, .int .i64 y, .int .u8 (if 0 < t then g0 else d.r), .int .u8 (if 1 < t then g1 else d.g), .int .u8 (if 2 < t then g2 else d.b), .int .u16 z] 226 (0, 0)))
            case atStart => exact ⟨0, rfl, rfl, H3.out, HKP.out, HSM.out⟩
            case round =>
              obtain ⟨t, ht, rfl, ⟨h0, h1, h2⟩, hkp, hsm⟩ := hrel
              clear H3 HKP HSM
              have ht' : t = 0 ∨ t = 1 ∨ t = 2 ∨ t = 3 := by omega
              rcases ht' with rfl | rfl | rfl | rfl
              · obtain rfl : gk = 3 := by omega
                have cS := cell_of hsm
                have fS := frozen_of hsm
                have HSM : Hid (wr.heap[S]? = some (.cells #[.int .i64 x, .int .i64 y, .int .u8 (if 0 < 0 then g0 else d.r), .int .u8 (if 1 < 0 then g1 else d.g), .int .u8 (if 2 < 0 then g2 else d.b), .int .u16 z] 226 (0, 0))) := hsm
                have HKP : Hid (Kept (· = S) w wr) := hkp
                clear hsm hkp
                go_wp2_with fail
                go_region_held (fun w2 => w2.cell? ⟨w.heap.size, 0, none⟩ = some (.int .i64 u0)) (go_keep) ((go_at_call 152; refine (B0.out _).mono ?_; rintro e' w' ⟨rfl, rfl⟩))
                all_goals
                  go_wp2_with fail
                  go_roundg 2
                  case rel =>
                    have hblk : (wr.setCell ⟨S, 2, none⟩ (.int .u8 g0)).heap[w.heap.size]? = wr.heap[w.heap.size]? := heap_set_ne hSR' _ _
                    have hc : ∀ i, (wr.setCell ⟨S, 2, none⟩ (.int .u8 g0)).drew.cell? ⟨w.heap.size, i, none⟩ = wr.cell? ⟨w.heap.size, i, none⟩ := fun i => World.cell?_of_block (a := ⟨w.heap.size, i, none⟩) hblk
                    exact ⟨1, by omega, by go_num, ⟨(hc 0).trans h0, (hc 1).trans h1, (hc 2).trans h2⟩, (HKP.out.trans (kept_setS S _ _)).drew, (heap_set_same HSM.out _ _).trans (by simp)⟩
                  case measure => omega
              · obtain rfl : gk = 2 := by omega
                have cS := cell_of hsm
                have fS := frozen_of hsm
                have HSM : Hid (wr.heap[S]? = some (.cells #[.int .i64 x, .int .i64 y, .int .u8 (if 0 < 1 then g0 else d.r), .int .u8 (if 1 < 1 then g1 else d.g), .int .u8 (if 2 < 1 then g2 else d.b), .int .u16 z] 226 (0, 0))) := hsm
                have HKP : Hid (Kept (· = S) w wr) := hkp
                clear hsm hkp
                go_wp2_with fail
                go_region_held (fun w2 => w2.cell? ⟨w.heap.size, 1, none⟩ = some (.int .i64 u1)) (go_keep) ((go_at_call 152; refine (B1.out _).mono ?_; rintro e' w' ⟨rfl, rfl⟩))
                all_goals
                  go_wp2_with fail
                  go_roundg 1
                  case rel =>
                    have hblk : (wr.setCell ⟨S, 3, none⟩ (.int .u8 g1)).heap[w.heap.size]? = wr.heap[w.heap.size]? := heap_set_ne hSR' _ _
                    have hc : ∀ i, (wr.setCell ⟨S, 3, none⟩ (.int .u8 g1)).drew.cell? ⟨w.heap.size, i, none⟩ = wr.cell? ⟨w.heap.size, i, none⟩ := fun i => World.cell?_of_block (a := ⟨w.heap.size, i, none⟩) hblk
                    exact ⟨2, by omega, by go_num, ⟨(hc 0).trans h0, (hc 1).trans h1, (hc 2).trans h2⟩, (HKP.out.trans (kept_setS S _ _)).drew, (heap_set_same HSM.out _ _).trans (by simp)⟩
                  case measure => omega
              · obtain rfl : gk = 1 := by omega
                have cS := cell_of hsm
                have fS := frozen_of hsm
                have HSM : Hid (wr.heap[S]? = some (.cells #[.int .i64 x, .int .i64 y, .int .u8 (if 0 < 2 then g0 else d.r), .int .u8 (if 1 < 2 then g1 else d.g), .int .u8 (if 2 < 2 then g2 else d.b), .int .u16 z] 226 (0, 0))) := hsm
                have HKP : Hid (Kept (· = S) w wr) := hkp
                clear hsm hkp
                go_wp2_with fail
                go_region_held (fun w2 => w2.cell? ⟨w.heap.size, 2, none⟩ = some (.int .i64 u2)) (go_keep) ((go_at_call 152; refine (B2.out _).mono ?_; rintro e' w' ⟨rfl, rfl⟩))
                all_goals
                  go_wp2_with fail
                  go_roundg 0
                  case rel =>
                    have hblk : (wr.setCell ⟨S, 4, none⟩ (.int .u8 g2)).heap[w.heap.size]? = wr.heap[w.heap.size]? := heap_set_ne hSR' _ _
                    have hc : ∀ i, (wr.setCell ⟨S, 4, none⟩ (.int .u8 g2)).drew.cell? ⟨w.heap.size, i, none⟩ = wr.cell? ⟨w.heap.size, i, none⟩ := fun i => World.cell?_of_block (a := ⟨w.heap.size, i, none⟩) hblk
                    exact ⟨3, by omega, by go_num, ⟨(hc 0).trans h0, (hc 1).trans h1, (hc 2).trans h2⟩, (HKP.out.trans (kept_setS S _ _)).drew, (heap_set_same HSM.out _ _).trans (by simp)⟩
                  case measure => omega
              · obtain rfl : gk = 0 := by omega
                go_wp2_with fail
                refine bodyPost_ret (v := .tuple #[.int .i64 j, .bool true]) (by simp [results, Tryz.results145, go_sem]) rfl ?_
                exact HF.out _ hkp (by simpa using hsm)
end Go.Proofs.YthcikinkicpicaaGreatDoor
