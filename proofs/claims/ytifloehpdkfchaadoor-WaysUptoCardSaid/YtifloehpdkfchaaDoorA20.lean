import Derived.Test.YtifloehpdkfchaaDoorA01
import Derived.Test.YtifloehpdkfchaaDoorA10
import Derived.Test.YtifloehpdkfchaaDoorA04
import Derived.Test.YtifloehpdkfchaaDoorA03
import Derived.Test.YtifloehpdkfchaaDoorA06

namespace Go.Proofs.YtifloehpdkfchaaDoor

theorem steps_good : ∀ (n : Nat) (l : List Int), l.length ≤ n → (∀ j, 4 * j + 4 ≤ l.length → wrongB (l.getD (4 * j) 0) (l.getD (4 * j + 1) 0) (l.getD (4 * j + 2) 0) (l.getD (4 * j + 3) 0) = false) → badSteps l = false
  | 0, l, h, _ => by have : l = [] := List.eq_nil_of_length_eq_zero (by omega); subst this; rfl
  | n + 1, l, h, hw => by
    match l, h, hw with
    | [], _, _ => rfl
    | [_], _, _ => rfl
    | [_, _], _, _ => rfl
    | [_, _, _], _, _ => rfl
    | a :: b :: c :: e :: rest, h, hw =>
      rw [badSteps, Bool.or_eq_false_iff]
      refine ⟨by simpa using hw 0 (by simp), steps_good n rest (by simp at h; omega) (fun j hj => ?_)⟩
      have h1 := hw (j + 1) (by simp; omega)
      rw [show 4 * (j + 1) = 4 * j + 4 from by omega] at h1
      simpa using h1
theorem steps_bad : ∀ (j : Nat) (l : List Int), 4 * j + 4 ≤ l.length → wrongB (l.getD (4 * j) 0) (l.getD (4 * j + 1) 0) (l.getD (4 * j + 2) 0) (l.getD (4 * j + 3) 0) = true → badSteps l = true
  | 0, l, h, hw => by
    match l, h, hw with
    | a :: b :: c :: e :: rest, h, hw =>
      rw [badSteps, Bool.or_eq_true]
      exact .inl (by simpa using hw)
  | j + 1, l, h, hw => by
    match l, h, hw with
    | a :: b :: c :: e :: rest, h, hw =>
      rw [badSteps, Bool.or_eq_true]
      rw [show 4 * (j + 1) = 4 * j + 4 from by omega] at hw
      exact .inr (steps_bad j rest (by simp at h; omega) (by simpa using hw))
    | [_, _, _], h, _ => simp at h
    | [_, _], h, _ => simp at h
    | [_], h, _ => simp at h
    | [], h, _ => simp at h

/-- The steps' bytes, as they come in. -/
structure Filled (cur : Array Value) (m j : Nat) (l : List Int) : Prop where
  sz : cur.size = m * 4
  at_ : ∀ i, i < 4 * j → cur[i]? = some (.int .u8 (l.getD i 0))

theorem Filled.next {cur : Array Value} {m j : Nat} {l : List Int} (h : Filled cur m j l) (hj : j < m) :
    Filled ((((cur.setIfInBounds (j * 4) (.int .u8 (l.getD (4 * j) 0))).setIfInBounds (j * 4 + 1) (.int .u8 (l.getD (4 * j + 1) 0))).setIfInBounds (j * 4 + 2) (.int .u8 (l.getD (4 * j + 2) 0))).setIfInBounds (j * 4 + 3) (.int .u8 (l.getD (4 * j + 3) 0))) m (j + 1) l := by
  have hs := h.sz
  refine ⟨by simpa using hs, fun i hi => ?_⟩
  simp only [Array.getElem?_setIfInBounds, Array.size_setIfInBounds]
  by_cases e3 : j * 4 + 3 = i
  · rw [if_pos e3, if_pos (by omega), ← e3, show 4 * j + 3 = j * 4 + 3 from by omega]
  · rw [if_neg e3]
    by_cases e2 : j * 4 + 2 = i
    · rw [if_pos e2, if_pos (by omega), ← e2, show 4 * j + 2 = j * 4 + 2 from by omega]
    · rw [if_neg e2]
      by_cases e1 : j * 4 + 1 = i
      · rw [if_pos e1, if_pos (by omega), ← e1, show 4 * j + 1 = j * 4 + 1 from by omega]
      · rw [if_neg e1]
        by_cases e0 : j * 4 = i
        · rw [if_pos e0, if_pos (by omega), ← e0, show 4 * j = j * 4 from by omega]
        · rw [if_neg e0]; exact h.at_ i (by omega)
end Go.Proofs.YtifloehpdkfchaaDoor

namespace Go.Proofs.YtifloehpdkfchaaDoor
open Go.RowKit

theorem Tryd.infoStep : (Tryd.prog.info? 152).map (fun i => (i.zero, i.size, i.bytes)) = some (some (.agg #[.int .u8 0, .int .u8 0, .int .u8 0, .int .u8 0]), 4, 4) := by kernel_rfl

theorem then_false {K : Act → World → Prop} {e : Exit} {a : Act} {w : World} (h : Exit.then K (fun _ _ _ => False) e a w) : e = .normal ∧ K a w := by
  cases e <;> first | exact ⟨rfl, h⟩ | exact h.elim

/-- What reading steps answers: l is their bytes, m how many they are. -/
def StPost (m : Nat) (l : List Int) (w : World) (e : Ending) (w' : World) : Prop :=
  if 16 < m ∨ badSteps l = true then e = .returned (.tuple #[.slice none 0 0, .bool false]) ∧ Below w.heap.size w w'
  else ∃ v, e = .returned (.tuple #[v, .bool true]) ∧ StepsAt w' v l ∧ Below w.heap.size w w'

/-- While steps are read. -/
structure StI (g m j : Nat) (l : List Int) (w wr : World) : Prop where
  cur : ∃ cur, wr.heap[g]? = some (.cells cur 152 (0, 0)) ∧ Filled cur m j l
  good : ∀ i, i < j → wrongB (l.getD (4 * i) 0) (l.getD (4 * i + 1) 0) (l.getD (4 * i + 2) 0) (l.getD (4 * i + 3) 0) = false
  bel : Below w.heap.size w wr

set_option maxRecDepth 100000 in
set_option maxHeartbeats 1000000 in
theorem readSteps_in (a : ByteArray) (m : Nat) (l : List Int) (w : World) (ha : ArgsOf a ((m : Int) :: l)) (hm : l.length = 4 * m) :
    Calls Tryd.prog 60 #[.string a] w (StPost m l w) := by
  have hsz : a.size = 1 + 4 * m := by have := ha.size; simp at this; omega
  have z0 : (0 : Int) < (a.size : Int) := by omega
  have i0 : 0 < a.size := by omega
  have e0 : wrap64 ((a[0]'i0).toNat : Int) = (m : Int) := ha.w64 0 (by simp) i0
  have f0 : IntKind.i64.wrap ((a[0]'i0).toNat : Int) = (m : Int) := ha.i64 0 (by simp) i0
  have m255 : (m : Int) ≤ 255 := (ha.ok.at 0).2
  have hlo : ∀ i, i < 4 * m → byteAt a (1 + i) = l.getD i 0 := fun i hi => by
    have := ha.at_ (1 + i) (by simp; omega)
    rw [this, Nat.add_comm]; rfl
  have hbd : ∀ i, 0 ≤ l.getD i 0 ∧ l.getD i 0 ≤ 255 := fun i => by have := ha.ok.at (i + 1); simpa using this
  by_cases h16 : 16 < m
  · have h16' : (16 : Int) < (m : Int) := by omega
    have HP : Hid (∀ w', Below w.heap.size w w' → StPost m l w (.returned (.tuple #[.slice none 0 0, .bool false])) w') := fun w' hb => by unfold StPost; rw [if_pos (.inl h16)]; exact ⟨rfl, hb⟩
    go_enter Tryd.func60, Tryd.ntmps60
    go_wp2_with fail
    refine bodyPost_ret (v := .tuple #[.slice none 0 0, .bool false]) (by simp [results, Tryd.results60, go_sem]) rfl ?_
    exact HP.out _ (Below.refl _ _)
  · have h16' : ¬ (16 : Int) < (m : Int) := by omega
    have HP : Hid (∀ j w', 4 * j + 4 ≤ l.length → wrongB (l.getD (4 * j) 0) (l.getD (4 * j + 1) 0) (l.getD (4 * j + 2) 0) (l.getD (4 * j + 3) 0) = true → Below w.heap.size w w' → StPost m l w (.returned (.tuple #[.slice none 0 0, .bool false])) w') := fun j w' hj hw hb => by
      unfold StPost; rw [if_pos (.inr (steps_bad j l hj hw))]; exact ⟨rfl, hb⟩
    have HE : Hid (∀ g w', StI g m m l w w' → StPost m l w (.returned (.tuple #[.slice (some ⟨g, 0, none⟩) m m, .bool true])) w') := fun g w' h => by
      have hg : badSteps l = false := steps_good _ l (Nat.le_refl _) (fun j hj => h.good j (by omega))
      obtain ⟨cur, hc, hf⟩ := h.cur
      unfold StPost
      rw [if_neg (fun h1 => h1.elim h16 (fun h2 => by rw [hg] at h2; cases h2))]
      exact ⟨_, rfl, ⟨hg, .inr ⟨g, m, cur, rfl, by omega, hc, fun j hj => hf.at_ j (by omega)⟩⟩, h.bel⟩
    have hm16 : m ≤ 16 := by omega
    obtain ⟨i1, hi, hz0, hz1, hz2⟩ := info_parts Tryd.infoStep
    clear h16
    go_enter Tryd.func60, Tryd.ntmps60
    obtain ⟨w1, hmk, hown, hgrow⟩ := run_make_full (P := Tryd.prog) w 0 66 152 i1 _ 4 Tryd.underlying66 hi hz0 hz1 .i64 .i64 m (by rw [hz2]; omega) (by unfold maxLen; omega) (Nat.zero_le _)
    have hb1 : w1.heap[w.heap.size]? = some (.cells (madeCells #[Value.int .u8 0, .int .u8 0, .int .u8 0, .int .u8 0] (m * 4)) 152 (0, 0)) := by
      have h1 := owned_blk hown
      simp only [Value.cells] at h1
      simpa using h1
    have HI0 : Hid (StI w.heap.size m 0 l w w1) := ⟨⟨_, hb1, by simp [madeCells], fun i hi => absurd hi (by omega)⟩, fun i hi => absurd hi (by omega), ⟨hgrow.os, hgrow.tape, hgrow.output, hgrow.size, fun k hk => hgrow.block k hk (by simp)⟩⟩
    clear hown hgrow hb1 hi hz0 hz1 hz2
    have HSZ : Hid (a.size = 1 + 4 * m) := hsz
    have as1 : 1 + 4 * (m : Int) ≤ (a.size : Int) := by omega
    have as2 : (a.size : Int) ≤ 1 + 4 * (m : Int) := by omega
    clear hsz
    go_wp2_with fail
    go_loopg [17] m (fun mm i wr => ∃ j : Nat, j + mm = m ∧ i = .int .i64 j ∧ Hid (StI w.heap.size m j l w wr))
    case atStart => exact ⟨0, by omega, rfl, HI0⟩
    case round =>
      obtain ⟨j, hj, rfl, hI⟩ := hrel
      clear HI0
      by_cases hlt : j < m
      · obtain ⟨n', rfl⟩ : ∃ n', gk = n' + 1 := ⟨gk - 1, by omega⟩
        have g1 : (j : Int) < (m : Int) := by omega
        have g2 : ((1 : Int) + (j : Int) * 4) ≤ (a.size : Int) := by omega
        have k1 : IntKind.i64.wrap ((1 : Int) + (j : Int) * 4) = (1 : Int) + (j : Int) * 4 := k64 (by omega)
        have k2 : IntKind.i64.wrap ((j : Int) * 4) = (j : Int) * 4 := k64 (by omega)
        obtain ⟨B, hB⟩ : ∃ B, a.extract (1 + j * 4) a.size = B := ⟨_, rfl⟩
        have hBs : B.size = 4 * m - 4 * j := by rw [← hB]; simp; have := HSZ.out; omega
        have q0 : 0 < B.size := by omega
        have q1 : 1 < B.size := by omega
        have q2 : 2 < B.size := by omega
        have q3 : 3 < B.size := by omega
        have hBb : ∀ i, i < 4 → byteAt B i = l.getD (4 * j + i) 0 := fun i hi => by
          rw [← hB, byteAt_extract a (1 + j * 4) a.size i (by have := HSZ.out; omega) (Nat.le_refl _), show 1 + j * 4 + i = 1 + (4 * j + i) from by omega]
          exact hlo _ (by omega)
        have u0 : ((B[0]'q0).toNat : Int) = l.getD (4 * j) 0 := by rw [byte_u8]; exact hBb 0 (by omega)
        have u1 : ((B[1]'q1).toNat : Int) = l.getD (4 * j + 1) 0 := by rw [byte_u8]; exact hBb 1 (by omega)
        have u2' : ((B[2]'q2).toNat : Int) = l.getD (4 * j + 2) 0 := by rw [byte_u8]; exact hBb 2 (by omega)
        have u3' : ((B[3]'q3).toNat : Int) = l.getD (4 * j + 3) 0 := by rw [byte_u8]; exact hBb 3 (by omega)
        have zz0 : (0 : Int) < (B.size : Int) := by omega
        have zz1 : (1 : Int) < (B.size : Int) := by omega
        have zz2 : (2 : Int) < (B.size : Int) := by omega
        have zz3 : (3 : Int) < (B.size : Int) := by omega
        obtain ⟨cur, hcur, hfil⟩ := hI.out.cur
        have hcs := hfil.sz
        obtain ⟨v0, t0⟩ : ∃ v, wr.cell? ⟨w.heap.size, j * 4, none⟩ = some v := ⟨_, (cell_of hcur _).trans (Array.getElem?_eq_getElem (show j * 4 < cur.size by omega))⟩
        obtain ⟨v1, t1⟩ : ∃ v, wr.cell? ⟨w.heap.size, j * 4 + 1, none⟩ = some v := ⟨_, (cell_of hcur _).trans (Array.getElem?_eq_getElem (show j * 4 + 1 < cur.size by omega))⟩
        obtain ⟨v2, t2⟩ : ∃ v, wr.cell? ⟨w.heap.size, j * 4 + 2, none⟩ = some v := ⟨_, (cell_of hcur _).trans (Array.getElem?_eq_getElem (show j * 4 + 2 < cur.size by omega))⟩
        obtain ⟨v3, t3⟩ : ∃ v, wr.cell? ⟨w.heap.size, j * 4 + 3, none⟩ = some v := ⟨_, (cell_of hcur _).trans (Array.getElem?_eq_getElem (show j * 4 + 3 < cur.size by omega))⟩
        have ft := frozen_of hcur
        have HN := hfil.next hlt
        have hbx : 0 ≤ l.getD (4 * j) 0 ∧ l.getD (4 * j) 0 ≤ 255 := hbd (4 * j)
        have HNx : Hid (∀ W, W = ((((wr.setCell ⟨w.heap.size, j * 4, none⟩ (.int .u8 (l.getD (4 * j) 0))).setCell ⟨w.heap.size, j * 4 + 1, none⟩ (.int .u8 (l.getD (4 * j + 1) 0))).setCell ⟨w.heap.size, j * 4 + 2, none⟩ (.int .u8 (l.getD (4 * j + 2) 0))).setCell ⟨w.heap.size, j * 4 + 3, none⟩ (.int .u8 (l.getD (4 * j + 3) 0))).drew →
            (∃ cur, W.heap[w.heap.size]? = some (.cells cur 152 (0, 0)) ∧ Filled cur m (j + 1) l) ∧ Below w.heap.size w W) := by
          intro W hW
          have hk : Kept (· = w.heap.size) wr W := by rw [hW]; exact (((((Kept.refl (· = w.heap.size) wr).set (.inl rfl) _ _).set (.inl rfl) _ _).set (.inl rfl) _ _).set (.inl rfl) _ _).drew
          refine ⟨⟨_, ?_, HN⟩, ?_⟩
          · rw [hW]; exact heap_set_same (heap_set_same (heap_set_same (heap_set_same hcur _ _) _ _) _ _) _ _
          · have hbl := hI.out.bel
            exact ⟨hk.os.trans hbl.os, hk.tape.trans hbl.tape, hk.output.trans hbl.output, Nat.le_trans hbl.size hk.size, fun i hi => (hk.block i (Nat.lt_of_lt_of_le hi hbl.size) (by omega)).trans (hbl.block i hi)⟩
        have HG : Hid (∀ i, i < j → wrongB (l.getD (4 * i) 0) (l.getD (4 * i + 1) 0) (l.getD (4 * i + 2) 0) (l.getD (4 * i + 3) 0) = false) := hI.out.good
        have HL : Hid (4 * j + 4 ≤ l.length) := show 4 * j + 4 ≤ l.length by omega
        have HJ : Hid (∀ i, 4 * j + i = j * 4 + i) := fun i => by omega
        have HBD : Hid (∀ i, 0 ≤ l.getD i 0 ∧ l.getD i 0 ≤ 255) := hbd
        clear HN hfil hcs hBb hBs hlo hbd hI hm hcur hbx
        generalize e0' : l.getD (4 * j) 0 = y0 at *
        generalize e1' : l.getD (4 * j + 1) 0 = y1 at *
        generalize e2' : l.getD (4 * j + 2) 0 = y2 at *
        generalize e3' : l.getD (4 * j + 3) 0 = y3 at *
        have E0 : Hid (l.getD (4 * j) 0 = y0) := e0'
        have E1 : Hid (l.getD (4 * j + 1) 0 = y1) := e1'
        have E2 : Hid (l.getD (4 * j + 2) 0 = y2) := e2'
        have E3 : Hid (l.getD (4 * j + 3) 0 = y3) := e3'
        clear e0' e1' e2' e3'
        have hyb : 0 ≤ y0 ∧ y0 ≤ 255 := by rw [← E0.out]; exact HBD.out _
        have HM : Hid (∀ W', Calls Tryd.prog 72 #[.agg #[.int .u8 y0, .int .u8 y1, .int .u8 y2, .int .u8 y3]] W' fun r w' => r = .returned (.bool (!wrongB y0 y1 y2 y3)) ∧ Below W'.heap.size W' w') := fun W' => mayBe_any y0 y1 y2 y3 W' hyb.1 hyb.2
        go_wp2_with fail
        refine Code.wp_mono (Q := Exit.then (fun a' w' => a' = { tmps := #[.string a, undef, u2, u3, .int .i64 m, .slice (some ⟨w.heap.size, 0, none⟩) m m, .int .i64 j, .string B, .string a, .int .u8 ((a[0]'i0).toNat : Int), .int .i64 m, .int .i64 m, .bool false, .int .i64 m, .slice (some ⟨w.heap.size, 0, none⟩) m m, .slice (some ⟨w.heap.size, 0, none⟩) m m, .int .i64 m, .int .i64 j, .bool true, .int .i64 j, .string a, .int .i64 j, .int .i64 ((j : Int) * 4), .int .i64 (1 + (j : Int) * 4), .string B, .slice (some ⟨w.heap.size, 0, none⟩) m m, .int .i64 j, .string B, .int .u8 y0, .string B, .int .u8 y1, .string B, .int .u8 y2, .string B, .int .u8 y3, .agg #[.int .u8 y0, .int .u8 y1, .int .u8 y2, .int .u8 y3], .pointer (some ⟨w.heap.size, j * 4, none⟩), u37, u38, u39, u40, u41, u42, u43, undef], defers := [] } ∧
            (∃ cur, w'.heap[w.heap.size]? = some (.cells cur 152 (0, 0)) ∧ Filled cur m (j + 1) l) ∧ Below w.heap.size w w') (fun _ _ _ => False)) ?tail ?reg
        case reg =>
          clear HM HP HE HG
          go_region_held (fun _ => True) (trivial) (fail)
          all_goals first | exact ⟨rfl, HNx.out _ rfl⟩ | exact False.elim
        case tail =>
          intro e a' W hX
          obtain ⟨rfl, rfl, ⟨cur', hc', hf'⟩, hb'⟩ := then_false hX
          have c0 : W.cell? ⟨w.heap.size, j * 4, none⟩ = some (.int .u8 y0) := by rw [cell_of hc', show j * 4 = 4 * j from by omega, hf'.at_ _ (by omega), E0.out]
          have c1 : W.cell? ⟨w.heap.size, j * 4 + 1, none⟩ = some (.int .u8 y1) := by rw [cell_of hc', show j * 4 = 4 * j from by omega, hf'.at_ _ (by omega), E1.out]
          have c2 : W.cell? ⟨w.heap.size, j * 4 + 2, none⟩ = some (.int .u8 y2) := by rw [cell_of hc', show j * 4 = 4 * j from by omega, hf'.at_ _ (by omega), E2.out]
          have c3 : W.cell? ⟨w.heap.size, j * 4 + 3, none⟩ = some (.int .u8 y3) := by rw [cell_of hc', show j * 4 = 4 * j from by omega, hf'.at_ _ (by omega), E3.out]
          have HW : Hid (W.heap[w.heap.size]? = some (.cells cur' 152 (0, 0))) := hc'
          have HFi : Hid (Filled cur' m (j + 1) l) := hf'
          clear hc' hf' t0 t1 t2 t3 ft HNx
          cases hwr : wrongB y0 y1 y2 y3
          · rw [hwr] at HM
            go_wp2_with (go_at_call 72; refine (HM.out _).mono ?_; rintro e w2 ⟨rfl, hb2⟩)
            go_roundg n'
            case rel =>
              refine ⟨j + 1, by omega, by go_num, ⟨cur', (hb2.block _ (lt_of_heap HW.out)).trans HW.out, HFi.out⟩, fun i hi => ?_, hb'.trans (hb2.mono hb'.size)⟩
              by_cases hij : i < j
              · exact HG.out i hij
              · obtain rfl : i = j := by omega
                rw [E0.out, E1.out, E2.out, E3.out]; exact hwr
            case measure => omega
          · rw [hwr] at HM
            go_wp2_with (go_at_call 72; refine (HM.out _).mono ?_; rintro e w2 ⟨rfl, hb2⟩)
            refine bodyPost_ret (v := .tuple #[.slice none 0 0, .bool false]) (by simp [results, Tryd.results60, go_sem]) rfl ?_
            exact HP.out j _ HL.out (by rw [E0.out, E1.out, E2.out, E3.out]; exact hwr) (hb'.trans (hb2.mono hb'.size))
      · obtain rfl : gk = 0 := by omega
        obtain rfl : j = m := by omega
        go_wp2_with fail
        refine bodyPost_ret (v := .tuple #[.slice (some ⟨w.heap.size, 0, none⟩) j j, .bool true]) (by simp [results, Tryd.results60, go_sem]) rfl ?_
        exact HE.out _ _ hI.out
end Go.Proofs.YtifloehpdkfchaaDoor

namespace Go.Proofs.YtifloehpdkfchaaDoor
open Go.RowKit
section
variable (base : Nat) (p cB zB sB A n : Nat) (s : ByteArray) (k ways : Int) (shV outV : Value) (st : St) (a : ByteArray) (l : List Int) (w : World)

theorem Dr.shader {base p cB zB sB A n : Nat} {s : ByteArray} {k ways : Int} {shV outV v : Value} {st : St} {w : World} {l : List Int} (h : Dr base w p cB zB sB A n s k ways shV outV st) (hs : StepsAt w v l) :
    Dr base (w.setCell ⟨p, 25, none⟩ v) p cB zB sB A n s k ways v outV { st with sh := l } := by
  have hk : Kept (· = p) w (w.setCell ⟨p, 25, none⟩ v) := kept_set1 p 25 v
  obtain ⟨fc, fz, fs, _, ⟨c1, b1, t1⟩, ⟨c2, b2, t2⟩, c3, b3, t3⟩ := h.sf.ex
  refine ⟨?_, h.sf.kept hk ?_ ?_ ?_ rfl rfl rfl, hs.kept hk (fun g cur hg => ne_types hg h.bp (by decide)), owns_kept h.out hk (fun g cur hg => ne_types hg h.bp (by decide)), h.b0, h.b1, h.b2, h.b3⟩
  · exact (heap_set_same h.bp 25 v).trans rfl
  · exact ne_types b1 h.bp (by decide)
  · exact ne_types b2 h.bp (by decide)
  · exact ne_types b3 h.bp (by decide)

set_option maxRecDepth 100000 in
set_option maxHeartbeats 1000000 in
theorem setShader_in (h : Dr base w p cB zB sB A n s k ways shV outV st) (ha : ArgsOf a l) (m : Nat) (hl : l.length = 1 + 4 * m) (hm : l.getD 0 0 = m) :
    Calls Tryd.prog 40 #[.pointer (some ⟨p, 14, none⟩), .string a] w (CmdPost base p s k w (st.cmd 8 l)) := by
  obtain ⟨l', rfl⟩ : ∃ l', l = (m : Int) :: l' := by
    cases l with
    | nil => simp at hl; omega
    | cons x xs => exact ⟨xs, by simp at hm; rw [hm]⟩
  have hl' : l'.length = 4 * m := by simp at hl; omega
  have hrd := readSteps_in a m l' w ha hl'
  have hc : st.cmd 8 ((m : Int) :: l') = if 16 < m ∨ badSteps l' = true then (st, 2) else ({ st with sh := l' }, 0) := by
    have hb : badB st.W st.H 8 ((m : Int) :: l') = (decide (16 < (m : Int)) || badSteps l') := by simp [badB]
    have hd : st.does 8 ((m : Int) :: l') = ({ st with sh := l' }, 0) := by simp [St.does]
    unfold St.cmd
    rw [hb, hd]
    by_cases h1 : 16 < m
    · rw [decide_eq_true (show (16 : Int) < (m : Int) by omega), Bool.true_or, if_pos rfl, if_pos (Or.inl h1)]
    · rw [decide_eq_false (show ¬ (16 : Int) < (m : Int) by omega), Bool.false_or]
      cases hb2 : badSteps l'
      · rw [if_neg (by simp), if_neg (by simp [h1])]
      · rw [if_pos rfl, if_pos (.inr rfl)]
  rw [hc]
  have HD : Hid (Dr base w p cB zB sB A n s k ways shV outV st) := h
  unfold StPost at hrd
  by_cases hb : 16 < m ∨ badSteps l' = true
  · rw [if_pos hb]
    simp only [if_pos hb] at hrd
    have HR : Hid (Calls Tryd.prog 60 #[.string a] w fun e w' => e = .returned (.tuple #[.slice none 0 0, .bool false]) ∧ Below w.heap.size w w') := hrd
    clear hrd hb hc h
    go_enter Tryd.func40, Tryd.ntmps40
    go_wp2_with (go_at_call 60; refine HR.out.mono ?_; rintro e w1 ⟨rfl, hb1⟩)
    go_ret
    exact ⟨rfl, _, _, _, _, _, _, _, _, HD.out.frame hb1, HD.out.lowOf hb1⟩
  · rw [if_neg hb]
    simp only [if_neg hb] at hrd
    have HR : Hid (Calls Tryd.prog 60 #[.string a] w fun e w' => ∃ v, e = .returned (.tuple #[v, .bool true]) ∧ StepsAt w' v l' ∧ Below w.heap.size w w') := hrd
    clear hrd hb hc h
    go_enter Tryd.func40, Tryd.ntmps40
    go_wp2_with fail
    refine HR.out.mono ?_
    rintro e w1 ⟨v, rfl, hs1, hb1⟩
    have HS1 : Hid (StepsAt w1 v l') := hs1
    have c25 : w1.cell? ⟨p, 25, none⟩ = some shV := cell_of (HD.out.frame hb1).bp 25
    have f25 := frozen_of (HD.out.frame hb1).bp 25
    have hd1 : Hid (Dr base w1 p cB zB sB A n s k ways shV outV st) := HD.out.frame hb1
    have HB : Hid (Low base w w1) := HD.out.lowOf hb1
    have hv : v = .slice none 0 0 ∨ ∃ g m', v = .slice (some ⟨g, 0, none⟩) m' m' := by
      rcases hs1.2 with ⟨e, _⟩ | ⟨g, m', cur, e, _⟩
      · exact .inl e
      · exact .inr ⟨g, m', e⟩
    clear hs1
    rcases hv with rfl | ⟨g, m', rfl⟩
    all_goals
      go_wp2_with fail
      go_ret
      exact ⟨rfl, _, _, _, _, _, _, _, _, hd1.out.shader HS1.out, HB.out.trans (hd1.out.low (kept_set1 p _ _))⟩
end
end Go.Proofs.YtifloehpdkfchaaDoor
