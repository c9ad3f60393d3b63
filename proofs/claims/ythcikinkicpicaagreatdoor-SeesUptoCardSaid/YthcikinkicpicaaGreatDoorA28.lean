import Derived.Test.YthcikinkicpicaaGreatDoorA01
import Derived.Test.YthcikinkicpicaaGreatDoorA15
import Derived.Test.YthcikinkicpicaaGreatDoorA04
import Derived.Test.YthcikinkicpicaaGreatDoorA03
import Derived.Test.YthcikinkicpicaaGreatDoorA06

namespace Go.Proofs.YthcikinkicpicaaGreatDoor

theorem steps_good : ∀ (n : Nat) (l : List Int), l.length ≤ n → (∀ j, 4 * j + 4 ≤ l.length → wrongB (l.getD (4 * j) 0) (l.getD (4 * j + 1) 0) (l.getD (4 * j + 2) 0) (l.getD (4 * j + 3) 0) = false) → badSteps l = false
  | 0, l, h, _ => by have : l = [] := List.eq_nil_of_length_eq_zero (by omega); subst this; rfl
  | n + 1, l, h, hw => by
    match l, h, hw with
    | [], _, _ => rfl
    | [_], _, _ => rfl
    | [_, _], _, _ => rfl
    | [_, _, _], _, _ => rfl
    | a :: b :: c :: e :: rest, h, hw =>
      rw [badSteps, Bool.or_eq_false_iff]
      refine ⟨by simpa using hw 0 (by simp), steps_good n rest (by simp at h; omega) (fun j hj => ?_)⟩
      have h1 := hw (j + 1) (by simp; omega)
      rw [show 4 * (j + 1) = 4 * j + 4 from by omega] at h1
      simpa using h1
theorem steps_bad : ∀ (j : Nat) (l : List Int), 4 * j + 4 ≤ l.length → wrongB (l.getD (4 * j) 0) (l.getD (4 * j + 1) 0) (l.getD (4 * j + 2) 0) (l.getD (4 * j + 3) 0) = true → badSteps l = true
  | 0, l, h, hw => by
    match l, h, hw with
    | a :: b :: c :: e :: rest, h, hw =>
      rw [badSteps, Bool.or_eq_true]
      exact .inl (by simpa using hw)
  | j + 1, l, h, hw => by
    match l, h, hw with
    | a :: b :: c :: e :: rest, h, hw =>
      rw [badSteps, Bool.or_eq_true]
      rw [show 4 * (j + 1) = 4 * j + 4 from by omega] at hw
      exact .inr (steps_bad j rest (by simp at h; omega) (by simpa using hw))
    | [_, _, _], h, _ => simp at h
    | [_, _], h, _ => simp at h
    | [_], h, _ => simp at h
    | [], h, _ => simp at h

theorem take_gives : ∀ (j : Nat) (l : List Int), 4 * j + 4 ≤ l.length → givesB (l.take (4 * (j + 1))) = (givesB (l.take (4 * j)) || decide (l.getD (4 * j) 0 = 7)) ∧ bringsB (l.take (4 * (j + 1))) = (bringsB (l.take (4 * j)) || decide (l.getD (4 * j) 0 = 8))
  | 0, l, h => by
    match l, h with
    | a :: b :: c :: e :: rest, h => simp [givesB, bringsB]
    | [_, _, _], h => simp at h
    | [_, _], h => simp at h
    | [_], h => simp at h
    | [], h => simp at h
  | j + 1, l, h => by
    match l, h with
    | a :: b :: c :: e :: rest, h =>
      have ih := take_gives j rest (by simp at h; omega)
      rw [show 4 * (j + 1 + 1) = 4 * (j + 1) + 1 + 1 + 1 + 1 from by omega, show 4 * (j + 1) = 4 * j + 1 + 1 + 1 + 1 from by omega]
      rw [show 4 * (j + 1) = 4 * j + 1 + 1 + 1 + 1 from by omega] at ih
      simp only [List.take_succ_cons, givesB, bringsB, List.getD_cons_succ] at ih ⊢
      rw [ih.1, ih.2, Bool.or_assoc, Bool.or_assoc]
      exact ⟨rfl, rfl⟩
    | [_, _, _], h => simp at h
    | [_, _], h => simp at h
    | [_], h => simp at h
    | [], h => simp at h

/-- The steps' bytes, as they come in. -/
structure Filled (cur : Array Value) (m j : Nat) (l : List Int) : Prop where
  sz : cur.size = m * 4
  at_ : ∀ i, i < 4 * j → cur[i]? = some (.int .u8 (l.getD i 0))

theorem Filled.next {cur : Array Value} {m j : Nat} {l : List Int} (h : Filled cur m j l) (hj : j < m) :
    Filled ((((cur.setIfInBounds (j * 4) (.int .u8 (l.getD (4 * j) 0))).setIfInBounds (j * 4 + 1) (.int .u8 (l.getD (4 * j + 1) 0))).setIfInBounds (j * 4 + 2) (.int .u8 (l.getD (4 * j + 2) 0))).setIfInBounds (j * 4 + 3) (.int .u8 (l.getD (4 * j + 3) 0))) m (j + 1) l := by
  have hs := h.sz
  refine ⟨by simpa using hs, fun i hi => ?_⟩
  simp only [Array.getElem?_setIfInBounds, Array.size_setIfInBounds]
  by_cases e3 : j * 4 + 3 = i
  · rw [if_pos e3, if_pos (by omega), ← e3, show 4 * j + 3 = j * 4 + 3 from by omega]
  · rw [if_neg e3]
    by_cases e2 : j * 4 + 2 = i
    · rw [if_pos e2, if_pos (by omega), ← e2, show 4 * j + 2 = j * 4 + 2 from by omega]
    · rw [if_neg e2]
      by_cases e1 : j * 4 + 1 = i
      · rw [if_pos e1, if_pos (by omega), ← e1, show 4 * j + 1 = j * 4 + 1 from by omega]
      · rw [if_neg e1]
        by_cases e0 : j * 4 = i
        · rw [if_pos e0, if_pos (by omega), ← e0, show 4 * j = j * 4 from by omega]
        · rw [if_neg e0]; exact h.at_ i (by omega)
end Go.Proofs.YthcikinkicpicaaGreatDoor

namespace Go.Proofs.YthcikinkicpicaaGreatDoor
open Go.RowKit

theorem Tryz.infoStep : (Tryz.prog.info? 208).map (fun i => (i.zero, i.size, i.bytes)) = some (some (.agg #[.int .u8 0, .int .u8 0, .int .u8 0, .int .u8 0]), 4, 4) := by kernel_rfl

theorem then_false {K : Act → World → Prop} {e : Exit} {a : Act} {w : World} (h : Exit.then K (fun _ _ _ => False) e a w) : e = .normal ∧ K a w := by
  cases e <;> first | exact ⟨rfl, h⟩ | exact h.elim

theorem beq_dec (a b : Int) : (a == b) = decide (a = b) := by by_cases h : a = b <;> simp [h]
@[reducible] def shdV (v : Value) (g b : Bool) : Value := .agg #[v, .bool g, .bool b]

/-- What reading a shader answers: l is its steps' bytes, m how many they are. -/
def StPost (m : Nat) (l : List Int) (w : World) (e : Ending) (w' : World) : Prop :=
  if 16 < m ∨ badSteps l = true then e = .returned (.tuple #[shdV (.slice none 0 0) false false, .bool false]) ∧ Below w.heap.size w w'
  else ∃ v, e = .returned (.tuple #[shdV v (givesB l) (bringsB l), .bool true]) ∧ StepsAt w' v l ∧ Below w.heap.size w w'

/-- While steps are read. -/
structure StI (S m j : Nat) (l : List Int) (w wr : World) : Prop where
  res : wr.heap[w.heap.size]? = some (.cells #[.slice none 0 0, .bool false, .bool false] 84 (0, 0))
  cur : ∃ cur, wr.heap[w.heap.size + 1]? = some (.cells cur 208 (0, 0)) ∧ Filled cur m j l
  shd : wr.heap[S]? = some (.cells #[.slice (some ⟨w.heap.size + 1, 0, none⟩) m m, .bool (givesB (l.take (4 * j))), .bool (bringsB (l.take (4 * j)))] 84 (0, 0))
  good : ∀ i, i < j → wrongB (l.getD (4 * i) 0) (l.getD (4 * i + 1) 0) (l.getD (4 * i + 2) 0) (l.getD (4 * i + 3) 0) = false
  bel : Below w.heap.size w wr
  hS : w.heap.size + 2 ≤ S

theorem StI.next {S m j : Nat} {l : List Int} {w wr w' : World} (h : StI S m j l w wr) (hb : Below wr.heap.size wr w') : StI S m j l w w' := by
  obtain ⟨cur, hc, hf⟩ := h.cur
  exact ⟨(hb.block _ (lt_of_heap h.res)).trans h.res, ⟨cur, (hb.block _ (lt_of_heap hc)).trans hc, hf⟩, (hb.block _ (lt_of_heap h.shd)).trans h.shd, h.good, h.bel.trans (hb.mono h.bel.size), h.hS⟩

set_option maxRecDepth 100000 in
set_option maxHeartbeats 1000000 in
theorem readShader_in (a : ByteArray) (m : Nat) (l : List Int) (w : World) (ha : ArgsOf a ((m : Int) :: l)) (hm : l.length = 4 * m) :
    Calls Tryz.prog 85 #[.string a] w (StPost m l w) := by
  have hsz : a.size = 1 + 4 * m := by have := ha.size; simp at this; omega
  have z0 : (0 : Int) < (a.size : Int) := by omega
  have i0 : 0 < a.size := by omega
  have e0 : wrap64 ((a[0]'i0).toNat : Int) = (m : Int) := ha.w64 0 (by simp) i0
  have f0 : IntKind.i64.wrap ((a[0]'i0).toNat : Int) = (m : Int) := ha.i64 0 (by simp) i0
  have m255 : (m : Int) ≤ 255 := (ha.ok.at 0).2
  have hlo : ∀ i, i < 4 * m → byteAt a (1 + i) = l.getD i 0 := fun i hi => by
    have := ha.at_ (1 + i) (by simp; omega)
    rw [this, Nat.add_comm]; rfl
  have hbd : ∀ i, 0 ≤ l.getD i 0 ∧ l.getD i 0 ≤ 255 := fun i => by have := ha.ok.at (i + 1); simpa using this
  by_cases h16 : 16 < m
  · have h16' : (16 : Int) < (m : Int) := by omega
    have HP : Hid (∀ w', Below w.heap.size w w' → StPost m l w (.returned (.tuple #[shdV (.slice none 0 0) false false, .bool false])) w') := fun w' hb => by unfold StPost; rw [if_pos (.inl h16)]; exact ⟨rfl, hb⟩
    go_enter Tryz.func85, Tryz.ntmps85
    go_wp2_with fail
    refine bodyPost_ret (v := .tuple #[shdV (.slice none 0 0) false false, .bool false]) (by simp [results, Tryz.results85, go_sem]) rfl ?_
    refine HP.out _ ?_
    repeat (first | with_reducible exact Below.refl _ _ | with_reducible refine Below.drew ?_ | (with_reducible refine Below.alloc ?_ (by first | exact Nat.le_refl _ | (simp; done) | (simp; omega)) _) | (with_reducible refine Below.setCell ?_ (by first | exact Nat.le_refl _ | (dsimp only; omega)) _))
  · have h16' : ¬ (16 : Int) < (m : Int) := by omega
    have HP : Hid (∀ j w', 4 * j + 4 ≤ l.length → wrongB (l.getD (4 * j) 0) (l.getD (4 * j + 1) 0) (l.getD (4 * j + 2) 0) (l.getD (4 * j + 3) 0) = true → Below w.heap.size w w' → StPost m l w (.returned (.tuple #[shdV (.slice none 0 0) false false, .bool false])) w') := fun j w' hj hw hb => by
      unfold StPost; rw [if_pos (.inr (steps_bad j l hj hw))]; exact ⟨rfl, hb⟩
    have HE : Hid (∀ S w' w2, StI S m m l w w' → Kept (· = w.heap.size) w' w2 → StPost m l w (.returned (.tuple #[shdV (.slice (some ⟨w.heap.size + 1, 0, none⟩) m m) (givesB (l.take (4 * m))) (bringsB (l.take (4 * m))), .bool true])) w2) := fun S w' w2 h hk => by
      have hg : badSteps l = false := steps_good _ l (Nat.le_refl _) (fun j hj => h.good j (by omega))
      obtain ⟨cur, hc, hf⟩ := h.cur
      unfold StPost
      rw [if_neg (fun h1 => h1.elim h16 (fun h2 => by rw [hg] at h2; cases h2)), List.take_of_length_le (by omega)]
      have hbl := h.bel
      exact ⟨_, rfl, ⟨hg, .inr ⟨_, m, cur, rfl, by omega, (hk.block _ (lt_of_heap hc) (by omega)).trans hc, fun j hj => hf.at_ j (by omega)⟩⟩, ⟨hk.os.trans hbl.os, hk.tape.trans hbl.tape, hk.output.trans hbl.output, Nat.le_trans hbl.size hk.size, fun i hi => (hk.block i (Nat.lt_of_lt_of_le hi hbl.size) (by omega)).trans (hbl.block i hi)⟩⟩
    have hm16 : m ≤ 16 := by omega
    obtain ⟨i1, hi, hz0, hz1, hz2⟩ := info_parts Tryz.infoStep
    clear h16
    obtain ⟨wA, hwA⟩ : ∃ wA, w.alloc (.cells #[.slice none 0 0, .bool false, .bool false] 84) = wA := ⟨_, rfl⟩
    have hsA : wA.heap.size = w.heap.size + 1 := by rw [← hwA]; simp
    obtain ⟨w1, hmk, hown, hgrow⟩ := run_make_full (P := Tryz.prog) wA 0 82 208 i1 _ 4 Tryz.underlying82 hi hz0 hz1 .i64 .i64 m (by rw [hz2]; omega) (by unfold maxLen; omega) (Nat.zero_le _)
    rw [hsA] at hmk hown
    have hb1 : w1.heap[w.heap.size + 1]? = some (.cells (madeCells #[Value.int .u8 0, .int .u8 0, .int .u8 0, .int .u8 0] (m * 4)) 208 (0, 0)) := by
      have h1 := owned_blk hown
      simp only [Value.cells] at h1
      simpa using h1
    have hr1 : w1.heap[w.heap.size]? = some (.cells #[.slice none 0 0, .bool false, .bool false] 84 (0, 0)) := (hgrow.block _ (by omega) (by simp)).trans (by rw [← hwA]; exact heap_alloc_new _ _)
    have hbA : Below w.heap.size w w1 := by
      have h1 : Below w.heap.size w wA := by rw [← hwA]; exact below1
      exact h1.trans ⟨hgrow.os, hgrow.tape, hgrow.output, hgrow.size, fun k hk => hgrow.block k (by omega) (by simp)⟩
    rw [← hwA] at hmk
    have hs1 := lt_of_heap hb1
    clear hwA hsA
    have HSZ : Hid (a.size = 1 + 4 * m) := hsz
    have as1 : 1 + 4 * (m : Int) ≤ (a.size : Int) := by omega
    have as2 : (a.size : Int) ≤ 1 + 4 * (m : Int) := by omega
    have HI0 : Hid (StI w1.heap.size m 0 l w (w1.alloc (.cells #[.slice (some ⟨w.heap.size + 1, 0, none⟩) m m, .bool false, .bool false] 84))) := by
      refine ⟨(heap_alloc_old (by omega) _).trans hr1, ⟨_, (heap_alloc_old (by omega) _).trans hb1, by simp [madeCells], fun i hi => absurd hi (by omega)⟩, ?_, fun i hi => absurd hi (by omega), hbA.alloc hbA.size _, by omega⟩
      rw [heap_alloc_new]
      simp [givesB, bringsB]
    clear hsz hown hgrow hb1 hr1 hbA hi hz0 hz1 hz2
    go_enter Tryz.func85, Tryz.ntmps85
    go_wp2_with fail
    go_loopg [21] m (fun mm i wr => ∃ j : Nat, j + mm = m ∧ i = .int .i64 j ∧ Hid (StI w1.heap.size m j l w wr))
    case atStart => exact ⟨0, by omega, rfl, HI0⟩
    case round =>
      obtain ⟨j, hj, rfl, hI⟩ := hrel
      clear HI0 hmk
      generalize w1.heap.size = S at *
      by_cases hlt : j < m
      · obtain ⟨n', rfl⟩ : ∃ n', gk = n' + 1 := ⟨gk - 1, by omega⟩
        have g1 : (j : Int) < (m : Int) := by omega
        have g2 : ((1 : Int) + (j : Int) * 4) ≤ (a.size : Int) := by omega
        have k1 : IntKind.i64.wrap ((1 : Int) + (j : Int) * 4) = (1 : Int) + (j : Int) * 4 := k64 (by omega)
        have k2 : IntKind.i64.wrap ((j : Int) * 4) = (j : Int) * 4 := k64 (by omega)
        obtain ⟨B, hB⟩ : ∃ B, a.extract (1 + j * 4) a.size = B := ⟨_, rfl⟩
        have hBs : B.size = 4 * m - 4 * j := by rw [← hB]; simp; have := HSZ.out; omega
        have q0 : 0 < B.size := by omega
        have q1 : 1 < B.size := by omega
        have q2 : 2 < B.size := by omega
        have q3 : 3 < B.size := by omega
        have hBb : ∀ i, i < 4 → byteAt B i = l.getD (4 * j + i) 0 := fun i hi => by
          rw [← hB, byteAt_extract a (1 + j * 4) a.size i (by have := HSZ.out; omega) (Nat.le_refl _), show 1 + j * 4 + i = 1 + (4 * j + i) from by omega]
          exact hlo _ (by omega)
        have u0 : ((B[0]'q0).toNat : Int) = l.getD (4 * j) 0 := by rw [byte_u8]; exact hBb 0 (by omega)
        have u1 : ((B[1]'q1).toNat : Int) = l.getD (4 * j + 1) 0 := by rw [byte_u8]; exact hBb 1 (by omega)
        have u2' : ((B[2]'q2).toNat : Int) = l.getD (4 * j + 2) 0 := by rw [byte_u8]; exact hBb 2 (by omega)
        have u3' : ((B[3]'q3).toNat : Int) = l.getD (4 * j + 3) 0 := by rw [byte_u8]; exact hBb 3 (by omega)
        have zz0 : (0 : Int) < (B.size : Int) := by omega
        have zz1 : (1 : Int) < (B.size : Int) := by omega
        have zz2 : (2 : Int) < (B.size : Int) := by omega
        have zz3 : (3 : Int) < (B.size : Int) := by omega
        have HL : Hid (4 * j + 4 ≤ l.length) := show 4 * j + 4 ≤ l.length by omega
        have HBD : Hid (∀ i, 0 ≤ l.getD i 0 ∧ l.getD i 0 ≤ 255) := hbd
        clear hBb hBs hlo hbd hm
        generalize e0' : l.getD (4 * j) 0 = y0 at *
        generalize e1' : l.getD (4 * j + 1) 0 = y1 at *
        generalize e2' : l.getD (4 * j + 2) 0 = y2 at *
        generalize e3' : l.getD (4 * j + 3) 0 = y3 at *
        have E0 : Hid (l.getD (4 * j) 0 = y0) := e0'
        have E1 : Hid (l.getD (4 * j + 1) 0 = y1) := e1'
        have E2 : Hid (l.getD (4 * j + 2) 0 = y2) := e2'
        have E3 : Hid (l.getD (4 * j + 3) 0 = y3) := e3'
        clear e0' e1' e2' e3'
        have hyb : 0 ≤ y0 ∧ y0 ≤ 255 := by rw [← E0.out]; exact HBD.out _
        have HM : Hid (∀ W', Calls Tryz.prog 113 #[.agg #[.int .u8 y0, .int .u8 y1, .int .u8 y2, .int .u8 y3]] W' fun r w' => r = .returned (.bool (!wrongB y0 y1 y2 y3)) ∧ Below W'.heap.size W' w') := fun W' => mayBe_any y0 y1 y2 y3 W' hyb.1 hyb.2
        go_wp2_with fail
        rw [hB]
        clear hB
        refine Code.wp_mono (Q := Exit.then (fun a' w' => a' = { tmps := #[.string a, undef, .pointer (some ⟨w.heap.size, 0, none⟩), u3, .int .i64 m, .pointer (some ⟨S, 0, none⟩), .int .i64 j, .string B, .pointer (some ⟨wr.heap.size, 0, none⟩), .string a, .int .u8 ((a[0]'i0).toNat : Int), .int .i64 m, .int .i64 m, .bool false, undef, .int .i64 m, .slice (some ⟨w.heap.size + 1, 0, none⟩) m m, .agg #[.slice (some ⟨w.heap.size + 1, 0, none⟩) m m, .bool false, .bool false], .pointer (some ⟨S, 0, none⟩), .slice (some ⟨w.heap.size + 1, 0, none⟩) m m, .int .i64 m, .int .i64 j, .bool true, .int .i64 j, .string a, .int .i64 j, .int .i64 ((j : Int) * 4), .int .i64 (1 + (j : Int) * 4), .string B, .string B, .int .u8 y0, .string B, .int .u8 y1, .string B, .int .u8 y2, .string B, .int .u8 y3, .agg #[.int .u8 y0, .int .u8 y1, .int .u8 y2, .int .u8 y3], u38, u39, u40, u41, u42, u43, u44, u45, u46, u47, u48, u49, u50, u51, u52, u53, u54, u55, u56, u57, u58, u59, u60, u61, u62, u63, undef], defers := [] } ∧
            w'.heap[wr.heap.size]? = some (.cells #[.int .u8 y0, .int .u8 y1, .int .u8 y2, .int .u8 y3] 208 (0, 0)) ∧ Below wr.heap.size wr w') (fun _ _ _ => False)) ?tail ?reg
        case reg =>
          clear HM HP HE hI
          have HNx : Hid (∀ W, W = ((wr.alloc (.cells #[.int .u8 y0, .int .u8 y1, .int .u8 y2, .int .u8 y3] 208)).drew) → W.heap[wr.heap.size]? = some (.cells #[.int .u8 y0, .int .u8 y1, .int .u8 y2, .int .u8 y3] 208 (0, 0)) ∧ Below wr.heap.size wr W) := by
            rintro W rfl
            exact ⟨heap_alloc_new _ _, ((Below.refl _ _).alloc (Nat.le_refl _) _).drew⟩
          have hmx : Tryz.prog.follows .mixedOrders = true := by kernel_rfl
          refine wp_region_held_drew (S := fun _ => True) hmx trivial (fun hS => ?_)
          refine wpAnyH_take (i := 0) (v := ?v0) rfl (by kernel_rfl) (by kernel_rfl) (by kernel_rfl) (fun _ _ _ h => h) (Or.inl ⟨by rfl, ?hy0⟩) hS ?rest0
          case hy0 => (intro w hSw; go_simp; try with_reducible rfl)
          simp only [Act.put, List.setIfInBounds_toArray, List.set_cons_zero, List.set_cons_succ, List.getElem_toArray, List.getElem_cons_zero]
          refine wpAnyH_take (i := 1) (v := ?v1) rfl (by kernel_rfl) (by kernel_rfl) (by kernel_rfl) (fun _ _ _ h => h) (Or.inl ⟨by rfl, ?hy1⟩) hS ?rest1
          case hy1 => (intro w hSw; go_simp; try with_reducible rfl)
          simp only [Act.put, List.setIfInBounds_toArray, List.set_cons_zero, List.set_cons_succ, List.getElem_toArray, List.getElem_cons_zero, List.getElem_cons_succ]
          refine wpAnyH_take (i := 2) (v := ?v2) rfl (by kernel_rfl) (by kernel_rfl) (by kernel_rfl) (fun _ _ _ h => h) (Or.inl ⟨by rfl, ?hy2⟩) hS ?rest2
          case hy2 => (intro w hSw; go_simp; try with_reducible rfl)
          simp only [Act.put, List.setIfInBounds_toArray, List.set_cons_zero, List.set_cons_succ, List.getElem_toArray, List.getElem_cons_zero, List.getElem_cons_succ]
          refine wpAnyH_take (i := 3) (v := ?v3) rfl (by kernel_rfl) (by kernel_rfl) (by kernel_rfl) (fun _ _ _ h => h) (Or.inl ⟨by rfl, ?hy3⟩) hS ?rest3
          case hy3 => (intro w hSw; go_simp; try with_reducible rfl)
          simp only [Act.put, List.setIfInBounds_toArray, List.set_cons_zero, List.set_cons_succ, List.getElem_toArray, List.getElem_cons_zero, List.getElem_cons_succ]
          refine wpAnyH_take (i := 4) (v := ?v4) rfl (by kernel_rfl) (by kernel_rfl) (by kernel_rfl) (fun _ _ _ h => h) (Or.inl ⟨by rfl, ?hy4⟩) hS ?rest4
          case hy4 => (intro w hSw; go_simp; try with_reducible rfl)
          simp only [Act.put, List.setIfInBounds_toArray, List.set_cons_zero, List.set_cons_succ, List.getElem_toArray, List.getElem_cons_zero, List.getElem_cons_succ]
          refine wpAnyH_take (i := 5) (v := ?v5) rfl (by kernel_rfl) (by kernel_rfl) (by kernel_rfl) (fun _ _ _ h => h) (Or.inl ⟨by rfl, ?hy5⟩) hS ?rest5
          case hy5 => (intro w hSw; go_simp; try with_reducible rfl)
          simp only [Act.put, List.setIfInBounds_toArray, List.set_cons_zero, List.set_cons_succ, List.getElem_toArray, List.getElem_cons_zero, List.getElem_cons_succ]
          refine wpAnyH_take (i := 6) (v := ?v6) rfl (by kernel_rfl) (by kernel_rfl) (by kernel_rfl) (fun _ _ _ h => h) (Or.inl ⟨by rfl, ?hy6⟩) hS ?rest6
          case hy6 => (intro w hSw; go_simp; try with_reducible rfl)
          simp only [Act.put, List.setIfInBounds_toArray, List.set_cons_zero, List.set_cons_succ, List.getElem_toArray, List.getElem_cons_zero, List.getElem_cons_succ]
          refine wpAnyH_take (i := 7) (v := ?v7) rfl (by kernel_rfl) (by kernel_rfl) (by kernel_rfl) (fun _ _ _ h => h) (Or.inl ⟨by rfl, ?hy7⟩) hS ?rest7
          case hy7 => (intro w hSw; go_simp; try with_reducible rfl)
          simp only [Act.put, List.setIfInBounds_toArray, List.set_cons_zero, List.set_cons_succ, List.getElem_toArray, List.getElem_cons_zero, List.getElem_cons_succ]
          refine wpAnyH_take (i := 8) (v := ?v8) rfl (by kernel_rfl) (by kernel_rfl) (by kernel_rfl) (fun _ _ _ h => h) (Or.inl ⟨by rfl, ?hy8⟩) hS ?rest8
          case hy8 => (intro w hSw; go_simp; try with_reducible rfl)
          simp only [Act.put, List.setIfInBounds_toArray, List.set_cons_zero, List.set_cons_succ, List.getElem_toArray, List.getElem_cons_zero, List.getElem_cons_succ]
          refine wpAnyH_ready (rs := [9]) (by kernel_rfl) (by simp) ?_
          refine AllReadyH.cons rfl (fun K hK => ?_) AllReadyH.nil
          go_simp
          refine hK.out _ _ trivial (fun hS => ?_)
          clear hK K
          try simp only [Act.put, List.setIfInBounds_toArray, List.set_cons_zero, List.set_cons_succ, List.getElem_toArray, List.getElem_cons_zero, List.getElem_cons_succ]
          refine wpAnyH_ready (rs := [10]) (by kernel_rfl) (by simp) ?_
          refine AllReadyH.cons rfl (fun K hK => ?_) AllReadyH.nil
          go_simp
          refine hK.out _ _ trivial (fun hS => ?_)
          clear hK K
          refine wpAnyH_done (by kernel_rfl) ?_ _
          refine ⟨rfl, HNx.out _ ?_⟩
          rfl
        case tail =>
          intro e a' W hX
          obtain ⟨rfl, rfl, hP, hbW⟩ := then_false hX
          have hI' := hI.out.next hbW
          have HIW : Hid (StI S m j l w W) := hI'
          have lP := lt_of_heap hP
          have lS := lt_of_heap hI.out.shd
          obtain ⟨cur, hcur, hfil⟩ := hI'.cur
          have hcs := hfil.sz
          obtain ⟨v0, t0⟩ : ∃ v, cur[j * 4]? = some v := ⟨_, Array.getElem?_eq_getElem (show j * 4 < cur.size by omega)⟩
          obtain ⟨v1, t1⟩ : ∃ v, cur[j * 4 + 1]? = some v := ⟨_, Array.getElem?_eq_getElem (show j * 4 + 1 < cur.size by omega)⟩
          obtain ⟨v2, t2⟩ : ∃ v, cur[j * 4 + 2]? = some v := ⟨_, Array.getElem?_eq_getElem (show j * 4 + 2 < cur.size by omega)⟩
          obtain ⟨v3, t3⟩ : ∃ v, cur[j * 4 + 3]? = some v := ⟨_, Array.getElem?_eq_getElem (show j * 4 + 3 < cur.size by omega)⟩
          have nR : w.heap.size ≠ S := by have := hI'.hS; omega
          have nG : w.heap.size + 1 ≠ S := by have := hI'.hS; omega
          have nSP : S ≠ wr.heap.size := by omega
          have nGP : w.heap.size + 1 ≠ wr.heap.size := by have := hI'.hS; omega
          have pc := cell_of hP
          have hgi := take_gives j l HL.out
          rw [E0.out] at hgi
          have HN := hfil.next hlt
          rw [E0.out, E1.out, E2.out, E3.out] at HN
          have HRel : Hid (∀ (w2 : World) (g b : Bool), Below W.heap.size W w2 → wrongB y0 y1 y2 y3 = false → g = givesB (l.take (4 * (j + 1))) → b = bringsB (l.take (4 * (j + 1))) →
              StI S m (j + 1) l w ((((((w2.setCell ⟨w.heap.size + 1, j * 4, none⟩ (.int .u8 y0)).setCell ⟨w.heap.size + 1, j * 4 + 1, none⟩ (.int .u8 y1)).setCell ⟨w.heap.size + 1, j * 4 + 2, none⟩ (.int .u8 y2)).setCell ⟨w.heap.size + 1, j * 4 + 3, none⟩ (.int .u8 y3)).setCell ⟨S, 1, none⟩ (.bool g)).setCell ⟨S, 2, none⟩ (.bool b))) := by
            intro w2 g b hb2 hwr hg hb
            have hI2 := HIW.out.next hb2
            have hc2 := (hb2.block _ (lt_of_heap hcur)).trans hcur
            have lR := lt_of_heap hI2.res
            refine ⟨?_, ⟨_, ?_, HN⟩, ?_, fun i hi => ?_, ?_, hI2.hS⟩
            · rw [heap_set_ne nR, heap_set_ne nR, heap_set_ne (by omega), heap_set_ne (by omega), heap_set_ne (by omega), heap_set_ne (by omega)]; exact hI2.res
            · rw [heap_set_ne nG, heap_set_ne nG]
              exact heap_set_same (heap_set_same (heap_set_same (heap_set_same hc2 _ _) _ _) _ _) _ _
            · have h4 : ((((w2.setCell ⟨w.heap.size + 1, j * 4, none⟩ (.int .u8 y0)).setCell ⟨w.heap.size + 1, j * 4 + 1, none⟩ (.int .u8 y1)).setCell ⟨w.heap.size + 1, j * 4 + 2, none⟩ (.int .u8 y2)).setCell ⟨w.heap.size + 1, j * 4 + 3, none⟩ (.int .u8 y3)).heap[S]? = some (.cells #[.slice (some ⟨w.heap.size + 1, 0, none⟩) m m, .bool (givesB (l.take (4 * j))), .bool (bringsB (l.take (4 * j)))] 84 (0, 0)) := by
                rw [heap_set_ne (Ne.symm nG), heap_set_ne (Ne.symm nG), heap_set_ne (Ne.symm nG), heap_set_ne (Ne.symm nG)]; exact hI2.shd
              refine (heap_set_same (heap_set_same h4 _ _) _ _).trans ?_
              rw [hg, hb]; rfl
            · by_cases hij : i < j
              · exact hI2.good i hij
              · obtain rfl : i = j := by omega
                rw [E0.out, E1.out, E2.out, E3.out]; exact hwr
            · exact ((((((hI2.bel.setCell (by dsimp only; omega) _).setCell (by dsimp only; omega) _).setCell (by dsimp only; omega) _).setCell (by dsimp only; omega) _).setCell (by dsimp only; omega) _).setCell (by dsimp only; omega) _)
          have HC : Hid (∀ w2, Below W.heap.size W w2 → w2.cell? ⟨w.heap.size + 1, j * 4, none⟩ = some v0 ∧ w2.cell? ⟨w.heap.size + 1, j * 4 + 1, none⟩ = some v1 ∧ w2.cell? ⟨w.heap.size + 1, j * 4 + 2, none⟩ = some v2 ∧ w2.cell? ⟨w.heap.size + 1, j * 4 + 3, none⟩ = some v3 ∧
              (∀ o, w2.frozen? ⟨w.heap.size + 1, o, none⟩ = false) ∧ (∀ o, w2.cell? ⟨S, o, none⟩ = #[.slice (some ⟨w.heap.size + 1, 0, none⟩) m m, .bool (givesB (l.take (4 * j))), .bool (bringsB (l.take (4 * j)))][o]?) ∧ (∀ o, w2.frozen? ⟨S, o, none⟩ = false) ∧
              (∀ o, w2.cell? ⟨w.heap.size, o, none⟩ = #[Value.slice none 0 0, .bool false, .bool false][o]?) ∧ (∀ o, w2.frozen? ⟨w.heap.size, o, none⟩ = false) ∧ (∀ o, w2.cell? ⟨wr.heap.size, o, none⟩ = #[Value.int .u8 y0, .int .u8 y1, .int .u8 y2, .int .u8 y3][o]?)) := by
            intro w2 hb2
            have hI2 := HIW.out.next hb2
            have hc2 := (hb2.block _ (lt_of_heap hcur)).trans hcur
            have c := cell_of hc2
            exact ⟨(c _).trans t0, (c _).trans t1, (c _).trans t2, (c _).trans t3, frozen_of hc2, cell_of hI2.shd, frozen_of hI2.shd, cell_of hI2.res, frozen_of hI2.res, cell_of ((hb2.block _ lP).trans hP)⟩
          have HBl : Hid (∀ w2, Below W.heap.size W w2 → Below w.heap.size w w2) := fun w2 hb2 => (HIW.out.next hb2).bel
          clear hI hI' hcur hfil hcs HN t0 t1 t2 t3 hP hbW
          generalize givesB (l.take (4 * (j + 1))) = g' at *
          generalize bringsB (l.take (4 * (j + 1))) = b' at *
          generalize givesB (l.take (4 * j)) = g at *
          generalize bringsB (l.take (4 * j)) = b at *
          cases hwr : wrongB y0 y1 y2 y3
          · rw [hwr] at HM
            have HGI : Hid (g' = (g || decide (y0 = 7)) ∧ b' = (b || decide (y0 = 8))) := hgi
            clear hgi
            cases g <;> cases b
            all_goals
              go_wp2_with (go_at_call 113; refine (HM.out _).mono ?_; rintro e w2 ⟨rfl, hb2⟩; obtain ⟨t0, t1, t2, t3, ft, sc, fs, rc, fr, pc2⟩ := HC.out w2 hb2; clear rc fr)
              go_roundg n'
              case rel => exact ⟨j + 1, by omega, by go_num, HRel.out w2 _ _ hb2 hwr (by rw [HGI.out.1]; first | rfl | simp [beq_dec]) (by rw [HGI.out.2]; first | rfl | simp [beq_dec])⟩
              case measure => omega
          · rw [hwr] at HM
            clear HRel hgi
            go_wp2_with (go_at_call 113; refine (HM.out _).mono ?_; rintro e w2 ⟨rfl, hb2⟩; obtain ⟨t0, t1, t2, t3, ft, sc, fs, rc, fr, pc2⟩ := HC.out w2 hb2; clear t0 t1 t2 t3 ft sc fs pc2)
            refine bodyPost_ret (v := .tuple #[shdV (.slice none 0 0) false false, .bool false]) (by simp [results, Tryz.results85, go_sem, rc]) rfl ?_
            refine HP.out j _ HL.out (by rw [E0.out, E1.out, E2.out, E3.out]; exact hwr) ?_
            exact (((HBl.out w2 hb2).setCell (Nat.le_refl _) _).setCell (Nat.le_refl _) _).setCell (Nat.le_refl _) _
      · obtain rfl : gk = 0 := by omega
        obtain rfl : j = m := by omega
        have sc := cell_of hI.out.shd
        have rc := cell_of hI.out.res
        have fr := frozen_of hI.out.res
        go_wp2_with fail
        refine bodyPost_ret (v := .tuple #[shdV (.slice (some ⟨w.heap.size + 1, 0, none⟩) j j) (givesB (l.take (4 * j))) (bringsB (l.take (4 * j))), .bool true]) (by simp [results, Tryz.results85, go_sem, rc]) rfl ?_
        refine HE.out _ _ _ hI.out ?_
        exact (((Kept.refl (· = w.heap.size) _).set (.inl rfl) _ _).set (.inl rfl) _ _).set (.inl rfl) _ _
end Go.Proofs.YthcikinkicpicaaGreatDoor

namespace Go.Proofs.YthcikinkicpicaaGreatDoor
open Go.RowKit
section
variable (base : Nat) (p cB zB sB A n : Nat) (s : ByteArray) (k : Int) (ways : Wy) (shV outV : Value) (st : St) (a : ByteArray) (l : List Int) (w : World)

theorem Dr.shader {base p cB zB sB A n : Nat} {s : ByteArray} {k : Int} {ways : Wy} {shV outV v : Value} {st : St} {w : World} {l : List Int} (h : Dr base w p cB zB sB A n s k ways shV outV st) (hs : StepsAt w v l) :
    Dr base (((w.setCell ⟨p, 25, none⟩ v).setCell ⟨p, 26, none⟩ (.bool (givesB l))).setCell ⟨p, 27, none⟩ (.bool (bringsB l))) p cB zB sB A n s k ways v outV { st with sh := l } ∧ Kept (· = p) w (((w.setCell ⟨p, 25, none⟩ v).setCell ⟨p, 26, none⟩ (.bool (givesB l))).setCell ⟨p, 27, none⟩ (.bool (bringsB l))) := by
  have hk : Kept (· = p) w (((w.setCell ⟨p, 25, none⟩ v).setCell ⟨p, 26, none⟩ (.bool (givesB l))).setCell ⟨p, 27, none⟩ (.bool (bringsB l))) := ((kept_set1 p 25 v).trans (kept_set1 p 26 _)).trans (kept_set1 p 27 _)
  obtain ⟨fc, fz, fs, _, ⟨c1, b1, t1⟩, ⟨c2, b2, t2⟩, c3, b3, t3⟩ := h.sf.ex
  refine ⟨⟨?_, h.sf.kept hk ?_ ?_ ?_ rfl rfl rfl, hs.kept hk (fun g cur hg => ne_types hg h.bp (by decide)), owns_kept h.out hk (fun g cur hg => ne_types hg h.bp (by decide)), h.b0, h.b1, h.b2, h.b3, (hk.block _ (lt_of_heap h.mp) (ne_map h.mp h.bp)).trans h.mp, h.b4⟩, hk⟩
  · exact (heap_set_same (heap_set_same (heap_set_same h.bp 25 v) 26 _) 27 _).trans (by simp only [xcells, qAt, List.setIfInBounds_toArray, List.set_cons_succ, List.set_cons_zero])
  · exact ne_types b1 h.bp (by decide)
  · exact ne_types b2 h.bp (by decide)
  · exact ne_types b3 h.bp (by decide)

set_option maxRecDepth 100000 in
set_option maxHeartbeats 1000000 in
theorem setShader_in (h : Dr base w p cB zB sB A n s k ways shV outV st) (ha : ArgsOf a l) (m : Nat) (hl : l.length = 1 + 4 * m) (hm : l.getD 0 0 = m) :
    Calls Tryz.prog 58 #[.pointer (some ⟨p, 14, none⟩), .string a] w (CmdPost base p s k ways w ways.v (st.cmd 8 l)) := by
  obtain ⟨l', rfl⟩ : ∃ l', l = (m : Int) :: l' := by
    cases l with
    | nil => simp at hl; omega
    | cons x xs => exact ⟨xs, by simp at hm; rw [hm]⟩
  have hl' : l'.length = 4 * m := by simp at hl; omega
  have hrd := readShader_in a m l' w ha hl'
  have hc : st.cmd 8 ((m : Int) :: l') = if 16 < m ∨ badSteps l' = true then (st, 2) else ({ st with sh := l' }, 0) := by
    have hb : badB st.W st.H 8 ((m : Int) :: l') = (decide (16 < (m : Int)) || badSteps l') := by simp [badB]
    have hd : st.does 8 ((m : Int) :: l') = ({ st with sh := l' }, 0) := by simp [St.does]
    unfold St.cmd
    rw [hb, hd]
    by_cases h1 : 16 < m
    · rw [decide_eq_true (show (16 : Int) < (m : Int) by omega), Bool.true_or, if_pos rfl, if_pos (Or.inl h1)]
    · rw [decide_eq_false (show ¬ (16 : Int) < (m : Int) by omega), Bool.false_or]
      cases hb2 : badSteps l'
      · rw [if_neg (by simp), if_neg (by simp [h1])]
      · rw [if_pos rfl, if_pos (.inr rfl)]
  rw [hc]
  have HD : Hid (Dr base w p cB zB sB A n s k ways shV outV st) := h
  unfold StPost at hrd
  by_cases hb : 16 < m ∨ badSteps l' = true
  · rw [if_pos hb]
    simp only [if_pos hb] at hrd
    have HR : Hid (Calls Tryz.prog 85 #[.string a] w fun e w' => e = .returned (.tuple #[.agg #[.slice none 0 0, .bool false, .bool false], .bool false]) ∧ Below w.heap.size w w') := hrd
    clear hrd hb hc h
    go_enter Tryz.func58, Tryz.ntmps58
    go_wp2_with (go_at_call 85; refine HR.out.mono ?_; rintro e w1 ⟨rfl, hb1⟩)
    go_ret
    have hb2 : Below w.heap.size w (w1.alloc (.cells #[.slice none 0 0, .bool false, .bool false] 84)) := hb1.alloc hb1.size _
    exact ⟨rfl, _, _, _, _, _, _, _, HD.out.frame hb2, HD.out.lowOf hb2⟩
  · rw [if_neg hb]
    simp only [if_neg hb] at hrd
    have HR : Hid (Calls Tryz.prog 85 #[.string a] w fun e w' => ∃ v, e = .returned (.tuple #[.agg #[v, .bool (givesB l'), .bool (bringsB l')], .bool true]) ∧ StepsAt w' v l' ∧ Below w.heap.size w w') := hrd
    clear hrd hb hc h
    go_enter Tryz.func58, Tryz.ntmps58
    go_wp2_with fail
    refine HR.out.mono ?_
    rintro e w1 ⟨v, rfl, hs1, hb1⟩
    have HS1 : Hid (StepsAt w1 v l') := hs1
    have hd2 := HD.out.frame hb1
    have hd1 : Hid (Dr base w1 p cB zB sB A n s k ways shV outV st) := hd2
    have c25 := cell_of hd2.bp
    have f25 := frozen_of hd2.bp
    simp only [xcells] at c25
    have lp := lt_of_heap hd2.bp
    have np : w1.heap.size ≠ p := by omega
    have HB : Hid (Low base w w1) := HD.out.lowOf hb1
    have hv : v = .slice none 0 0 ∨ ∃ g m', v = .slice (some ⟨g, 0, none⟩) m' m' := by
      rcases hs1.2 with ⟨e, _⟩ | ⟨g, m', cur, e, _⟩
      · exact .inl e
      · exact .inr ⟨g, m', e⟩
    clear hs1 hd2
    generalize hgl : givesB l' = gl at *
    generalize hbl : bringsB l' = bl at *
    have HG : Hid (givesB l' = gl ∧ bringsB l' = bl) := ⟨hgl, hbl⟩
    clear hgl hbl
    rcases hv with rfl | ⟨g, m', rfl⟩
    all_goals
      go_wp2_with fail
      go_ret
      have hE := hd1.out.shader HS1.out
      rw [HG.out.1, HG.out.2] at hE
      exact ⟨rfl, _, _, _, _, _, _, _, hE.1.frame below1, (HB.out.trans (hd1.out.low hE.2)).trans (hE.1.lowOf below1)⟩
end
end Go.Proofs.YthcikinkicpicaaGreatDoor
