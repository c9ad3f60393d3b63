import Derived.Test.YthcikinkicpicaaGreatDoorA01
import Derived.Test.YthcikinkicpicaaGreatDoorB12
import Derived.Test.YthcikinkicpicaaGreatDoorA35
import Derived.Laws.IdiomStrings
import Derived.Deep.LoopGhost

namespace Go.Proofs.YthcikinkicpicaaGreatDoor

/-- Two streams whose commands, from i on, are the same but for what stands behind 12. -/
def Alike (s s' : ByteArray) : Nat → Nat → Prop
  | 0, _ => True
  | f + 1, i => s.size ≤ i ∨ (byteAt s' i = byteAt s i ∧ lenAt s' i = lenAt s i ∧
      ((lenAt s i < 0 ∨ (s.size : Int) < i + 1 + lenAt s i) ∨ ((byteAt s i = 12 ∨ ∀ j, j < (lenAt s i).toNat → byteAt s' (i + 1 + j) = byteAt s (i + 1 + j)) ∧ Alike s s' f (i + 1 + (lenAt s i).toNat))))

theorem one12 (st : St) (a b : List Int) (i : Int) : st.one 12 a i = st.one 12 b i := by
  unfold St.one badB St.does
  simp

theorem alike_play (s s' : ByteArray) (hs : s'.size = s.size) : ∀ (f i : Nat) (st : St), Alike s s' f i → playFrom s' f i st = playFrom s f i st
  | 0, _, _, _ => rfl
  | f + 1, i, st, h => by
    rw [playFrom, playFrom, hs]
    rcases h with h | ⟨h1, h2, h3⟩
    · rw [if_pos h, if_pos h]
    · rw [h2]
      by_cases hi : s.size ≤ i
      · rw [if_pos hi, if_pos hi]
      · rw [if_neg hi, if_neg hi]
        by_cases hb : lenAt s i < 0 ∨ (s.size : Int) < i + 1 + lenAt s i
        · rw [if_pos hb, if_pos hb]
        · rw [if_neg hb, if_neg hb]
          rcases h3 with h3 | ⟨h3, h4⟩
          · exact absurd h3 hb
          · have e : st.one (byteAt s' i) (argsAt s' (i + 1) (lenAt s i).toNat) i = st.one (byteAt s i) (argsAt s (i + 1) (lenAt s i).toNat) i := by
              rw [h1]
              rcases h3 with h3 | h3
              · rw [h3]; exact one12 st _ _ _
              · have e2 : argsAt s' (i + 1) (lenAt s i).toNat = argsAt s (i + 1) (lenAt s i).toNat := by
                  unfold argsAt
                  refine List.map_congr_left (fun j hj => ?_)
                  exact h3 j (List.mem_range.1 hj)
                rw [e2]
            rw [e]
            exact alike_play s s' hs f _ _ h4

/-- The bytes of a list are those of a text. -/
theorem byteAt_list (l : List UInt8) (j : Nat) : byteAt ⟨l.toArray⟩ j = ((l.getD j 0).toNat : Int) := by
  unfold byteAt
  simp

/-- So far as the commands are gone through, the bytes L serve for s. -/
structure PlainI (s : ByteArray) (i : Nat) (L : List UInt8) : Prop where
  len : L.length = s.size
  rest : ∀ j, i ≤ j → ((L.getD j 0).toNat : Int) = byteAt s j
  pre : ∃ c, c ≤ i ∧ ∀ s' : ByteArray, s'.size = s.size → (∀ j, j < i → byteAt s' j = ((L.getD j 0).toNat : Int)) → ∀ f, Alike s s' f i → Alike s s' (c + f) 0

theorem PlainI.start (s : ByteArray) : PlainI s 0 s.data.toList :=
  ⟨by simp, fun j _ => rfl, 0, Nat.le_refl _, fun s' _ _ f h => by simpa using h⟩

theorem lenAt_same {s s' : ByteArray} (hs : s'.size = s.size) {i : Nat} (h0 : byteAt s' i = byteAt s i) (h1 : byteAt s i = 8 → i + 1 < s.size → byteAt s' (i + 1) = byteAt s (i + 1)) : lenAt s' i = lenAt s i := by
  unfold lenAt
  rw [h0, hs]
  by_cases h8 : byteAt s i = 8
  · rw [if_pos h8, if_pos h8]
    by_cases hb : s.size ≤ i + 1
    · rw [if_pos hb, if_pos hb]
    · rw [if_neg hb, if_neg hb, h1 h8 (by omega)]
  · rw [if_neg h8, if_neg h8]

theorem PlainI.next {s : ByteArray} {i n : Nat} {L L' : List UInt8} (h : PlainI s i L) (_hi : i < s.size) (hn : lenAt s i = (n : Int)) (_hin : i + 1 + n ≤ s.size) (h1 : 1 ≤ n)
    (hl : L'.length = L.length) (ho : ∀ j, ¬ (byteAt s i = 12 ∧ j = i + 1) → L'.getD j 0 = L.getD j 0) : PlainI s (i + 1 + n) L' := by
  obtain ⟨c, hc, hp⟩ := h.pre
  refine ⟨hl.trans h.len, fun j hj => ?_, c + 1, by omega, fun s' hs ha f hf => ?_⟩
  · rw [ho j (by omega)]; exact h.rest j (by omega)
  · have hb : ∀ j, i ≤ j → j < i + 1 + n → ¬ (byteAt s i = 12 ∧ j = i + 1) → byteAt s' j = byteAt s j := fun j h1 h2 h3 => by
      rw [ha j h2, ho j h3]; exact h.rest j h1
    have hbi := hb i (Nat.le_refl _) (by omega) (by omega)
    have hst : Alike s s' (f + 1) i := by
      refine .inr ⟨hbi, lenAt_same hs hbi (fun h8 _ => hb (i + 1) (by omega) (by omega) (by omega)), .inr ⟨?_, ?_⟩⟩
      · by_cases h12 : byteAt s i = 12
        · exact .inl h12
        · refine .inr (fun j hj => hb _ (by omega) ?_ (by omega))
          rw [hn, Int.toNat_natCast] at hj; omega
      · rw [hn, Int.toNat_natCast]; exact hf
    have := hp s' hs (fun j hj => by rw [ha j (by omega), ho j (by omega)]) (f + 1) hst
    rwa [show c + 1 + f = c + (f + 1) from by omega]

theorem PlainI.done {s : ByteArray} {i : Nat} {L : List UInt8} (h : PlainI s i L) (hi : i ≤ s.size) (hb : s.size ≤ i ∨ lenAt s i < 0 ∨ (s.size : Int) < i + 1 + lenAt s i) : Alike s ⟨L.toArray⟩ s.size 0 := by
  obtain ⟨c, hc, hp⟩ := h.pre
  have hs : (⟨L.toArray⟩ : ByteArray).size = s.size := by show L.toArray.size = s.size; rw [List.size_toArray]; exact h.len
  have hal : ∀ f, Alike s ⟨L.toArray⟩ f i := by
    intro f
    cases f with
    | zero => exact trivial
    | succ f =>
      rcases hb with hb | hb
      · exact .inl hb
      · have e := fun j hj => (byteAt_list L j).trans (h.rest j hj)
        exact .inr ⟨e i (Nat.le_refl _), lenAt_same hs (e i (Nat.le_refl _)) (fun _ _ => e (i + 1) (by omega)), .inl hb⟩
  have := hp ⟨L.toArray⟩ hs (fun j _ => byteAt_list L j) (s.size - c) (hal _)
  rwa [show c + (s.size - c) = s.size from by omega] at this
end Go.Proofs.YthcikinkicpicaaGreatDoor

namespace Go.Proofs.YthcikinkicpicaaGreatDoor
open Go.RowKit

/-- The bytes of a text lie in a block of their own. -/
structure Byt (w : World) (C : Nat) (L : List UInt8) (wr : World) : Prop where
  blk : ∃ cur f, wr.heap[w.heap.size]? = some (.cells cur 5 f) ∧ (∀ j, j < L.length → cur[j]? = some (.int .u8 ((L.getD j 0).toNat : Int))) ∧ ∀ j, j < L.length → wr.frozen? ⟨w.heap.size, j, none⟩ = false
  cap : L.length ≤ C
  bel : Below w.heap.size w wr

theorem byt_start (w : World) (s : ByteArray) (C : Nat) (hC : s.size ≤ C) :
    Byt w C s.data.toList (w.drew.alloc (.cells (bytesRow s C) 5 ((bytesRow s C).size, (bytesRow s C).size + 1))) := by
  have hsz : (bytesRow s C).size = C := by simp [bytesRow]; omega
  have hblk : (w.drew.alloc (.cells (bytesRow s C) 5 ((bytesRow s C).size, (bytesRow s C).size + 1))).heap[w.heap.size]? = some (.cells (bytesRow s C) 5 ((bytesRow s C).size, (bytesRow s C).size + 1)) := heap_alloc_new w.drew _
  refine ⟨⟨_, _, hblk, fun j hj => ?_, fun j hj => ?_⟩, by simpa using hC, ((Below.refl _ _).drew).alloc (Nat.le_refl _) _⟩
  · have hj' : j < s.data.size := by simpa using hj
    simp only [bytesRow]
    rw [Array.getElem?_append_left (by simpa using hj'), Array.getElem?_map, Array.getElem?_eq_getElem hj', List.getD_eq_getElem?_getD, Array.getElem?_toList, Array.getElem?_eq_getElem hj']
    rfl
  · have hj' : j < s.size := by simpa using hj
    simp only [World.frozen?, hblk]
    simp [hsz]
    omega

theorem Byt.below {w : World} {C : Nat} {L : List UInt8} {wr w' : World} (h : Byt w C L wr) (hb : Below wr.heap.size wr w') : Byt w C L w' := by
  obtain ⟨⟨cur, f, hc, h1, h2⟩, h3, h4⟩ := h
  have hh := (hb.block _ (lt_of_heap hc)).trans hc
  refine ⟨⟨cur, f, hh, h1, fun j hj => ?_⟩, h3, h4.trans (hb.mono h4.size)⟩
  have := h2 j hj
  simp only [World.frozen?, hc] at this
  simp only [World.frozen?, hh]
  exact this

theorem Byt.set {w : World} {C : Nat} {L : List UInt8} {wr : World} (h : Byt w C L wr) (i : Nat) (hi : i < L.length) (b : UInt8) : Byt w C (L.set i b) (wr.setCell ⟨w.heap.size, i, none⟩ (.int .u8 (b.toNat : Int))) := by
  obtain ⟨⟨cur, f, hc, h1, h2⟩, h3, h4⟩ := h
  have hh := heap_set_same hc i (.int .u8 (b.toNat : Int))
  refine ⟨⟨_, f, hh, fun j hj => ?_, fun j hj => ?_⟩, by simpa using h3, h4.setCell (p := ⟨w.heap.size, i, none⟩) (Nat.le_refl _) _⟩
  · rw [List.length_set] at hj
    have hcs : j < cur.size := by
      have := h1 j hj
      exact (Array.getElem?_eq_some_iff.1 this).1
    rw [Array.getElem?_setIfInBounds]
    by_cases e : i = j
    · subst e
      rw [if_pos rfl, if_pos hcs, List.getD_eq_getElem?_getD, List.getElem?_set_self hi]
      rfl
    · rw [if_neg e, h1 j hj, List.getD_eq_getElem?_getD, List.getD_eq_getElem?_getD, List.getElem?_set_ne e]
  · rw [List.length_set] at hj
    have := h2 j hj
    simp only [World.frozen?, hc] at this
    simp only [World.frozen?, hh]
    exact this

theorem Byt.back {w : World} {C : Nat} {L : List UInt8} {wr : World} (h : Byt w C L wr) : ∀ j (hj : j < L.length), wr.cell? ((⟨w.heap.size, 0, none⟩ : Addr).add j) = some (.int .u8 (L[j].toNat : Int)) := by
  obtain ⟨⟨cur, f, hc, h1, h2⟩, h3, h4⟩ := h
  intro j hj
  rw [show (⟨w.heap.size, 0, none⟩ : Addr).add j = ⟨w.heap.size, 0 + j, none⟩ from by unfold Addr.add; split <;> simp_all, cell_of hc, Nat.zero_add, h1 j hj, List.getD_eq_getElem?_getD, List.getElem?_eq_getElem hj]
  rfl

/-- So far as the commands are gone through, no ways stand behind 12. -/
structure ZerI (s : ByteArray) (i : Nat) (L : List UInt8) : Prop where
  pre : ∃ c, c ≤ i ∧ ∀ s' : ByteArray, s'.size = s.size → (∀ j, j < i → byteAt s' j = ((L.getD j 0).toNat : Int)) → ∀ f, zeroFrom s' f i → zeroFrom s' (c + f) 0
def PlainZ (s : ByteArray) (i : Nat) (L : List UInt8) : Prop := PlainI s i L ∧ ZerI s i L
theorem PlainZ.start (s : ByteArray) : PlainZ s 0 s.data.toList := ⟨PlainI.start s, 0, Nat.le_refl _, fun s' _ _ f h => by simpa using h⟩
theorem PlainZ.next {s : ByteArray} {i n : Nat} {L L' : List UInt8} (h : PlainZ s i L) (hi : i < s.size) (hn : lenAt s i = (n : Int)) (hin : i + 1 + n ≤ s.size) (h1 : 1 ≤ n)
    (hl : L'.length = L.length) (ho : ∀ j, ¬ (byteAt s i = 12 ∧ j = i + 1) → L'.getD j 0 = L.getD j 0) (hz : byteAt s i = 12 → L'.getD (i + 1) 0 = 0) : PlainZ s (i + 1 + n) L' := by
  refine ⟨h.1.next hi hn hin h1 hl ho, ?_⟩
  obtain ⟨c, hc, hp⟩ := h.2.pre
  refine ⟨c + 1, by omega, fun s' hs ha f hf => ?_⟩
  have hb : ∀ j, i ≤ j → j < i + 1 + n → ¬ (byteAt s i = 12 ∧ j = i + 1) → byteAt s' j = byteAt s j := fun j h1 h2 h3 => by
    rw [ha j h2, ho j h3]; exact h.1.rest j h1
  have hbi := hb i (Nat.le_refl _) (by omega) (by omega)
  have hle : lenAt s' i = (n : Int) := (lenAt_same hs hbi (fun h8 _ => hb (i + 1) (by omega) (by omega) (by omega))).trans hn
  have hst : zeroFrom s' (f + 1) i := by
    rw [zeroFrom]
    refine .inr (.inr ⟨fun e => ?_, by rw [hle, Int.toNat_natCast]; exact hf⟩)
    rw [ha (i + 1) (by omega), hz (by rw [← hbi]; exact e)]; rfl
  have := hp s' hs (fun j hj => by rw [ha j (by omega), ho j (by omega)]) (f + 1) hst
  rwa [show c + 1 + f = c + (f + 1) from by omega]
theorem ZerI.done {s : ByteArray} {i : Nat} {L : List UInt8} (h : ZerI s i L) (hP : PlainI s i L) (hi : i ≤ s.size) (hb : s.size ≤ i ∨ lenAt s i < 0 ∨ (s.size : Int) < i + 1 + lenAt s i) : zeroFrom ⟨L.toArray⟩ s.size 0 := by
  obtain ⟨c, hc, hp⟩ := h.pre
  have hs : (⟨L.toArray⟩ : ByteArray).size = s.size := by show L.toArray.size = s.size; rw [List.size_toArray]; exact hP.len
  have hal : ∀ f, zeroFrom ⟨L.toArray⟩ f i := by
    intro f
    cases f with
    | zero => exact trivial
    | succ f =>
      rw [zeroFrom, hs]
      rcases hb with hb | hb
      · exact .inl hb
      · have e := fun j hj => (byteAt_list L j).trans (hP.rest j hj)
        rw [lenAt_same hs (e i (Nat.le_refl _)) (fun _ _ => e (i + 1) (by omega))]
        exact .inr (.inl hb)
  have := hp ⟨L.toArray⟩ hs (fun j _ => byteAt_list L j) (s.size - c) (hal _)
  rwa [show c + (s.size - c) = s.size from by omega] at this

set_option maxRecDepth 100000 in
set_option maxHeartbeats 1000000 in
theorem Plain_z (s : ByteArray) (w : World) (hs : s.size ≤ 100000000000) :
    Calls Tryz.prog 16 #[.string s] w fun e w' => ∃ s' : ByteArray, e = .returned (.string s') ∧ s'.size = s.size ∧ Alike s s' s.size 0 ∧ zeroFrom s' s.size 0 ∧ Below w.heap.size w w' := by
  have hcv := fun w s => run_bytes_of_string (P := Tryz.prog) w 9 99 5 s Tryz.underlying9 Tryz.underlying99 Tryz.underlying5
  have HBk : Hid (∀ (wr : World) (C : Nat) (L : List UInt8), Byt w C L wr → (convert 99 9 (.slice (some ⟨w.heap.size, 0, none⟩) L.length C)).run Tryz.prog wr = .ok (.string ⟨L.toArray⟩) wr) := fun wr C L h => run_convert_bytes_back (P := Tryz.prog) wr 99 9 5 ⟨w.heap.size, 0, none⟩ C L Tryz.underlying99 Tryz.underlying5 Tryz.underlying9 h.back
  have hge := grownCap_ge w s.size 0 5
  have hst := byt_start w s (grownCap w s.size 0 5) hge
  obtain ⟨C, hC⟩ : ∃ C, grownCap w s.size 0 5 = C := ⟨_, rfl⟩
  rw [hC] at hst hge
  have hcv' := hcv w s
  rw [hC] at hcv'
  have HST : Hid (Byt w C s.data.toList (w.drew.alloc (.cells (bytesRow s C) 5 ((bytesRow s C).size, (bytesRow s C).size + 1)))) := hst
  have HLn : Hid (∀ (i : Nat) (W : World), i < s.size → Calls Tryz.prog 20 #[.agg #[.string s, .int .i64 i, .slice none 0 0]] W fun e w' => e = .returned (.int .i64 (lenAt s i)) ∧ Below W.heap.size W w') := fun i W hi => Length_any s i _ W hi (by unfold maxLen; omega)
  have HF : Hid (∀ (i : Nat) (L : List UInt8) (wr : World), Byt w C L wr → PlainZ s i L → i ≤ s.size → (s.size ≤ i ∨ lenAt s i < 0 ∨ (s.size : Int) < i + 1 + lenAt s i) → ∃ s' : ByteArray, Ending.returned (.string ⟨L.toArray⟩) = .returned (.string s') ∧ s'.size = s.size ∧ Alike s s' s.size 0 ∧ zeroFrom s' s.size 0 ∧ Below w.heap.size w wr) := fun i L wr hB hP hi hb =>
    ⟨⟨L.toArray⟩, rfl, by show L.toArray.size = s.size; rw [List.size_toArray]; exact hP.1.len, hP.1.done hi hb, hP.2.done hP.1 hi hb, hB.bel⟩
  clear hst hcv hC
  go_enter Tryz.func16, Tryz.ntmps16
  go_wp2_with fail
  go_loopg [4] s.size (fun f iv wr => ∃ (i : Nat) (L : List UInt8), i ≤ s.size ∧ s.size ≤ i + f ∧ iv = .int .i64 i ∧ Hid (PlainZ s i L) ∧ Hid (Byt w C L wr))
  case atStart => exact ⟨0, s.data.toList, by omega, by omega, rfl, PlainZ.start s, HST⟩
  case round =>
    obtain ⟨i, L, hi, hif, rfl, hP, hB⟩ := hrel
    clear HST hcv'
    have hLs : L.length = s.size := hP.out.1.len
    have HBk' := HBk.out wr C L hB.out
    rw [hLs] at HBk'
    by_cases hlt : i < s.size
    · obtain ⟨f', rfl⟩ : ∃ f', gk = f' + 1 := ⟨gk - 1, by omega⟩
      have d1 : (i : Int) < (s.size : Int) := by omega
      have hlb := lenAt_bd s i
      have hfin := HF.out i L
      have hnx := fun (n : Nat) (L' : List UInt8) => PlainZ.next hP.out (n := n) (L' := L') hlt
      obtain ⟨nn, hnn⟩ : ∃ nn, lenAt s i = nn := ⟨_, rfl⟩
      have hone := fun (j : Nat) (h : lenAt s i = (j : Int)) => (lenOk_of h).2
      have HL1 : Hid (∀ W : World, Calls Tryz.prog 20 #[.agg #[.string s, .int .i64 i, .slice none 0 0]] W fun e w' => e = .returned (.int .i64 nn) ∧ Below W.heap.size W w') := fun W => by have := HLn.out i W hlt; rwa [hnn] at this
      rw [hnn] at hfin hnx hlb hone
      have HFi : Hid (∀ wr, Byt w C L wr → (nn < 0 ∨ (s.size : Int) < i + 1 + nn) → ∃ s' : ByteArray, Ending.returned (.string ⟨L.toArray⟩) = .returned (.string s') ∧ s'.size = s.size ∧ Alike s s' s.size 0 ∧ zeroFrom s' s.size 0 ∧ Below w.heap.size w wr) := fun wr hB h => hfin wr hB hP.out hi (.inr h)
      clear hfin hnn HLn HF
      by_cases hneg : nn < 0
      · clear hnx hone
        go_wp2_with (go_at_call 20; refine (HL1.out _).mono ?_; rintro e w1 ⟨rfl, hb1⟩; have hB1 := hB.out.below hb1; have HBk1 := HBk.out w1 C L hB1; rw [hLs] at HBk1)
        go_ret
        exact HFi.out _ hB1 (.inl hneg)
      · have k1 : wrap64 ((i : Int) + 1 + nn) = (i : Int) + 1 + nn := w64 (by omega)
        by_cases hov : (s.size : Int) < i + 1 + nn
        · clear hnx hone
          go_wp2_with (go_at_call 20; refine (HL1.out _).mono ?_; rintro e w1 ⟨rfl, hb1⟩; have hB1 := hB.out.below hb1; have HBk1 := HBk.out w1 C L hB1; rw [hLs] at HBk1)
          go_ret
          exact HFi.out _ hB1 (.inr hov)
        · obtain ⟨n, rfl⟩ := Int.eq_ofNat_of_zero_le (show 0 ≤ nn by omega)
          have n1 := hone n rfl
          have hx : ((L.getD i 0).toNat : Int) = byteAt s i := hP.out.1.rest i (Nat.le_refl _)
          have HNx : Hid (∀ L', L'.length = L.length → (∀ j, ¬ (byteAt s i = 12 ∧ j = i + 1) → L'.getD j 0 = L.getD j 0) → (byteAt s i = 12 → L'.getD (i + 1) 0 = 0) → PlainZ s (i + 1 + n) L') := fun L' h1 h2 h3 => hnx n L' rfl (by omega) n1 h1 h2 h3
          have HCi : Hid (∀ W, Byt w C L W → W.cell? ⟨w.heap.size, i, none⟩ = some (.int .u8 (byteAt s i)) ∧ (∃ v, W.cell? ⟨w.heap.size, i + 1, none⟩ = some v) ∧ W.frozen? ⟨w.heap.size, i + 1, none⟩ = false) := by
            rintro W ⟨⟨cur, f, hc, h1, h2⟩, _, _⟩
            exact ⟨by rw [cell_of hc, h1 i (by omega), hx], ⟨_, by rw [cell_of hc]; exact h1 (i + 1) (by omega)⟩, h2 (i + 1) (by omega)⟩
          clear hnx hone hx HFi
          generalize byteAt s i = x at *
          have zi : (i : Int) + 1 < (s.size : Int) := by omega
          by_cases h12 : x = 12
          · subst h12
            go_wp2_with (go_at_call 20; refine (HL1.out _).mono ?_; rintro e w1 ⟨rfl, hb1⟩; have hB1 := hB.out.below hb1; have HB1 : Hid (Byt w C L w1) := hB1; obtain ⟨ci, ⟨v1, ci1⟩, fi1⟩ := HCi.out w1 hB1; clear hB1)
            go_roundg f'
            case rel =>
              refine ⟨i + 1 + n, L.set (i + 1) 0, by omega, by omega, by go_num, HNx.out _ (by simp) (fun j hj => ?_) (fun _ => by rw [List.getD_eq_getElem?_getD, List.getElem?_set_self (by omega)]; rfl), HB1.out.set (i + 1) (by omega) 0⟩
              rw [List.getD_eq_getElem?_getD, List.getD_eq_getElem?_getD, List.getElem?_set_ne (fun e => by first | exact hj ⟨rfl, e.symm⟩ | exact hj ⟨trivial, e.symm⟩)]
            case measure => omega
          · have b12 : (x == 12) = false := by simpa using h12
            have HH12 : Hid (¬ x = 12) := h12
            clear h12
            go_wp2_with (go_at_call 20; refine (HL1.out _).mono ?_; rintro e w1 ⟨rfl, hb1⟩; have hB1 := hB.out.below hb1; have HB1 : Hid (Byt w C L w1) := hB1; obtain ⟨ci, _, _⟩ := HCi.out w1 hB1; clear hB1)
            go_roundg f'
            case rel => exact ⟨i + 1 + n, L, by omega, by omega, by go_num, HNx.out _ rfl (fun j _ => rfl) (fun e => absurd e HH12.out), HB1⟩
            case measure => omega
    · obtain rfl : i = s.size := by omega
      have d1 : ¬ ((s.size : Int) < (s.size : Int)) := by omega
      go_wp2_with fail
      go_ret
      exact HF.out _ L _ hB.out hP.out (Nat.le_refl _) (.inl (Nat.le_refl _))

theorem Plain_in (s : ByteArray) (w : World) (hs : s.size ≤ 100000000000) :
    Calls Tryz.prog 16 #[.string s] w fun e w' => ∃ s' : ByteArray, e = .returned (.string s') ∧ s'.size = s.size ∧ Alike s s' s.size 0 ∧ Below w.heap.size w w' := by
  refine (Plain_z s w hs).mono ?_
  rintro e w' ⟨s', rfl, h1, h2, _, h3⟩
  exact ⟨s', rfl, h1, h2, h3⟩
end Go.Proofs.YthcikinkicpicaaGreatDoor
