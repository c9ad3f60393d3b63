import Derived.Test.YtifloehpdkfchaaDoorD14
import Derived.Test.YtifloehpdkfchaaDoorD05
import Derived.Test.YtifloehpdkfchaaDoorD08
import Derived.Test.YtifloehpdkfchaaDoorB05

namespace Go.Proofs.YtifloehpdkfchaaDoor
open Go.RowKit

theorem RepsAt.below {w w' : World} {v : Value} {l : List Rep} (h : RepsAt w v l) (hb : Below w.heap.size w w') : RepsAt w' v l := by
  rcases h with h | ⟨g, cap, hv, hc, hg, hcell⟩
  · exact .inl h
  · refine .inr ⟨g, cap, hv, hc, Nat.lt_of_lt_of_le hg hb.size, fun i hi => ?_⟩
    obtain ⟨h0, h1, h2, h3⟩ := hcell i hi
    exact ⟨(hb.cell (p := ⟨g, i * 4, none⟩) hg).trans h0, (hb.cell (p := ⟨g, i * 4 + 1, none⟩) hg).trans h1, (hb.cell (p := ⟨g, i * 4 + 2, none⟩) hg).trans h2, (hb.cell (p := ⟨g, i * 4 + 3, none⟩) hg).trans h3⟩

theorem pre_size (s : ByteArray) (i : Nat) (h : i ≤ s.size) : (s.extract 0 i).size = i := by
  simp; omega
theorem pre_at (s : ByteArray) (i j : Nat) (h : j < i) : byteAt (s.extract 0 i) j = byteAt s j := by
  unfold byteAt
  rw [List.getD_eq_getElem?_getD, List.getD_eq_getElem?_getD]
  rw [Array.getElem?_toList, Array.getElem?_toList, ByteArray.data_extract, Array.getElem?_extract]
  by_cases hj : j < s.data.size
  · rw [if_pos (by omega), Nat.zero_add]
  · rw [if_neg (by omega), Array.getElem?_eq_none (by omega)]
theorem repsAt_pre {w : World} {g cap : Nat} {o t : List Rep} (h : RepsAt w (.slice (some ⟨g, 0, none⟩) (o ++ t).length cap) (o ++ t)) : RepsAt w (.slice (some ⟨g, 0, none⟩) o.length cap) o := by
  rcases h with ⟨h, _⟩ | ⟨g', cap', hv, hc, hg, hcell⟩
  · cases h
  · simp only [Value.slice.injEq, Option.some.injEq, Addr.mk.injEq, true_and, and_true] at hv
    obtain ⟨rfl, rfl⟩ := hv
    refine .inr ⟨g, cap, rfl, by simp at hc; omega, hg, fun i hi => ?_⟩
    have := hcell i (by simp; omega)
    rwa [List.getElem_append_left hi] at this

set_option maxRecDepth 100000 in
set_option maxHeartbeats 2000000 in
theorem Onward_true (hcor : CornersAll) (s : ByteArray) (ways commands : Int) (w : World) (hs : s.size ≤ 1000000000) (hc : -9223372036854775808 ≤ commands ∧ commands ≤ 9223372036854775807) (ht : TabW w) :
    Calls Tryd.prog 4 #[.string s, .int .i64 ways, .int .i64 commands] w fun e w' => e = .returned (.bool true) ∧ Below w.heap.size w w' := by
  have HAl : Hid (Calls Tryd.prog 8 #[] w fun e w' => e = .returned (.bool true) ∧ Below w.heap.size w w') := alive_in hcor w ht
  have HLn : Hid (∀ (i : Nat) (W : World), i < s.size → Calls Tryd.prog 12 #[.agg #[.string s, .int .i64 i, .slice none 0 0]] W fun e w' => e = .returned (.int .i64 (lenAt s i)) ∧ Below W.heap.size W w') := fun i W hi => Length_any s i _ W hi (by unfold maxLen; omega)
  have HD1 : Hid (∀ (i : Nat) (st : St) (s' : ByteArray) (W : World), OnI s i st → s'.size = i → (∀ j, j < i → byteAt s' j = byteAt s j) → Below w.heap.size w W → Calls Tryd.prog 9 #[.string s', .int .i64 ways] W fun e w' => ∃ v, e = .returned v ∧ Hid (RepsAt w' v st.out) ∧ st.out.length ≤ 10000000000 ∧ Hid (Below w.heap.size w w')) := by
    intro i st s' W hO hz hb hB
    have hle := hO.le
    refine (draw_in s' ways W (by omega) (ht.low hB ht.pos)).mono ?_
    rintro e w' ⟨v, rfl, ho, hbb⟩
    have hr := (hO.done s' hz hb).1
    have hn := play_out_len s' s'.size 0 st0
    rw [hr] at ho hn
    exact ⟨v, rfl, repsAt_own ho, by have : st0.out.length = 0 := rfl; omega, hB.trans (hbb.mono hB.size)⟩
  have HD2 : Hid (∀ (i : Nat) (st : St) (va : Value) (W : World), OnI s i st → Below w.heap.size w W → RepsAt W va st.out → Calls Tryd.prog 9 #[.string s, .int .i64 ways] W fun e w' => ∃ v t, e = .returned v ∧ RepsAt w' va st.out ∧ RepsAt w' v (st.out ++ t) ∧ Hid (Below w.heap.size w w') ∧ (st.out ++ t).length ≤ 20000000000) := by
    intro i st va W hO hB hR
    have hle := hO.le
    refine (draw_in s ways W (by omega) (ht.low hB ht.pos)).mono ?_
    rintro e w' ⟨v, rfl, ho, hbb⟩
    obtain ⟨t, hr⟩ := (hO.done (s.extract 0 i) (pre_size s i hle) (fun j hj => pre_at s i j hj)).2
    have hn := play_out_len s s.size 0 st0
    rw [hr] at ho hn
    exact ⟨v, t, rfl, hR.below hbb, repsAt_own ho, hB.trans (hbb.mono hB.size), by have : st0.out.length = 0 := rfl; omega⟩
  have HR : Hid (∀ (W : World) (va vb : Value) (l : List Rep), RepsAt W va l → RepsAt W vb l → l.length ≤ 1000000000000 → Calls Tryd.prog 11 #[va, vb] W fun e w' => e = .returned (.bool true) ∧ Below W.heap.size W w') := fun W va vb l h1 h2 h3 => replies_true va vb l W h1 h2 h3
  have hps := pre_size s
  clear hcor ht
  go_enter Tryd.func4, Tryd.ntmps4
  go_wp2_with fail
  with_reducible refine HAl.out.mono ?_
  rintro e w1 ⟨rfl, hb1⟩
  go_wp2_with fail
  go_loopg [8, 9] s.size (fun f av kv wr => ∃ (i k : Nat) (st : St), k ≤ i ∧ i ≤ s.size ∧ s.size ≤ i + f ∧ av = .int .i64 i ∧ kv = .int .i64 k ∧ Hid (OnI s i st) ∧ Hid (Below w.heap.size w wr))
  case atStart => exact ⟨0, 0, st0, by omega, by omega, by omega, rfl, rfl, OnI.start s, hb1⟩
  case round =>
    obtain ⟨i, k, st, hki, hi, hif, rfl, rfl, hO, hB⟩ := hrel
    clear HAl hb1
    by_cases hkc : (k : Int) < commands
    · by_cases hlt : i < s.size
      · obtain ⟨f', rfl⟩ : ∃ f', gk = f' + 1 := ⟨gk - 1, by omega⟩
        have d1 : (i : Int) < (s.size : Int) := by omega
        have hlb := lenAt_bd s i
        have hone := fun (j : Nat) (h : lenAt s i = (j : Int)) => (lenOk_of h).2
        have hnx := fun (n : Nat) => hO.out.next (n := n)
        have HL1 : Hid (∀ W : World, Calls Tryd.prog 12 #[.agg #[.string s, .int .i64 i, .slice none 0 0]] W fun e w' => e = .returned (.int .i64 (lenAt s i)) ∧ Below W.heap.size W w') := fun W => HLn.out i W hlt
        generalize lenAt s i = nn at *
        clear HLn
        by_cases hneg : nn < 0
        · clear hnx hone
          go_wp2_with (go_at_call 12; refine (HL1.out _).mono ?_; rintro e w2 ⟨rfl, hb2⟩; have hB2 := hB.out.trans (hb2.mono hB.out.size))
          refine (HD1.out i st _ _ hO.out (hps i (by omega)) (fun j hj => pre_at s i j hj) hB2).mono ?_
          rintro e w3 ⟨va, rfl, hRa, hla, hB3⟩
          go_wp2_with fail
          refine (HD2.out i st va _ hO.out hB3.out hRa.out).mono ?_
          rintro e w4 ⟨vb, t, rfl, hRa4, hRb4, hB4, hlb4⟩
          clear hRa hB3 HD1 HD2
          have hn : (st.out ++ t).length = st.out.length + t.length := List.length_append
          have HA4 : Hid (RepsAt w4 va st.out) := hRa4
          have HB4' : Hid (RepsAt w4 vb (st.out ++ t)) := hRb4
          generalize st.out = o at *
          rcases hRa4 with ⟨rfl, hl0⟩ | ⟨ga, ca, rfl, hca, hga, hcella⟩
          · subst hl0
            rcases hRb4 with ⟨rfl, hl1⟩ | ⟨gb, cb, rfl, hcb, hgb, hcellb⟩
            · go_wp2_with (go_at_call 11; refine (HR.out _ _ _ [] HA4.out (.inl ⟨rfl, rfl⟩) (by simp)).mono ?_; rintro e w5 ⟨rfl, hb5⟩)
              go_ret
              exact ⟨rfl, hB4.out.trans (hb5.mono hB4.out.size)⟩
            · clear hcellb
              go_wp2_with (go_at_call 11; refine (HR.out _ _ _ [] HA4.out (repsAt_pre (o := []) HB4'.out) (by simp)).mono ?_; rintro e w5 ⟨rfl, hb5⟩)
              go_ret
              exact ⟨rfl, hB4.out.trans (hb5.mono hB4.out.size)⟩
          · clear hcella
            rcases hRb4 with ⟨rfl, hl1⟩ | ⟨gb, cb, rfl, hcb, hgb, hcellb⟩
            · obtain ⟨rfl, rfl⟩ := List.append_eq_nil_iff.1 hl1
              go_wp2_with (go_at_call 11; refine (HR.out _ _ _ [] HA4.out (.inl ⟨rfl, rfl⟩) (by simp)).mono ?_; rintro e w5 ⟨rfl, hb5⟩)
              go_ret
              exact ⟨rfl, hB4.out.trans (hb5.mono hB4.out.size)⟩
            · clear hcellb
              go_wp2_with (go_at_call 11; refine (HR.out _ _ _ o HA4.out (repsAt_pre HB4'.out) (by omega)).mono ?_; rintro e w5 ⟨rfl, hb5⟩)
              go_ret
              exact ⟨rfl, hB4.out.trans (hb5.mono hB4.out.size)⟩
        · have k1 : wrap64 ((i : Int) + 1 + nn) = (i : Int) + 1 + nn := w64 (by omega)
          by_cases hov : (s.size : Int) < i + 1 + nn
          · clear hnx hone
            go_wp2_with (go_at_call 12; refine (HL1.out _).mono ?_; rintro e w2 ⟨rfl, hb2⟩; have hB2 := hB.out.trans (hb2.mono hB.out.size))
            refine (HD1.out i st _ _ hO.out (hps i (by omega)) (fun j hj => pre_at s i j hj) hB2).mono ?_
            rintro e w3 ⟨va, rfl, hRa, hla, hB3⟩
            go_wp2_with fail
            refine (HD2.out i st va _ hO.out hB3.out hRa.out).mono ?_
            rintro e w4 ⟨vb, t, rfl, hRa4, hRb4, hB4, hlb4⟩
            clear hRa hB3 HD1 HD2
            have hn : (st.out ++ t).length = st.out.length + t.length := List.length_append
            have HA4 : Hid (RepsAt w4 va st.out) := hRa4
            have HB4' : Hid (RepsAt w4 vb (st.out ++ t)) := hRb4
            generalize st.out = o at *
            rcases hRa4 with ⟨rfl, hl0⟩ | ⟨ga, ca, rfl, hca, hga, hcella⟩
            · subst hl0
              rcases hRb4 with ⟨rfl, hl1⟩ | ⟨gb, cb, rfl, hcb, hgb, hcellb⟩
              · go_wp2_with (go_at_call 11; refine (HR.out _ _ _ [] HA4.out (.inl ⟨rfl, rfl⟩) (by simp)).mono ?_; rintro e w5 ⟨rfl, hb5⟩)
                go_ret
                exact ⟨rfl, hB4.out.trans (hb5.mono hB4.out.size)⟩
              · clear hcellb
                go_wp2_with (go_at_call 11; refine (HR.out _ _ _ [] HA4.out (repsAt_pre (o := []) HB4'.out) (by simp)).mono ?_; rintro e w5 ⟨rfl, hb5⟩)
                go_ret
                exact ⟨rfl, hB4.out.trans (hb5.mono hB4.out.size)⟩
            · clear hcella
              rcases hRb4 with ⟨rfl, hl1⟩ | ⟨gb, cb, rfl, hcb, hgb, hcellb⟩
              · obtain ⟨rfl, rfl⟩ := List.append_eq_nil_iff.1 hl1
                go_wp2_with (go_at_call 11; refine (HR.out _ _ _ [] HA4.out (.inl ⟨rfl, rfl⟩) (by simp)).mono ?_; rintro e w5 ⟨rfl, hb5⟩)
                go_ret
                exact ⟨rfl, hB4.out.trans (hb5.mono hB4.out.size)⟩
              · clear hcellb
                go_wp2_with (go_at_call 11; refine (HR.out _ _ _ o HA4.out (repsAt_pre HB4'.out) (by omega)).mono ?_; rintro e w5 ⟨rfl, hb5⟩)
                go_ret
                exact ⟨rfl, hB4.out.trans (hb5.mono hB4.out.size)⟩
          · obtain ⟨n, rfl⟩ := Int.eq_ofNat_of_zero_le (show 0 ≤ nn by omega)
            have n1 := hone n rfl
            have hN := hnx n rfl (by omega)
            have HN : Hid (OnI s (i + 1 + n) (st.one (byteAt s i) (argsAt s (i + 1) n) i)) := hN
            clear hnx hone hN
            go_wp2_with (go_at_call 12; refine (HL1.out _).mono ?_; rintro e w2 ⟨rfl, hb2⟩; have hB2 := hB.out.trans (hb2.mono hB.out.size))
            go_roundg f'
            case rel => exact ⟨i + 1 + n, k + 1, _, by omega, by omega, by omega, by go_num, by go_num, HN, hB2⟩
            case measure => omega
      · obtain rfl : i = s.size := by omega
        have d1 : ¬ ((s.size : Int) < (s.size : Int)) := by omega
        go_wp2_with fail
        refine (HD1.out _ st _ _ hO.out rfl (fun _ _ => rfl) hB.out).mono ?_
        rintro e w3 ⟨va, rfl, hRa, hla, hB3⟩
        go_wp2_with fail
        refine (HD2.out _ st va _ hO.out hB3.out hRa.out).mono ?_
        rintro e w4 ⟨vb, t, rfl, hRa4, hRb4, hB4, hlb4⟩
        clear hRa hB3 HD1 HD2
        have hn : (st.out ++ t).length = st.out.length + t.length := List.length_append
        have HA4 : Hid (RepsAt w4 va st.out) := hRa4
        have HB4' : Hid (RepsAt w4 vb (st.out ++ t)) := hRb4
        generalize st.out = o at *
        rcases hRa4 with ⟨rfl, hl0⟩ | ⟨ga, ca, rfl, hca, hga, hcella⟩
        · subst hl0
          rcases hRb4 with ⟨rfl, hl1⟩ | ⟨gb, cb, rfl, hcb, hgb, hcellb⟩
          · go_wp2_with (go_at_call 11; refine (HR.out _ _ _ [] HA4.out (.inl ⟨rfl, rfl⟩) (by simp)).mono ?_; rintro e w5 ⟨rfl, hb5⟩)
            go_ret
            exact ⟨rfl, hB4.out.trans (hb5.mono hB4.out.size)⟩
          · clear hcellb
            go_wp2_with (go_at_call 11; refine (HR.out _ _ _ [] HA4.out (repsAt_pre (o := []) HB4'.out) (by simp)).mono ?_; rintro e w5 ⟨rfl, hb5⟩)
            go_ret
            exact ⟨rfl, hB4.out.trans (hb5.mono hB4.out.size)⟩
        · clear hcella
          rcases hRb4 with ⟨rfl, hl1⟩ | ⟨gb, cb, rfl, hcb, hgb, hcellb⟩
          · obtain ⟨rfl, rfl⟩ := List.append_eq_nil_iff.1 hl1
            go_wp2_with (go_at_call 11; refine (HR.out _ _ _ [] HA4.out (.inl ⟨rfl, rfl⟩) (by simp)).mono ?_; rintro e w5 ⟨rfl, hb5⟩)
            go_ret
            exact ⟨rfl, hB4.out.trans (hb5.mono hB4.out.size)⟩
          · clear hcellb
            go_wp2_with (go_at_call 11; refine (HR.out _ _ _ o HA4.out (repsAt_pre HB4'.out) (by omega)).mono ?_; rintro e w5 ⟨rfl, hb5⟩)
            go_ret
            exact ⟨rfl, hB4.out.trans (hb5.mono hB4.out.size)⟩
    · go_wp2_with fail
      refine (HD1.out i st _ _ hO.out (hps i (by omega)) (fun j hj => pre_at s i j hj) hB.out).mono ?_
      rintro e w3 ⟨va, rfl, hRa, hla, hB3⟩
      go_wp2_with fail
      refine (HD2.out i st va _ hO.out hB3.out hRa.out).mono ?_
      rintro e w4 ⟨vb, t, rfl, hRa4, hRb4, hB4, hlb4⟩
      clear hRa hB3 HD1 HD2
      have hn : (st.out ++ t).length = st.out.length + t.length := List.length_append
      have HA4 : Hid (RepsAt w4 va st.out) := hRa4
      have HB4' : Hid (RepsAt w4 vb (st.out ++ t)) := hRb4
      generalize st.out = o at *
      rcases hRa4 with ⟨rfl, hl0⟩ | ⟨ga, ca, rfl, hca, hga, hcella⟩
      · subst hl0
        rcases hRb4 with ⟨rfl, hl1⟩ | ⟨gb, cb, rfl, hcb, hgb, hcellb⟩
        · go_wp2_with (go_at_call 11; refine (HR.out _ _ _ [] HA4.out (.inl ⟨rfl, rfl⟩) (by simp)).mono ?_; rintro e w5 ⟨rfl, hb5⟩)
          go_ret
          exact ⟨rfl, hB4.out.trans (hb5.mono hB4.out.size)⟩
        · clear hcellb
          go_wp2_with (go_at_call 11; refine (HR.out _ _ _ [] HA4.out (repsAt_pre (o := []) HB4'.out) (by simp)).mono ?_; rintro e w5 ⟨rfl, hb5⟩)
          go_ret
          exact ⟨rfl, hB4.out.trans (hb5.mono hB4.out.size)⟩
      · clear hcella
        rcases hRb4 with ⟨rfl, hl1⟩ | ⟨gb, cb, rfl, hcb, hgb, hcellb⟩
        · obtain ⟨rfl, rfl⟩ := List.append_eq_nil_iff.1 hl1
          go_wp2_with (go_at_call 11; refine (HR.out _ _ _ [] HA4.out (.inl ⟨rfl, rfl⟩) (by simp)).mono ?_; rintro e w5 ⟨rfl, hb5⟩)
          go_ret
          exact ⟨rfl, hB4.out.trans (hb5.mono hB4.out.size)⟩
        · clear hcellb
          go_wp2_with (go_at_call 11; refine (HR.out _ _ _ o HA4.out (repsAt_pre HB4'.out) (by omega)).mono ?_; rintro e w5 ⟨rfl, hb5⟩)
          go_ret
          exact ⟨rfl, hB4.out.trans (hb5.mono hB4.out.size)⟩
end Go.Proofs.YtifloehpdkfchaaDoor
