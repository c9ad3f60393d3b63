import Derived.Test.YthcikinkicpicaaGreatDoorB09
import Derived.Deep.DeepCutAuto
import Derived.Deep.LoopGhost
import Derived.Test.YthcikinkicpicaaGreatDoorB08

namespace Go.Proofs.YthcikinkicpicaaGreatDoor
open Go.RowKit

def DoesAll : Prop := ∀ (base p dB qB : Nat) (shV outV : Value) (st : St) (s : ByteArray) (fr : Int) (g cap : Nat) (a : List Int) (w : World) (kind K : Int), DoesW base p dB qB shV outV st g cap a w → lenOk kind a →
  badB st.W st.H kind a = false → st.Ok K → K ≤ 3900000000000000000 → st.out.length ≤ 1000000000000 → g ≠ p → g ≠ dB → g ≠ qB → (∃ c f, w.heap[g]? = some (.cells c 3 f)) →
  Calls Tryz.prog 30 #[.pointer (some ⟨p, 0, none⟩), .int .i64 kind, curV s fr (.slice (some ⟨g, 0, none⟩) a.length cap)] w (DoesPost base p qB w (st.does kind a))

theorem gather_start {s : ByteArray} {k m : Nat} {wr w1 : World} (hb : Below (wr.alloc (.cells #[.string s, .int .i64 k, .slice none 0 0] 48)).heap.size (wr.alloc (.cells #[.string s, .int .i64 k, .slice none 0 0] 48)) w1) :
    Gather wr.heap.size s k m wr 0 w1 := by
  have hs := hb.size
  simp at hs
  refine ⟨⟨.slice none 0 0, ?_, World.ownsRow_nil _ _ _ _⟩, below1.trans (hb.mono (by simp)), by omega⟩
  rw [hb.block _ (by simp), heap_alloc_new]

theorem wrapk_byte (s : ByteArray) (i : Nat) (h : i < s.size) : IntKind.i64.wrap (s[i].toNat : Int) = byteAt s i := by
  have h1 := byteAt_eq s i h
  have h2 := byteAt_bd s i
  rw [← h1]; exact k64 (by omega)

theorem gather_form {w : World} {base n : Nat} {e : TypeId} {size : Nat} {v : Value} {xs : List Value} (h : w.ownsRow base e size v n xs) (hn : 0 < n) : ∃ g cap, v = .slice (some ⟨g, 0, none⟩) n cap := by
  rcases h.2 with ⟨_, h2⟩ | ⟨g, cap, cur, hv, _⟩
  · exact absurd h2 (by omega)
  · exact ⟨g, cap, hv⟩

structure PlayInv (s : ByteArray) (w : World) (R : St) (f k : Nat) (st : St) (dB qB : Nat) (shV outV : Value) (wr : World) : Prop where
  kf : s.size ≤ k + f
  kl : k ≤ s.size
  run : playFrom s f k st = R
  pane : PaneO w.heap.size wr w.heap.size dB qB shV outV st
  ok : st.Ok (9216 * k)
  out : st.out.length ≤ k
  bel : Below w.heap.size w wr

set_option maxRecDepth 100000 in
set_option maxHeartbeats 1000000 in
theorem Play_any (hdoes : DoesAll) (s : ByteArray) (w : World) (hs : s.size ≤ 100000000000) : Calls Tryz.prog 12 #[.string s] w fun e w' =>
      e = .returned (.pointer (some ⟨w.heap.size, 0, none⟩)) ∧ ∃ dB qB shV outV, PaneO w.heap.size w' w.heap.size dB qB shV outV (playFrom s s.size 0 st0) ∧ Below w.heap.size w w' := by
  generalize hR : playFrom s s.size 0 st0 = R
  have HR : Hid (playFrom s s.size 0 st0 = R) := hR
  clear hR
  go_enter Tryz.func12, Tryz.ntmps12
  go_wp2_with fail
  refine (New_any w).mono ?_
  rintro e w0 ⟨rfl, dB0, qB0, shV0, outV0, hP0, hB0⟩
  go_wp2_with fail
  go_loopg [4] s.size (fun f i wr => ∃ (k : Nat) (st : St) (dB qB : Nat) (shV outV : Value), i = .int .i64 k ∧ PlayInv s w R f k st dB qB shV outV wr)
  case atStart => exact ⟨0, st0, dB0, qB0, shV0, outV0, rfl, ⟨by omega, by omega, HR.out, hP0, by simpa using st0_ok, by decide, hB0⟩⟩
  case round =>
    obtain ⟨k, st, dB, qB, shV, outV, rfl, hI⟩ := hrel
    have hkl := hI.kl
    generalize wr = W1 at *
    by_cases hlt : k < s.size
    · obtain ⟨f', rfl⟩ : ∃ f', gk = f' + 1 := ⟨gk - 1, by have := hI.kf; omega⟩
      go_wp2_with fail
      refine (Length_any s k _ _ hlt (by unfold maxLen; omega)).mono ?_
      rintro e w1 ⟨rfl, hb1⟩
      obtain ⟨n, hn⟩ : ∃ n, lenAt s k = n := ⟨_, rfl⟩
      rw [hn]
      have Hn : Hid (lenAt s k = n) := hn
      clear hn
      obtain ⟨hc1, hf1⟩ := bcell hb1
      by_cases hbad : n < 0 ∨ (s.size : Int) < k + 1 + n
      · have hrun := hI.run
        rw [playFrom, if_neg (by omega), Hn.out, if_pos hbad] at hrun
        have HRun : Hid ({ st with out := st.out ++ [{ k := 0, a := 1, b := k, c := 0 }] } = R) := hrun
        clear hrun
        have hP1 := (hI.pane.frame below1).frame hb1
        have hB1 : Below w.heap.size w w1 := (hI.bel.alloc hI.bel.size _).trans (hb1.mono (by have := hI.bel.size; simp; omega))
        have hbs : w.heap.size ≤ w1.heap.size := hB1.size
        have hout1 := hI.out
        obtain ⟨i1, hi1, hy0, hy1, hy2⟩ := info_parts Tryz.infoRep
        have cp4 := cell_of hP1.pin.bp
        simp only [pcells] at cp4
        clear hc1 hf1 hb1 hI
        by_cases hneg : n < 0
        · have d1 : decide (n < 0) = true := by simpa using hneg
          clear hbad
          go_wp2_with (at_builtin; refine wpList_append_own _ rfl (.tmp 36) (.tmp 39) 36 rfl w.heap.size 96 i1 _ 4 32 Tryz.underlying36 hi1 hy0 hy1 hy2 rfl (by decide) _ _ _ rfl (hP1.out.alloc _) ⟨w1.heap.size, 0, none⟩ 1 1 [.int .i64 0, .int .i64 1, .int .i64 k, .int .i64 0] rfl rfl (lit4 w1 _ _ _ _ _) (one4 _ _ _ _) (by unfold maxLen; omega) (by omega) (by simp; omega) ?_; intro v' w5 hown' hgrow' _; obtain ⟨gg, cap', rfl⟩ := owned_form hown'; have PP := (hP1.frame below1).push (r := { k := 0, a := 1, b := k, c := 0 }) hgrow' hown'; have hpp := (hP1.frame below1).pcell hgrow'; have cp5 := cell_of hpp; simp only [pcells] at cp5; have fp5 := frozen_of hpp; clear hown' hgrow' cp4)
          go_ret
          go_light
          refine ⟨rfl, dB, qB, shV, .slice (some ⟨gg, 0, none⟩) (st.out.length + 1) cap', ?_, ?_⟩
          · rw [← HRun.out]; exact PP.1
          · exact (hB1.alloc hbs _).trans ((hP1.frame below1).low (PP.2.mono (fun k hk => by rcases hk with hk | hk; exact Or.inl hk; exact Or.inr (Or.inr (Or.inr hk)))))
        · have d1 : decide (n < 0) = false := by simpa using hneg
          have hnb := lenAt_bd s k
          rw [Hn.out] at hnb
          have d2 : decide ((s.size : Int) < (k : Int) + 1 + n) = true := by simp; omega
          have hbg : (s.size : Int) < (k : Int) + 1 + n := by omega
          clear hbad
          go_wp2_with (at_builtin; refine wpList_append_own _ rfl (.tmp 36) (.tmp 39) 36 rfl w.heap.size 96 i1 _ 4 32 Tryz.underlying36 hi1 hy0 hy1 hy2 rfl (by decide) _ _ _ rfl (hP1.out.alloc _) ⟨w1.heap.size, 0, none⟩ 1 1 [.int .i64 0, .int .i64 1, .int .i64 k, .int .i64 0] rfl rfl (lit4 w1 _ _ _ _ _) (one4 _ _ _ _) (by unfold maxLen; omega) (by omega) (by simp; omega) ?_; intro v' w5 hown' hgrow' _; obtain ⟨gg, cap', rfl⟩ := owned_form hown'; have PP := (hP1.frame below1).push (r := { k := 0, a := 1, b := k, c := 0 }) hgrow' hown'; have hpp := (hP1.frame below1).pcell hgrow'; have cp5 := cell_of hpp; simp only [pcells] at cp5; have fp5 := frozen_of hpp; clear hown' hgrow' cp4)
          go_ret
          go_light
          refine ⟨rfl, dB, qB, shV, .slice (some ⟨gg, 0, none⟩) (st.out.length + 1) cap', ?_, ?_⟩
          · rw [← HRun.out]; exact PP.1
          · exact (hB1.alloc hbs _).trans ((hP1.frame below1).low (PP.2.mono (fun k hk => by rcases hk with hk | hk; exact Or.inl hk; exact Or.inr (Or.inr (Or.inr hk)))))
      · obtain ⟨m, rfl⟩ := Int.eq_ofNat_of_zero_le (show 0 ≤ n by omega)
        have hle : (k : Int) + 1 + m ≤ (s.size : Int) := by omega
        clear hbad
        have hG0 : Gather W1.heap.size s k m W1 0 w1 := gather_start hb1
        have d1 : decide ((m : Int) < 0) = false := by simp
        have d2 : decide ((s.size : Int) < (k : Int) + 1 + (m : Int)) = false := by simp; omega
        obtain ⟨i0, hi, hz0, hz1, hz2⟩ := info_parts Tryz.infoInt
        clear hc1 hf1
        go_wp2_with fail
        go_loopg [7] m (fun r i wx => ∃ j : Nat, j + r = m ∧ i = .int .i64 ((k + 1 + j : Nat) : Int) ∧ Gather W1.heap.size s k m W1 j wx)
        case atStart => exact ⟨0, by omega, rfl, hG0⟩
        case round =>
          obtain ⟨j, hjm, rfl, hG⟩ := hrel
          obtain ⟨v, hbox, hown⟩ := hG.box
          have cC := cell_of hbox
          have fC := frozen_of hbox
          have hszx := hG.sz
          by_cases hj : j < m
          · obtain ⟨r', rfl⟩ : ∃ r', gk = r' + 1 := ⟨gk - 1, by omega⟩
            have hjs : k + 1 + j < s.size := by omega
            have hby := wrap_byte s (k + 1 + j) hjs
            have hby2 := wrapk_byte s (k + 1 + j) hjs
            generalize hbv : byteAt s (k + 1 + j) = bv at *
            have Hbv : Hid (byteAt s (k + 1 + j) = bv) := hbv
            clear hbv
            have x1 : (k : Int) + 1 + (j : Int) < (s.size : Int) := by omega
            have x2 : (0 : Int) ≤ (k : Int) + 1 + (j : Int) := by omega
            have x3 : ((k : Int) + 1 + (j : Int)).toNat = k + 1 + j := by omega
            go_wp2_with fail
            go_region_law (refine step_append_own rfl (.tmp 55) (.tmp 60) 34 rfl (W1.heap.size + 1) 3 i0 _ 1 8 Tryz.underlying34 hi hz0 hz1 hz2 rfl (by decide) v j ((argsAt s (k + 1) j).map (Value.int .i64)) (by simp [Act.eval]) (by exact (hown.alloc _).drew) ⟨wr.heap.size, 0, none⟩ 1 1 [.int .i64 bv] (by simp [Act.eval]) rfl (by exact lit1d wr _ _ _ rfl) (fun u hu => by simp at hu; subst hu; rfl) (by unfold maxLen; omega) (by omega) (by exact Nat.succ_le_of_lt (Nat.lt_of_lt_of_le hszx (by simp))) ?_; intro v' w' hown' hgrow'; obtain ⟨gg, cap', rfl⟩ := owned_form hown'; have PG := Gather.push hG hbox hown (by rw [Hbv.out]; exact hown') hgrow'; have hpp := PG.2; have cC' := cell_of hpp; have fC' := frozen_of hpp)
            all_goals
              have PG1 := PG.1
              clear PG hpp cC' fC' hown' hgrow' cC fC hbox hown
              go_wp2_with fail
              go_roundg r'
              case rel => exact ⟨j + 1, by omega, by go_num, PG1⟩
              case measure => omega
          · have hg0 : gk = 0 := by omega
            subst hg0
            have hjm' : j = m := by omega
            subst hjm'
            have hby := wrap_byte s k hlt
            generalize hbv : byteAt s k = kind at *
            have Hbv : Hid (byteAt s k = kind) := hbv
            clear hbv
            have hlo := lenOk_of Hn.out
            have hlb := lenAt_bd s k
            rw [Hn.out] at hlb
            rw [Hbv.out] at hlo
            obtain ⟨hlok, hj1⟩ := hlo
            obtain ⟨g, cap, rfl⟩ := gather_form hown (by omega)
            obtain ⟨ocell, og, ogC, ocap, otyp⟩ := own_cells hown (argsAt_len s (k + 1) j)
            have hPw := hI.pane.frame hG.bel
            have hok := hI.ok
            have hal := argsAt_len s (k + 1) j
            have hbw : BadW w.heap.size g cap st.W st.H (argsAt s (k + 1) j) wr :=
              ⟨(cell_of hPw.pin.bp 0).trans rfl, (cell_of hPw.pin.bp 1).trans rfl, ocell, argsAt_ok s (k + 1) j, by rw [hal]; omega, by rw [hal]; exact ocap⟩
            have hbc := bad_any w.heap.size g cap st.W st.H kind _ wr hbw hlok (by have := hok.W0; omega) hok.W1 (by have := hok.H0; omega) hok.H1
            rw [hal] at hbc
            go_wp2_with fail
            refine hbc.mono ?_
            rintro e w2 ⟨rfl, hb2⟩
            clear hbc
            have hPw2 := hPw.frame hb2
            have hbox2 : w2.heap[W1.heap.size]? = _ := (hb2.block _ hszx).trans hbox
            have cC2 := cell_of hbox2
            have hdw : DoesW w.heap.size w.heap.size dB qB shV outV st g cap (argsAt s (k + 1) j) w2 :=
              ⟨hPw2, by have := hb2.size; omega, fun x hx => (hb2.cell (p := ⟨g, x, none⟩) og).trans (ocell x hx), argsAt_ok s (k + 1) j, by rw [hal]; omega, by rw [hal]; exact ocap⟩
            have hlt3 := hI.pane.pin.lt
            have hdc := fun hb => hdoes w.heap.size w.heap.size dB qB shV outV st s k g cap _ w2 kind (9216 * k) hdw hlok hb hok (by omega) (by have := hI.out; omega) (by omega) (by omega) (by omega) (by obtain ⟨c, f, h1⟩ := otyp; exact ⟨c, f, (hb2.block g og).trans h1⟩)
            rw [hal] at hdc
            have hBw2 : Below w.heap.size w w2 := (hI.bel.trans (hG.bel.mono (by omega))).trans (hb2.mono (by have := hI.bel.size; have := hG.bel.size; omega))
            have hone : Hid (st.one kind (argsAt s (k + 1) j) k = if (if badB st.W st.H kind (argsAt s (k + 1) j) then (st, 2) else st.does kind (argsAt s (k + 1) j)).2 = 0 then (if badB st.W st.H kind (argsAt s (k + 1) j) then (st, 2) else st.does kind (argsAt s (k + 1) j)).1 else { (if badB st.W st.H kind (argsAt s (k + 1) j) then (st, 2) else st.does kind (argsAt s (k + 1) j)).1 with out := (if badB st.W st.H kind (argsAt s (k + 1) j) then (st, 2) else st.does kind (argsAt s (k + 1) j)).1.out ++ [{ k := 0, a := (if badB st.W st.H kind (argsAt s (k + 1) j) then (st, 2) else st.does kind (argsAt s (k + 1) j)).2, b := k, c := 0 }] }) := rfl
            obtain ⟨r, hr⟩ : ∃ r : St × Int, (if badB st.W st.H kind (argsAt s (k + 1) j) then (st, 2) else st.does kind (argsAt s (k + 1) j)) = r := ⟨_, rfl⟩
            rw [hr] at hone
            have Hr : Hid ((if badB st.W st.H kind (argsAt s (k + 1) j) then (st, 2) else st.does kind (argsAt s (k + 1) j)) = r) := hr
            clear hr hbw hdw hbox cC fC hown hG hG0 hb2 ocell
            generalize hbb : badB st.W st.H kind (argsAt s (k + 1) j) = bb at *
            go_upto_if 73 with fail
            go_cut [9] (fun e wc => e = .int .i64 r.2 ∧ ∃ dB' shV' outV', PaneO w.heap.size wc w.heap.size dB' qB shV' outV' r.1 ∧ Below w.heap.size w wc)
            case first =>
              cases bb
              · have hdc' := hdc rfl
                clear hdc
                go_wp2_with fail
                refine hdc'.mono ?_
                rintro e w3 ⟨rfl, dB', shV', outV', hP3, hB3⟩
                go_wp2_with fail
                go_meet
                case rel =>
                  have hr := Hr.out
                  simp at hr
                  rw [← hr]
                  exact ⟨rfl, dB', shV', outV', hP3, hBw2.trans hB3⟩
              · clear hdc
                go_wp2_with fail
                go_meet
                case rel =>
                  have hr := Hr.out
                  simp at hr
                  rw [← hr]
                  exact ⟨rfl, dB, shV, outV, hPw2, hBw2⟩
            case rest =>
              obtain ⟨rfl, dB', shV', outV', hP4, hB4⟩ := hcut
              clear hdc hPw2 hPw cC2 hBw2 hbox2
              have hokr : r.1.Ok (9216 * ((k + 1 + j : Nat) : Int)) := by
                have hr := Hr.out
                cases bb
                · simp at hr; rw [← hr]; exact Ok_mono (does_ok st kind _ _ hok (argsAt_ok s (k + 1) j) hlok hbb) (by push_cast; omega)
                · simp at hr; rw [← hr]; exact Ok_mono hok (by push_cast; omega)
              have hrun : playFrom s f' (k + 1 + j) (st.one kind (argsAt s (k + 1) j) k) = R := by
                have h1 := hI.run
                rw [playFrom, if_neg (by omega), Hn.out, if_neg (by omega), Hbv.out] at h1
                exact h1
              have hlen1 := one_out st kind (argsAt s (k + 1) j) k
              have hout1 := hI.out
              have hkf := hI.kf
              have HRun : Hid (playFrom s f' (k + 1 + j) (st.one kind (argsAt s (k + 1) j) k) = R) := hrun
              clear hrun hI hlok hok hbb Hr
              by_cases hz : r.2 = 0
              · have hzb : (r.2 != 0) = false := by simpa using hz
                have HZ : Hid (r.2 = 0) := hz
                clear hz
                go_wp2_with fail
                go_roundg f'
                case rel =>
                  go_light
                  have e1 : st.one kind (argsAt s (k + 1) j) k = r.1 := by rw [hone.out, if_pos HZ.out]
                  have h1 := HRun.out
                  rw [e1] at h1 hlen1
                  exact ⟨k + 1 + j, r.1, dB', qB, shV', outV', by go_num, ⟨by omega, by omega, h1, hP4, hokr, by omega, hB4⟩⟩
                case measure => omega
              · have hzb : (r.2 != 0) = true := by simpa using hz
                have HZ : Hid (¬ r.2 = 0) := hz
                clear hz
                have e1 : st.one kind (argsAt s (k + 1) j) k = { r.1 with out := r.1.out ++ [{ k := 0, a := r.2, b := k, c := 0 }] } := by rw [hone.out, if_neg HZ.out]
                rw [e1] at hlen1
                simp at hlen1
                have HE : Hid (st.one kind (argsAt s (k + 1) j) k = { r.1 with out := r.1.out ++ [{ k := 0, a := r.2, b := k, c := 0 }] }) := e1
                clear e1
                obtain ⟨i1, hi1, hy0, hy1, hy2⟩ := info_parts Tryz.infoRep
                have cp4 := cell_of hP4.pin.bp
                simp only [pcells] at cp4
                have hbs : w.heap.size ≤ wc.heap.size := hB4.size
                go_wp2_with (at_builtin; refine wpList_append_own _ rfl (.tmp 84) (.tmp 88) 36 rfl w.heap.size 96 i1 _ 4 32 Tryz.underlying36 hi1 hy0 hy1 hy2 rfl (by decide) _ _ _ rfl (hP4.out.alloc _) ⟨wc.heap.size, 0, none⟩ 1 1 [.int .i64 0, .int .i64 r.2, .int .i64 k, .int .i64 0] rfl rfl (lit4 wc _ _ _ _ _) (one4 _ _ _ _) (by unfold maxLen; omega) (by omega) (by simp; omega) ?_; intro v' w5 hown' hgrow' _; obtain ⟨gg, cap', rfl⟩ := owned_form hown'; have PP := (hP4.frame below1).push (r := { k := 0, a := r.2, b := k, c := 0 }) hgrow' hown'; have hpp := (hP4.frame below1).pcell hgrow'; have cp5 := cell_of hpp; simp only [pcells] at cp5; have fp5 := frozen_of hpp; clear hown' hgrow' cp4)
                go_roundg f'
                case rel =>
                  go_light
                  have h1 := HRun.out
                  rw [HE.out] at h1
                  refine ⟨k + 1 + j, _, dB', qB, shV', _, by go_num, ⟨by omega, by omega, h1, PP.1, ?_, by simp; omega, ?_⟩⟩
                  · exact ⟨hokr.W0, hokr.W1, hokr.H0, hokr.H1, hokr.len, hokr.dots, hokr.T, hokr.wx0, hokr.wy0, hokr.ww0, hokr.wh0, hokr.wx1, hokr.wy1, hokr.sh, hokr.shl, hokr.qs, hokr.qn, hokr.work0, hokr.work1⟩
                  · exact (hB4.alloc hbs _).trans ((hP4.frame below1).low (PP.2.mono (fun k hk => by rcases hk with hk | hk; exact Or.inl hk; exact Or.inr (Or.inr (Or.inr hk)))))
                case measure => omega
    · have hend : st = R := by
        have h1 := hI.run
        cases gk with
        | zero => exact h1
        | succ f => rw [playFrom, if_pos (by omega)] at h1; exact h1
      have HE : Hid (st = R) := hend
      clear hend
      go_wp2_with fail
      go_ret
      go_light
      refine ⟨rfl, dB, qB, shV, outV, ?_, hI.bel⟩
      rw [← HE.out]; exact hI.pane

end Go.Proofs.YthcikinkicpicaaGreatDoor

namespace Go.Proofs.YthcikinkicpicaaGreatDoor
open Go.RowKit
section
variable (base p dB qB : Nat) (shV outV : Value) (st : St) (s : ByteArray) (fr : Int) (g cap : Nat) (a : List Int) (w : World)

set_option maxRecDepth 100000 in
set_option maxHeartbeats 1000000 in
theorem does4 (h : DoesW base p dB qB shV outV st g cap a w) (hl : a.length = 7) (hgp : p ≠ g) :
    Calls Tryz.prog 30 #[.pointer (some ⟨p, 0, none⟩), .int .i64 4, curV s fr (.slice (some ⟨g, 0, none⟩) 7 cap)] w (DoesPost base p qB w (st.does 4 a)) := by
  have c0 := h.cell 0 (by omega)
  have c1 := h.cell 1 (by omega)
  have c2 := h.cell 2 (by omega)
  have c3 := h.cell 3 (by omega)
  have c4 := h.cell 4 (by omega)
  have c5 := h.cell 5 (by omega)
  have c6 := h.cell 6 (by omega)
  have hg := h.g0
  have cp := cell_of h.pane.pin.bp
  simp only [pcells] at cp
  have fp := frozen_of h.pane.pin.bp
  obtain ⟨lp, ld, lq⟩ := h.pane.pin.lt
  have hfin : st.does 4 a = ({ st with T := { st.T with test := a.getD 0 0, value := a.getD 1 0, which := a.getD 2 0, writes := a.getD 3 0, fail := a.getD 4 0, dfail := a.getD 5 0, pass := a.getD 6 0 } }, 0) := by unfold St.does; simp
  rw [hfin]
  generalize a.getD 0 0 = a0 at *
  generalize a.getD 1 0 = a1 at *
  generalize a.getD 2 0 = a2 at *
  generalize a.getD 3 0 = a3 at *
  generalize a.getD 4 0 = a4 at *
  generalize a.getD 5 0 = a5 at *
  generalize a.getD 6 0 = a6 at *
  clear hfin
  have hpane := h.pane
  clear h
  unfold curV
  go_enter Tryz.func30, Tryz.ntmps30
  go_wp2_with fail
  go_ret
  go_light
  have hk : Kept (· = p) w _ := ((((((((Kept.refl (· = p) w).set (.inl rfl) 5 (.int .i64 a0)).set (.inl rfl) 6 (.int .i64 a1)).set (.inl rfl) 7 (.int .i64 a2)).set (.inl rfl) 8 (.int .i64 a3)).set (.inl rfl) 9 (.int .i64 a4)).set (.inl rfl) 10 (.int .i64 a5)).set (.inl rfl) 11 (.int .i64 a6))
  have P := hpane.pput (st' := { st with T := { st.T with test := a0, value := a1, which := a2, writes := a3, fail := a4, dfail := a5, pass := a6 } }) (by refine Eq.trans (heap_set_same (heap_set_same (heap_set_same (heap_set_same (heap_set_same (heap_set_same (heap_set_same hpane.pin.bp _ _) _ _) _ _) _ _) _ _) _ _) _ _) ?_; simp [pcells]) hk rfl rfl rfl rfl
  exact ⟨rfl, dB, shV, outV, (P.frame below1), (hpane.low1 hk _)⟩

end

theorem does_all : DoesAll := by
  intro base p dB qB shV outV st s fr g cap a w kind K h hl hbad hok hK hlen hgp hgd hgq htyp
  have b0 := h.byte.at 0
  have b1 := h.byte.at 1
  rcases hl with ⟨rfl, m, hm, hl, hm0⟩ | ⟨h8, hk1, hl⟩
  · have e : a.length = 4 * m + 1 := by omega
    rw [e]; exact does8 base p dB qB shV outV st s fr g cap a w h (4 * m) e hgp hgd hgq htyp
  · have hdl : st.dots.length ≤ 576 := by
      have h1 := hok.len
      have h2 := (mul_abs_le st.W st.H 24 24 (by have := hok.W0; omega) hok.W1 (by have := hok.H0; omega) hok.H1).2
      omega
    rcases kinds hk1 with ⟨rfl, hk⟩ | ⟨rfl, hk⟩ | ⟨rfl, hk⟩ | ⟨rfl, hk⟩ | ⟨rfl, hk⟩ | ⟨rfl, hk⟩ | ⟨rfl, hk⟩ | ⟨rfl, hk⟩ | ⟨rfl, hk⟩ | ⟨rfl, hk⟩ | ⟨rfl, hk⟩ | ⟨rfl, hk⟩ | ⟨rfl, hk⟩ | ⟨rfl, hk⟩
    · have e : a.length = 2 := by omega
      unfold badB at hbad
      simp only [if_true, Bool.or_eq_false_iff, decide_eq_false_iff_not] at hbad
      obtain ⟨q0, q1, q2⟩ := hbad
      have ab : ∀ v ∈ a, v ≤ 24 := fun v hv => by
        unfold aboveB at q2
        rw [List.any_eq_false] at q2
        have := q2 v hv
        simp at this
        omega
      have u0 : a.getD 0 0 ≤ 24 := by
        rw [List.getD_eq_getElem?_getD, List.getElem?_eq_getElem (show 0 < a.length by omega)]; exact ab _ (List.getElem_mem _)
      have u1 : a.getD 1 0 ≤ 24 := by
        rw [List.getD_eq_getElem?_getD, List.getElem?_eq_getElem (show 1 < a.length by omega)]; exact ab _ (List.getElem_mem _)
      rw [e]; exact does1 base p dB qB shV outV st s fr g cap a w h e (by omega) u0 (by omega) u1
    · have e : a.length = 7 := by omega
      rw [e]; exact does2 base p dB qB shV outV st s fr g cap a w h e hdl hgd
    · have e : a.length = 2 := by omega
      rw [e]; exact does3 base p dB qB shV outV st s fr g cap a w h e
    · have e : a.length = 7 := by omega
      rw [e]; exact does4 base p dB qB shV outV st s fr g cap a w h e (fun x => hgp x.symm)
    · have e : a.length = 4 := by omega
      rw [e]; exact does5 base p dB qB shV outV st s fr g cap a w h e
    · have e : a.length = 1 := by omega
      rw [e]; exact does6 base p dB qB shV outV st s fr g cap a w h e
    · have e : a.length = 1 := by omega
      rw [e]; exact does7 base p dB qB shV outV st s fr g cap a w h e
    · exact absurd rfl h8
    · have e : a.length = 27 := by omega
      rw [e]; exact does9 base p dB qB shV outV st s fr g cap a w h e K hok hK
    · have e : a.length = 1 := by omega
      unfold badB at hbad
      simp [-List.getD_eq_getElem?_getD] at hbad
      rw [e]; exact does10 base p dB qB shV outV st s fr g cap a w h e 10 (by omega) hok.qs (by omega) hlen
    · have e : a.length = 1 := by omega
      unfold badB at hbad
      simp [-List.getD_eq_getElem?_getD] at hbad
      rw [e]; exact does10 base p dB qB shV outV st s fr g cap a w h e 11 (by omega) hok.qs (by omega) hlen
    · have e : a.length = 1 := by omega
      rw [e]; exact does12 base p dB qB shV outV st s fr g cap a w h 1
    · have e : a.length = 3 := by omega
      unfold badB at hbad
      simp [-List.getD_eq_getElem?_getD] at hbad
      rw [e]; exact does13 base p dB qB shV outV st s fr g cap a w h e hok.W1 hok.H1 hok.len (by omega) (by omega) (by omega) (by omega) hlen
    · have e : a.length = 1 := by omega
      unfold badB at hbad
      simp [-List.getD_eq_getElem?_getD] at hbad
      rw [e]; exact does10 base p dB qB shV outV st s fr g cap a w h e 14 (by omega) hok.qs (by omega) hlen

/-- THE DOCUMENT'S OWN ANSWER, AS A FUNCTION: what Play leaves is what 'playFrom' tells. -/
theorem Play_in (s : ByteArray) (w : World) (hs : s.size ≤ 100000000000) : Calls Tryz.prog 12 #[.string s] w fun e w' =>
      e = .returned (.pointer (some ⟨w.heap.size, 0, none⟩)) ∧ ∃ dB qB shV outV, PaneO w.heap.size w' w.heap.size dB qB shV outV (playFrom s s.size 0 st0) ∧ Below w.heap.size w w' :=
  Play_any does_all s w hs

end Go.Proofs.YthcikinkicpicaaGreatDoor
