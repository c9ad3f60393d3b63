import Derived.Test.YtifloehpdkfchaaDoorA27
import Derived.Test.YtifloehpdkfchaaDoorA24

namespace Go.Proofs.YtifloehpdkfchaaDoor
open Go.RowKit

theorem meth1 (p : Nat) (w : World) : (method 308 45 (.pointer (some ⟨p, 0, none⟩)) "pane/pane.setSize").run Tryd.prog w = .ok (33, .pointer (some ⟨p, 2, none⟩)) w := by kernel_rfl
theorem meth3 (p : Nat) (w : World) : (method 308 45 (.pointer (some ⟨p, 0, none⟩)) "pane/pane.setDepth").run Tryd.prog w = .ok (35, .pointer (some ⟨p, 14, none⟩)) w := by kernel_rfl
theorem meth4 (p : Nat) (w : World) : (method 308 45 (.pointer (some ⟨p, 0, none⟩)) "pane/pane.setStencil").run Tryd.prog w = .ok (36, .pointer (some ⟨p, 14, none⟩)) w := by kernel_rfl
theorem meth5 (p : Nat) (w : World) : (method 308 45 (.pointer (some ⟨p, 0, none⟩)) "pane/pane.setWindow").run Tryd.prog w = .ok (37, .pointer (some ⟨p, 2, none⟩)) w := by kernel_rfl
theorem meth6 (p : Nat) (w : World) : (method 308 45 (.pointer (some ⟨p, 0, none⟩)) "pane/pane.setFaces").run Tryd.prog w = .ok (38, .pointer (some ⟨p, 14, none⟩)) w := by kernel_rfl
theorem meth7 (p : Nat) (w : World) : (method 308 45 (.pointer (some ⟨p, 0, none⟩)) "pane/pane.setColours").run Tryd.prog w = .ok (39, .pointer (some ⟨p, 14, none⟩)) w := by kernel_rfl
theorem meth8 (p : Nat) (w : World) : (method 308 45 (.pointer (some ⟨p, 0, none⟩)) "pane/pane.setShader").run Tryd.prog w = .ok (40, .pointer (some ⟨p, 14, none⟩)) w := by kernel_rfl
theorem meth10 (p : Nat) (w : World) : (method 308 45 (.pointer (some ⟨p, 0, none⟩)) "pane/pane.begin").run Tryd.prog w = .ok (42, .pointer (some ⟨p, 27, none⟩)) w := by kernel_rfl
theorem meth11 (p : Nat) (w : World) : (method 308 45 (.pointer (some ⟨p, 0, none⟩)) "pane/pane.end").run Tryd.prog w = .ok (43, .pointer (some ⟨p, 27, none⟩)) w := by kernel_rfl
theorem meth12 (p : Nat) (w : World) : (method 308 45 (.pointer (some ⟨p, 0, none⟩)) "pane/pane.setWays").run Tryd.prog w = .ok (44, .pointer (some ⟨p, 14, none⟩)) w := by kernel_rfl

theorem TabW.low {base : Nat} {w w' : World} (h : TabW w) (hb : Below base w w') (h0 : 0 < base) : TabW w' := fun i hi =>
  (World.cell?_of_block (a := ⟨0, i, none⟩) (hb.block 0 h0)).trans (h i hi)

/-- While commands are worked. -/
structure WkI (base p TB : Nat) (s : ByteArray) (w : World) (R : St) (f k : Nat) (wr : World) : Prop where
  kf : s.size ≤ k + f
  kl : k ≤ s.size
  ex : ∃ st cB zB sB A n ways shV outV, Dr base wr p cB zB sB A n s (k : Int) ways shV outV st ∧ playFrom s f k st = R ∧ st.Ok (9216 * k) ∧ st.out.length ≤ k
  tab : wr.heap[TB]? = some (.cells cmdL.toArray 83 (0, 0))
  bel : Below base w wr

def WkPost (base p : Nat) (s : ByteArray) (w : World) (R : St) (e : Ending) (w' : World) : Prop :=
  e = .returned (.tuple #[]) ∧ ∃ cB zB sB A n k ways shV outV, Dr base w' p cB zB sB A n s k ways shV outV R ∧ Below base w w'

theorem play_end (s : ByteArray) (f k : Nat) (st : St) (h : s.size ≤ k) : playFrom s f k st = st := by
  cases f with
  | zero => rfl
  | succ f => rw [playFrom, if_pos h]

/-- Behind a command: its error is told, and the next one comes. -/
structure BkI (base p TB : Nat) (s : ByteArray) (w : World) (R : St) (f k k' : Nat) (e : Int) (wr : World) : Prop where
  ex : ∃ st cB zB sB A n ways shV outV, Dr base wr p cB zB sB A n s (k' : Int) ways shV outV st ∧ playFrom s f k' (if e = 0 then st else { st with out := st.out ++ [{ k := 0, a := e, b := k, c := 0 }] }) = R ∧ st.Ok (9216 * k') ∧ st.out.length ≤ k' ∧ (e ≠ 0 → st.out.length + 1 ≤ k')
  kf : s.size ≤ k' + f
  kl : k' ≤ s.size
  tab : wr.heap[TB]? = some (.cells cmdL.toArray 83 (0, 0))
  bel : Below base w wr

theorem bk_of {base p TB : Nat} {s : ByteArray} {w W w3 : World} {R st : St} {f k j : Nat} {cB zB sB A n : Nat} {ways : Int} {shV outV : Value}
    (hrun : playFrom s (f + 1) k st = R) (hj : lenAt s k = (j : Int)) (hkj : k + 1 + j ≤ s.size) (hk : k < s.size) (hkf : s.size ≤ k + (f + 1)) (hok : st.Ok (9216 * k)) (hout : st.out.length ≤ k) (htab : W.heap[TB]? = some (.cells cmdL.toArray 83 (0, 0))) (hbel : Below base w W)
    (hd : Dr base w3 p cB zB sB A n s ((k + 1 + j : Nat) : Int) ways shV outV (st.cmd (byteAt s k) (argsAt s (k + 1) j)).1) (hl : Low base W w3) :
    BkI base p TB s w R f k (k + 1 + j) (st.cmd (byteAt s k) (argsAt s (k + 1) j)).2 w3 := by
  obtain ⟨hlo, hj1⟩ := lenOk_of hj
  have h1 := hrun
  rw [playFrom, if_neg (by omega), hj, if_neg (by omega), Int.toNat_natCast] at h1
  have hone : st.one (byteAt s k) (argsAt s (k + 1) j) k = if (st.cmd (byteAt s k) (argsAt s (k + 1) j)).2 = 0 then (st.cmd (byteAt s k) (argsAt s (k + 1) j)).1 else { (st.cmd (byteAt s k) (argsAt s (k + 1) j)).1 with out := (st.cmd (byteAt s k) (argsAt s (k + 1) j)).1.out ++ [{ k := 0, a := (st.cmd (byteAt s k) (argsAt s (k + 1) j)).2, b := k, c := 0 }] } := rfl
  have ho := one_out st (byteAt s k) (argsAt s (k + 1) j) k
  have hk1 := one_ok st (byteAt s k) (argsAt s (k + 1) j) k _ hok (argsAt_ok s (k + 1) j) hlo
  rw [hone] at h1 ho hk1
  have hok2 : (st.cmd (byteAt s k) (argsAt s (k + 1) j)).1.Ok (9216 * ((k + 1 + j : Nat) : Int)) := by
    split at hk1
    · exact Ok_mono hk1 (by push_cast; omega)
    · exact Ok_mono (show ((st.cmd (byteAt s k) (argsAt s (k + 1) j)).1).Ok _ from ⟨hk1.W0, hk1.W1, hk1.H0, hk1.H1, hk1.len, hk1.dots, hk1.T, hk1.wx0, hk1.wy0, hk1.ww0, hk1.wh0, hk1.wx1, hk1.wy1, hk1.sh, hk1.shl, hk1.qs, hk1.qn, hk1.work0, hk1.work1⟩) (by push_cast; omega)
  refine ⟨⟨_, _, _, _, _, _, _, _, _, hd, h1, hok2, ?_, fun hne => ?_⟩, by omega, hkj, hl.tab _ _ htab, hbel.trans hl.bel⟩
  · split at ho
    · omega
    · simp only [List.length_append, List.length_cons, List.length_nil] at ho; omega
  · rw [if_neg hne] at ho
    simp only [List.length_append, List.length_cons, List.length_nil] at ho; omega

set_option maxRecDepth 100000 in
set_option maxHeartbeats 4000000 in
theorem work_in (base p cB0 zB0 sB0 A0 n0 : Nat) (s : ByteArray) (ways0 : Int) (shV0 outV0 : Value) (w : World) (h : Dr base w p cB0 zB0 sB0 A0 n0 s 0 ways0 shV0 outV0 st0) (ht : TabW w) (hb : 0 < base) (hs : s.size ≤ 100000000000) :
    Calls Tryd.prog 19 #[.pointer (some ⟨p, 0, none⟩)] w (WkPost base p s w (playFrom s s.size 0 st0)) := by
  obtain ⟨R, hR⟩ : ∃ R, playFrom s s.size 0 st0 = R := ⟨_, rfl⟩
  rw [hR]
  have HR : Hid (playFrom s s.size 0 st0 = R) := hR
  have HTw : Hid (∀ W, Below base w W → TabW W) := fun W hW => ht.low hW hb
  have hpb := h.b0
  have hp0 : 0 < p := by omega
  have HCo : Hid (∀ W : World, Calls Tryd.prog 25 #[] W fun e w' => e = .returned (.agg cmdL.toArray) ∧ Below W.heap.size W w') := fun W => commands_any W
  have hn : ∀ w1 : World, (w1.alloc (.cells #[.nilFunc, .nilFunc, .nilFunc, .nilFunc, .nilFunc, .nilFunc, .nilFunc, .nilFunc, .nilFunc, .nilFunc, .nilFunc, .nilFunc, .nilFunc, .nilFunc, .nilFunc] 83)).heap[w1.heap.size]? = some (.cells nilL.toArray 83 (0, 0)) := fun w1 => heap_alloc_new _ _
  have HT : Hid (∀ w1 : World, (w1.alloc (.cells #[.nilFunc, .nilFunc, .nilFunc, .nilFunc, .nilFunc, .nilFunc, .nilFunc, .nilFunc, .nilFunc, .nilFunc, .nilFunc, .nilFunc, .nilFunc, .nilFunc, .nilFunc] 83)).there w1.heap.size 0 cmdL.toArray.size) := fun w1 => there_of (hn w1) 0 15 (Nat.le_refl _)
  have HN : Hid ((Tryd.prog.info? 83).map (·.size) = some cmdL.toArray.size) := Tryd.infoTab
  have HI : Hid (∀ w1 : World, Below w.heap.size w w1 → WkI base p w1.heap.size s w R s.size 0 ((w1.alloc (.cells #[.nilFunc, .nilFunc, .nilFunc, .nilFunc, .nilFunc, .nilFunc, .nilFunc, .nilFunc, .nilFunc, .nilFunc, .nilFunc, .nilFunc, .nilFunc, .nilFunc, .nilFunc] 83)).setCells w1.heap.size 0 cmdL)) := by
    intro w1 hb1
    have hk := kept_setCells w1.heap.size cmdL 0 (w1.alloc (.cells #[.nilFunc, .nilFunc, .nilFunc, .nilFunc, .nilFunc, .nilFunc, .nilFunc, .nilFunc, .nilFunc, .nilFunc, .nilFunc, .nilFunc, .nilFunc, .nilFunc, .nilFunc] 83))
    have hb2 : Below w.heap.size w (w1.alloc (.cells #[.nilFunc, .nilFunc, .nilFunc, .nilFunc, .nilFunc, .nilFunc, .nilFunc, .nilFunc, .nilFunc, .nilFunc, .nilFunc, .nilFunc, .nilFunc, .nilFunc, .nilFunc] 83)) := hb1.alloc hb1.size _
    have l1 := hb1.size
    have hb3 : Below w.heap.size w ((w1.alloc (.cells #[.nilFunc, .nilFunc, .nilFunc, .nilFunc, .nilFunc, .nilFunc, .nilFunc, .nilFunc, .nilFunc, .nilFunc, .nilFunc, .nilFunc, .nilFunc, .nilFunc, .nilFunc] 83)).setCells w1.heap.size 0 cmdL) :=
      ⟨hk.os.trans hb2.os, hk.tape.trans hb2.tape, hk.output.trans hb2.output, Nat.le_trans hb2.size hk.size, fun i hi => (hk.block i (Nat.lt_of_lt_of_le hi hb2.size) (by omega)).trans (hb2.block i hi)⟩
    exact ⟨by omega, by omega, ⟨st0, _, _, _, _, _, _, _, _, h.frame hb3, HR.out, by simpa using st0_ok, Nat.le_refl _⟩, by rw [heap_setCells _ _ _ _ _ _ (hn w1), put_tab], (h.lowOf hb3).bel⟩
  clear h ht hn hR hpb
  go_enter Tryd.func19, Tryd.ntmps19
  go_wp2_with (first
    | (go_at_call 25; refine (HCo.out _).mono ?_; rintro e w1 ⟨rfl, hb1⟩)
    | (refine wpList_store_mid (by rfl) 83 (.tmp 2) (.tmp 8) (by rfl) w1.heap.size 0 cmdL.toArray (by rfl) (by rfl) (HT.out _) HN.out cmdL_one ?_))
  dsimp only [Act.put]
  refine gen_w (WkI base p w1.heap.size s w R s.size 0) (Code.wp _ _ _ _) _ (HI.out w1 hb1) ?_
  intro W0 hW0
  clear HI HT HN HCo hb1
  generalize w1.heap.size = TB at *
  go_loopg [] s.size (fun f wr => ∃ k : Nat, Hid (WkI base p TB s w R f k wr))
  case atStart => exact ⟨0, hW0⟩
  case round =>
    clear hW0
    obtain ⟨k, hI⟩ := hrel
    obtain ⟨st, cB, zB, sB, A, n, ways, shV, outV, hd, hrun, hok, hout⟩ := hI.out.ex
    have HD : Hid (Dr base wr p cB zB sB A n s (k : Int) ways shV outV st) := hd
    have hkl := hI.out.kl
    have hkf := hI.out.kf
    have HAt : Hid (Calls Tryd.prog 26 #[.pointer (some ⟨p, 0, none⟩)] wr fun e w' => e = .returned (.bool (decide ((k : Int) = (s.size : Int)))) ∧ ∃ n, w' = wr.drewN n) := atEnd_any p s k wr (cell_of hd.bp 0) (cell_of hd.bp 1)
    by_cases hend : k = s.size
    · have HF : Hid (∀ m, WkPost base p s w R (.returned (.tuple #[])) (wr.drewN m)) := by
        intro m
        rw [play_end s _ k st (by omega)] at hrun
        rw [← hrun]
        exact ⟨rfl, _, _, _, _, _, _, _, _, _, HD.out.frame ((Below.refl _ _).drewN' m), hI.out.bel.drewN' m⟩
      rw [decide_eq_true (show (k : Int) = (s.size : Int) by omega)] at HAt
      clear hrun hok hout hd
      go_wp2_with (go_at_call 26; refine HAt.out.mono ?_; rintro e w2 ⟨rfl, m2, rfl⟩)
      (try simp only [Exit.inBlock, Exit.then])
      refine bodyPost_ret (results_none rfl _ _ _) rfl ?_
      exact HF.out _
    · obtain ⟨f', rfl⟩ : ∃ f', gk = f' + 1 := ⟨gk - 1, by omega⟩
      have hklt : k < s.size := by omega
      rw [decide_eq_false (show ¬ (k : Int) = (s.size : Int) by omega)] at HAt
      have c1 : wr.cell? ⟨p, 1, none⟩ = some (.int .i64 (k : Int)) := cell_of hd.bp 1
      have HNx : Hid (∀ m, Calls Tryd.prog 27 #[.pointer (some ⟨p, 0, none⟩)] (wr.drewN m) (NextPost base p cB zB sB A n s k ways shV outV st (wr.drewN m))) := fun m =>
        next_in base p cB zB sB A n s k ways shV outV st (wr.drewN m) (HD.out.frame ((Below.refl _ _).drewN' m)) hklt hs (HTw.out _ (hI.out.bel.drewN' m)) hp0
      unfold NextPost at HNx
      by_cases hbad : lenAt s k < 0 ∨ (s.size : Int) < k + 1 + lenAt s k
      · simp only [if_pos hbad] at HNx
        have HRun : Hid ({ st with out := st.out ++ [{ k := 0, a := 1, b := k, c := 0 }] } = R) := by
          have h1 := hrun
          rw [playFrom, if_neg (by omega), if_pos hbad] at h1
          exact h1
        have HFa : Hid (∀ W, Below wr.heap.size wr W → Calls Tryd.prog 28 #[.pointer (some ⟨p, 0, none⟩), .int .i64 1, .int .i64 (k : Int)] W fun e w' => WkPost base p s w R e w') := by
          intro W hW
          refine (fault_in base p cB zB sB A n s k ways shV outV st W (HD.out.frame hW) 1 k (by omega)).mono ?_
          rintro e w' ⟨rfl, v', hd', hl'⟩
          rw [HRun.out] at hd'
          exact ⟨rfl, _, _, _, _, _, _, _, _, _, hd', hI.out.bel.trans (((HD.out.lowOf hW).trans hl').bel)⟩
        clear hrun hok hout hd hbad
        go_wp2_with (first
          | (go_at_call 26; refine HAt.out.mono ?_; rintro e w2 ⟨rfl, m2, rfl⟩)
          | (go_at_call 27; refine (HNx.out _).mono ?_; rintro e w3 ⟨rfl, hb3⟩)
          | (go_at_call 28; refine (HFa.out _ (((Below.refl _ _).drewN' _).trans hb3)).mono ?_; rintro e w4 hP4; have hP4' := hP4; obtain ⟨rfl, _⟩ := hP4))
        (try simp only [Exit.inBlock, Exit.then])
        refine bodyPost_ret (results_none rfl _ _ _) rfl ?_
        exact hP4'
      · simp only [if_neg hbad] at HNx
        obtain ⟨j, hj⟩ := Int.eq_ofNat_of_zero_le (show 0 ≤ lenAt s k by omega)
        have hkj : k + 1 + j ≤ s.size := by omega
        obtain ⟨hlo, hj1⟩ := lenOk_of hj
        simp only [hj, Int.toNat_natCast] at HNx
        have HBk : Hid (∀ W w3 cB' zB' sB' A' n' ways' shV' outV', Low base wr W → Dr base w3 p cB' zB' sB' A' n' s ((k + 1 + j : Nat) : Int) ways' shV' outV' (st.cmd (byteAt s k) (argsAt s (k + 1) j)).1 → Low base W w3 → BkI base p TB s w R f' k (k + 1 + j) (st.cmd (byteAt s k) (argsAt s (k + 1) j)).2 w3) :=
          fun W w3 cB' zB' sB' A' n' ways' shV' outV' h1 h2 h3 => bk_of hrun hj hkj hklt hkf hok hout hI.out.tab hI.out.bel h2 (h1.trans h3)
        have HCm : Hid (∀ W a cB' zB' sB' A' n' ways' shV' outV', Low base wr W → ArgsOf a (argsAt s (k + 1) j) → Dr base W p cB' zB' sB' A' n' s ((k + 1 + j : Nat) : Int) ways' shV' outV' st → Calls Tryd.prog (cmdFn (byteAt s k)).1 #[.pointer (some ⟨p, (cmdFn (byteAt s k)).2, none⟩), .string a] W fun e w' =>
            e = .returned (.int .i64 (st.cmd (byteAt s k) (argsAt s (k + 1) j)).2) ∧ BkI base p TB s w R f' k (k + 1 + j) (st.cmd (byteAt s k) (argsAt s (k + 1) j)).2 w') := by
          intro W a cB' zB' sB' A' n' ways' shV' outV' hlW ha hdW
          refine (cmd_any base p cB' zB' sB' A' n' s ((k + 1 + j : Nat) : Int) ways' shV' outV' st a (byteAt s k) (argsAt s (k + 1) j) W (9216 * k) hdW hok (by omega) (by omega) ha hlo).mono ?_
          rintro e w' ⟨rfl, cB2, zB2, sB2, A2, n2, ways2, shV2, outV2, hd2, hl2⟩
          exact ⟨rfl, HBk.out W w' _ _ _ _ _ _ _ _ hlW hd2 hl2⟩
        have HDn : Hid (∀ m, Low base wr (wr.drewN m)) := fun m => HD.out.lowOf ((Below.refl _ _).drewN' m)
        have HTB : Hid (∀ W, Low base wr W → W.heap[TB]? = some (.cells cmdL.toArray 83 (0, 0))) := fun W hW => hW.tab _ _ hI.out.tab
        have hkd : 1 ≤ kindLen (byteAt s k) ∨ byteAt s k = 8 := by
          rcases hlo with ⟨e, _⟩ | ⟨_, e, _⟩
          · exact .inr e
          · exact .inl e
        clear hrun hok hout hd hbad hj hlo HBk
        generalize byteAt s k = x at *
        generalize argsAt s (k + 1) j = L at *
        have HFa : Hid (∀ W e, BkI base p TB s w R f' k (k + 1 + j) e W → e ≠ 0 → Calls Tryd.prog 28 #[.pointer (some ⟨p, 0, none⟩), .int .i64 e, .int .i64 (k : Int)] W fun e' w' => e' = .returned (.tuple #[]) ∧ Hid (WkI base p TB s w R f' (k + 1 + j) w')) := by
          intro W e hW he
          obtain ⟨st2, cB2, zB2, sB2, A2, n2, ways2, shV2, outV2, hd2, hr2, hok2, ho2, ho3⟩ := hW.ex
          rw [if_neg he] at hr2
          have := hW.kl
          refine (fault_in base p cB2 zB2 sB2 A2 n2 s _ ways2 shV2 outV2 st2 W hd2 e k (by omega)).mono ?_
          rintro e' w' ⟨rfl, v', hd', hl'⟩
          refine ⟨rfl, hW.kf, hW.kl, ⟨_, _, _, _, _, _, _, _, _, hd', hr2, Ok_out hok2 _, ?_⟩, hl'.tab _ _ hW.tab, hW.bel.trans hl'.bel⟩
          have := ho3 he
          simp only [List.length_append, List.length_cons, List.length_nil]; omega
        have HGo : Hid (∀ W, BkI base p TB s w R f' k (k + 1 + j) 0 W → Hid (WkI base p TB s w R f' (k + 1 + j) W)) := by
          intro W hW
          obtain ⟨st2, cB2, zB2, sB2, A2, n2, ways2, shV2, outV2, hd2, hr2, hok2, ho2, ho3⟩ := hW.ex
          rw [if_pos rfl] at hr2
          exact ⟨hW.kf, hW.kl, ⟨_, _, _, _, _, _, _, _, _, hd2, hr2, hok2, ho2⟩, hW.tab, hW.bel⟩
        have hx : x = 1 ∨ x = 2 ∨ x = 3 ∨ x = 4 ∨ x = 5 ∨ x = 6 ∨ x = 7 ∨ x = 8 ∨ x = 9 ∨ x = 10 ∨ x = 11 ∨ x = 12 ∨ x = 13 ∨ x = 14 := by
          rcases hkd with h1 | h1
          · rcases kinds h1 with h1 | h1 | h1 | h1 | h1 | h1 | h1 | h1 | h1 | h1 | h1 | h1 | h1 | h1 <;> omega
          · omega
        generalize hE : (st.cmd x L).2 = E at *
        clear hkd hE
        have he0 : E = 0 ∨ E ≠ 0 := by omega
        have hE0 : E = 0 ∨ ¬ E = 0 := by omega
        clear he0
        rcases hx with rfl | rfl | rfl | rfl | rfl | rfl | rfl | rfl | rfl | rfl | rfl | rfl | rfl | rfl
        · simp only [show cmdFn 1 = (33, 2) from rfl] at HCm
          rcases hE0 with rfl | hE0
          · clear HFa
            go_wp2_with (first
            | (go_at_call 26; refine HAt.out.mono ?_; rintro e w2 ⟨rfl, m2, rfl⟩)
            | (go_at_call 27; refine (HNx.out _).mono ?_; rintro e w3 ⟨a, rfl, ha3, hd3, hl3⟩; have hl3' := (HDn.out _).trans hl3; have cT : w3.cell? ⟨TB, 1, none⟩ = some (.func (.methodOf 45 "pane/pane.setSize") #[] #[]) := cell_of (HTB.out _ hl3') 1; have HA3 : Hid (ArgsOf a L) := ha3; have HD3 : Hid (Dr base w3 p cB zB sB A n s ((k + 1 + j : Nat) : Int) ways shV outV st) := hd3; clear ha3 hd3; have mm := meth1 p)
            | (go_at_call 33; refine (HCm.out _ _ _ _ _ _ _ _ _ _ hl3' HA3.out HD3.out).mono ?_; rintro e w4 ⟨rfl, hB4⟩))
            go_roundg f'
            case rel => exact ⟨k + 1 + j, HGo.out _ hB4⟩
            case measure => omega
          · clear HGo
            go_wp2_with (first
            | (go_at_call 26; refine HAt.out.mono ?_; rintro e w2 ⟨rfl, m2, rfl⟩)
            | (go_at_call 27; refine (HNx.out _).mono ?_; rintro e w3 ⟨a, rfl, ha3, hd3, hl3⟩; have hl3' := (HDn.out _).trans hl3; have cT : w3.cell? ⟨TB, 1, none⟩ = some (.func (.methodOf 45 "pane/pane.setSize") #[] #[]) := cell_of (HTB.out _ hl3') 1; have HA3 : Hid (ArgsOf a L) := ha3; have HD3 : Hid (Dr base w3 p cB zB sB A n s ((k + 1 + j : Nat) : Int) ways shV outV st) := hd3; clear ha3 hd3; have mm := meth1 p)
            | (go_at_call 33; refine (HCm.out _ _ _ _ _ _ _ _ _ _ hl3' HA3.out HD3.out).mono ?_; rintro e w4 ⟨rfl, hB4⟩)
            | (go_at_call 28; refine (HFa.out _ _ hB4 hE0).mono ?_; rintro e w5 ⟨rfl, hW5⟩))
            go_roundg f'
            case rel => exact ⟨k + 1 + j, hW5⟩
            case measure => omega
        · simp only [show cmdFn 2 = (34, 0) from rfl] at HCm
          rcases hE0 with rfl | hE0
          · clear HFa
            go_wp2_with (first
            | (go_at_call 26; refine HAt.out.mono ?_; rintro e w2 ⟨rfl, m2, rfl⟩)
            | (go_at_call 27; refine (HNx.out _).mono ?_; rintro e w3 ⟨a, rfl, ha3, hd3, hl3⟩; have hl3' := (HDn.out _).trans hl3; have cT : w3.cell? ⟨TB, 2, none⟩ = some (.func (.func 34) #[] #[]) := cell_of (HTB.out _ hl3') 2; have HA3 : Hid (ArgsOf a L) := ha3; have HD3 : Hid (Dr base w3 p cB zB sB A n s ((k + 1 + j : Nat) : Int) ways shV outV st) := hd3; clear ha3 hd3)
            | (go_at_call 34; refine (HCm.out _ _ _ _ _ _ _ _ _ _ hl3' HA3.out HD3.out).mono ?_; rintro e w4 ⟨rfl, hB4⟩))
            go_roundg f'
            case rel => exact ⟨k + 1 + j, HGo.out _ hB4⟩
            case measure => omega
          · clear HGo
            go_wp2_with (first
            | (go_at_call 26; refine HAt.out.mono ?_; rintro e w2 ⟨rfl, m2, rfl⟩)
            | (go_at_call 27; refine (HNx.out _).mono ?_; rintro e w3 ⟨a, rfl, ha3, hd3, hl3⟩; have hl3' := (HDn.out _).trans hl3; have cT : w3.cell? ⟨TB, 2, none⟩ = some (.func (.func 34) #[] #[]) := cell_of (HTB.out _ hl3') 2; have HA3 : Hid (ArgsOf a L) := ha3; have HD3 : Hid (Dr base w3 p cB zB sB A n s ((k + 1 + j : Nat) : Int) ways shV outV st) := hd3; clear ha3 hd3)
            | (go_at_call 34; refine (HCm.out _ _ _ _ _ _ _ _ _ _ hl3' HA3.out HD3.out).mono ?_; rintro e w4 ⟨rfl, hB4⟩)
            | (go_at_call 28; refine (HFa.out _ _ hB4 hE0).mono ?_; rintro e w5 ⟨rfl, hW5⟩))
            go_roundg f'
            case rel => exact ⟨k + 1 + j, hW5⟩
            case measure => omega
        · simp only [show cmdFn 3 = (35, 14) from rfl] at HCm
          rcases hE0 with rfl | hE0
          · clear HFa
            go_wp2_with (first
            | (go_at_call 26; refine HAt.out.mono ?_; rintro e w2 ⟨rfl, m2, rfl⟩)
            | (go_at_call 27; refine (HNx.out _).mono ?_; rintro e w3 ⟨a, rfl, ha3, hd3, hl3⟩; have hl3' := (HDn.out _).trans hl3; have cT : w3.cell? ⟨TB, 3, none⟩ = some (.func (.methodOf 45 "pane/pane.setDepth") #[] #[]) := cell_of (HTB.out _ hl3') 3; have HA3 : Hid (ArgsOf a L) := ha3; have HD3 : Hid (Dr base w3 p cB zB sB A n s ((k + 1 + j : Nat) : Int) ways shV outV st) := hd3; clear ha3 hd3; have mm := meth3 p)
            | (go_at_call 35; refine (HCm.out _ _ _ _ _ _ _ _ _ _ hl3' HA3.out HD3.out).mono ?_; rintro e w4 ⟨rfl, hB4⟩))
            go_roundg f'
            case rel => exact ⟨k + 1 + j, HGo.out _ hB4⟩
            case measure => omega
          · clear HGo
            go_wp2_with (first
            | (go_at_call 26; refine HAt.out.mono ?_; rintro e w2 ⟨rfl, m2, rfl⟩)
            | (go_at_call 27; refine (HNx.out _).mono ?_; rintro e w3 ⟨a, rfl, ha3, hd3, hl3⟩; have hl3' := (HDn.out _).trans hl3; have cT : w3.cell? ⟨TB, 3, none⟩ = some (.func (.methodOf 45 "pane/pane.setDepth") #[] #[]) := cell_of (HTB.out _ hl3') 3; have HA3 : Hid (ArgsOf a L) := ha3; have HD3 : Hid (Dr base w3 p cB zB sB A n s ((k + 1 + j : Nat) : Int) ways shV outV st) := hd3; clear ha3 hd3; have mm := meth3 p)
            | (go_at_call 35; refine (HCm.out _ _ _ _ _ _ _ _ _ _ hl3' HA3.out HD3.out).mono ?_; rintro e w4 ⟨rfl, hB4⟩)
            | (go_at_call 28; refine (HFa.out _ _ hB4 hE0).mono ?_; rintro e w5 ⟨rfl, hW5⟩))
            go_roundg f'
            case rel => exact ⟨k + 1 + j, hW5⟩
            case measure => omega
        · simp only [show cmdFn 4 = (36, 14) from rfl] at HCm
          rcases hE0 with rfl | hE0
          · clear HFa
            go_wp2_with (first
            | (go_at_call 26; refine HAt.out.mono ?_; rintro e w2 ⟨rfl, m2, rfl⟩)
            | (go_at_call 27; refine (HNx.out _).mono ?_; rintro e w3 ⟨a, rfl, ha3, hd3, hl3⟩; have hl3' := (HDn.out _).trans hl3; have cT : w3.cell? ⟨TB, 4, none⟩ = some (.func (.methodOf 45 "pane/pane.setStencil") #[] #[]) := cell_of (HTB.out _ hl3') 4; have HA3 : Hid (ArgsOf a L) := ha3; have HD3 : Hid (Dr base w3 p cB zB sB A n s ((k + 1 + j : Nat) : Int) ways shV outV st) := hd3; clear ha3 hd3; have mm := meth4 p)
            | (go_at_call 36; refine (HCm.out _ _ _ _ _ _ _ _ _ _ hl3' HA3.out HD3.out).mono ?_; rintro e w4 ⟨rfl, hB4⟩))
            go_roundg f'
            case rel => exact ⟨k + 1 + j, HGo.out _ hB4⟩
            case measure => omega
          · clear HGo
            go_wp2_with (first
            | (go_at_call 26; refine HAt.out.mono ?_; rintro e w2 ⟨rfl, m2, rfl⟩)
            | (go_at_call 27; refine (HNx.out _).mono ?_; rintro e w3 ⟨a, rfl, ha3, hd3, hl3⟩; have hl3' := (HDn.out _).trans hl3; have cT : w3.cell? ⟨TB, 4, none⟩ = some (.func (.methodOf 45 "pane/pane.setStencil") #[] #[]) := cell_of (HTB.out _ hl3') 4; have HA3 : Hid (ArgsOf a L) := ha3; have HD3 : Hid (Dr base w3 p cB zB sB A n s ((k + 1 + j : Nat) : Int) ways shV outV st) := hd3; clear ha3 hd3; have mm := meth4 p)
            | (go_at_call 36; refine (HCm.out _ _ _ _ _ _ _ _ _ _ hl3' HA3.out HD3.out).mono ?_; rintro e w4 ⟨rfl, hB4⟩)
            | (go_at_call 28; refine (HFa.out _ _ hB4 hE0).mono ?_; rintro e w5 ⟨rfl, hW5⟩))
            go_roundg f'
            case rel => exact ⟨k + 1 + j, hW5⟩
            case measure => omega
        · simp only [show cmdFn 5 = (37, 2) from rfl] at HCm
          rcases hE0 with rfl | hE0
          · clear HFa
            go_wp2_with (first
            | (go_at_call 26; refine HAt.out.mono ?_; rintro e w2 ⟨rfl, m2, rfl⟩)
            | (go_at_call 27; refine (HNx.out _).mono ?_; rintro e w3 ⟨a, rfl, ha3, hd3, hl3⟩; have hl3' := (HDn.out _).trans hl3; have cT : w3.cell? ⟨TB, 5, none⟩ = some (.func (.methodOf 45 "pane/pane.setWindow") #[] #[]) := cell_of (HTB.out _ hl3') 5; have HA3 : Hid (ArgsOf a L) := ha3; have HD3 : Hid (Dr base w3 p cB zB sB A n s ((k + 1 + j : Nat) : Int) ways shV outV st) := hd3; clear ha3 hd3; have mm := meth5 p)
            | (go_at_call 37; refine (HCm.out _ _ _ _ _ _ _ _ _ _ hl3' HA3.out HD3.out).mono ?_; rintro e w4 ⟨rfl, hB4⟩))
            go_roundg f'
            case rel => exact ⟨k + 1 + j, HGo.out _ hB4⟩
            case measure => omega
          · clear HGo
            go_wp2_with (first
            | (go_at_call 26; refine HAt.out.mono ?_; rintro e w2 ⟨rfl, m2, rfl⟩)
            | (go_at_call 27; refine (HNx.out _).mono ?_; rintro e w3 ⟨a, rfl, ha3, hd3, hl3⟩; have hl3' := (HDn.out _).trans hl3; have cT : w3.cell? ⟨TB, 5, none⟩ = some (.func (.methodOf 45 "pane/pane.setWindow") #[] #[]) := cell_of (HTB.out _ hl3') 5; have HA3 : Hid (ArgsOf a L) := ha3; have HD3 : Hid (Dr base w3 p cB zB sB A n s ((k + 1 + j : Nat) : Int) ways shV outV st) := hd3; clear ha3 hd3; have mm := meth5 p)
            | (go_at_call 37; refine (HCm.out _ _ _ _ _ _ _ _ _ _ hl3' HA3.out HD3.out).mono ?_; rintro e w4 ⟨rfl, hB4⟩)
            | (go_at_call 28; refine (HFa.out _ _ hB4 hE0).mono ?_; rintro e w5 ⟨rfl, hW5⟩))
            go_roundg f'
            case rel => exact ⟨k + 1 + j, hW5⟩
            case measure => omega
        · simp only [show cmdFn 6 = (38, 14) from rfl] at HCm
          rcases hE0 with rfl | hE0
          · clear HFa
            go_wp2_with (first
            | (go_at_call 26; refine HAt.out.mono ?_; rintro e w2 ⟨rfl, m2, rfl⟩)
            | (go_at_call 27; refine (HNx.out _).mono ?_; rintro e w3 ⟨a, rfl, ha3, hd3, hl3⟩; have hl3' := (HDn.out _).trans hl3; have cT : w3.cell? ⟨TB, 6, none⟩ = some (.func (.methodOf 45 "pane/pane.setFaces") #[] #[]) := cell_of (HTB.out _ hl3') 6; have HA3 : Hid (ArgsOf a L) := ha3; have HD3 : Hid (Dr base w3 p cB zB sB A n s ((k + 1 + j : Nat) : Int) ways shV outV st) := hd3; clear ha3 hd3; have mm := meth6 p)
            | (go_at_call 38; refine (HCm.out _ _ _ _ _ _ _ _ _ _ hl3' HA3.out HD3.out).mono ?_; rintro e w4 ⟨rfl, hB4⟩))
            go_roundg f'
            case rel => exact ⟨k + 1 + j, HGo.out _ hB4⟩
            case measure => omega
          · clear HGo
            go_wp2_with (first
            | (go_at_call 26; refine HAt.out.mono ?_; rintro e w2 ⟨rfl, m2, rfl⟩)
            | (go_at_call 27; refine (HNx.out _).mono ?_; rintro e w3 ⟨a, rfl, ha3, hd3, hl3⟩; have hl3' := (HDn.out _).trans hl3; have cT : w3.cell? ⟨TB, 6, none⟩ = some (.func (.methodOf 45 "pane/pane.setFaces") #[] #[]) := cell_of (HTB.out _ hl3') 6; have HA3 : Hid (ArgsOf a L) := ha3; have HD3 : Hid (Dr base w3 p cB zB sB A n s ((k + 1 + j : Nat) : Int) ways shV outV st) := hd3; clear ha3 hd3; have mm := meth6 p)
            | (go_at_call 38; refine (HCm.out _ _ _ _ _ _ _ _ _ _ hl3' HA3.out HD3.out).mono ?_; rintro e w4 ⟨rfl, hB4⟩)
            | (go_at_call 28; refine (HFa.out _ _ hB4 hE0).mono ?_; rintro e w5 ⟨rfl, hW5⟩))
            go_roundg f'
            case rel => exact ⟨k + 1 + j, hW5⟩
            case measure => omega
        · simp only [show cmdFn 7 = (39, 14) from rfl] at HCm
          rcases hE0 with rfl | hE0
          · clear HFa
            go_wp2_with (first
            | (go_at_call 26; refine HAt.out.mono ?_; rintro e w2 ⟨rfl, m2, rfl⟩)
            | (go_at_call 27; refine (HNx.out _).mono ?_; rintro e w3 ⟨a, rfl, ha3, hd3, hl3⟩; have hl3' := (HDn.out _).trans hl3; have cT : w3.cell? ⟨TB, 7, none⟩ = some (.func (.methodOf 45 "pane/pane.setColours") #[] #[]) := cell_of (HTB.out _ hl3') 7; have HA3 : Hid (ArgsOf a L) := ha3; have HD3 : Hid (Dr base w3 p cB zB sB A n s ((k + 1 + j : Nat) : Int) ways shV outV st) := hd3; clear ha3 hd3; have mm := meth7 p)
            | (go_at_call 39; refine (HCm.out _ _ _ _ _ _ _ _ _ _ hl3' HA3.out HD3.out).mono ?_; rintro e w4 ⟨rfl, hB4⟩))
            go_roundg f'
            case rel => exact ⟨k + 1 + j, HGo.out _ hB4⟩
            case measure => omega
          · clear HGo
            go_wp2_with (first
            | (go_at_call 26; refine HAt.out.mono ?_; rintro e w2 ⟨rfl, m2, rfl⟩)
            | (go_at_call 27; refine (HNx.out _).mono ?_; rintro e w3 ⟨a, rfl, ha3, hd3, hl3⟩; have hl3' := (HDn.out _).trans hl3; have cT : w3.cell? ⟨TB, 7, none⟩ = some (.func (.methodOf 45 "pane/pane.setColours") #[] #[]) := cell_of (HTB.out _ hl3') 7; have HA3 : Hid (ArgsOf a L) := ha3; have HD3 : Hid (Dr base w3 p cB zB sB A n s ((k + 1 + j : Nat) : Int) ways shV outV st) := hd3; clear ha3 hd3; have mm := meth7 p)
            | (go_at_call 39; refine (HCm.out _ _ _ _ _ _ _ _ _ _ hl3' HA3.out HD3.out).mono ?_; rintro e w4 ⟨rfl, hB4⟩)
            | (go_at_call 28; refine (HFa.out _ _ hB4 hE0).mono ?_; rintro e w5 ⟨rfl, hW5⟩))
            go_roundg f'
            case rel => exact ⟨k + 1 + j, hW5⟩
            case measure => omega
        · simp only [show cmdFn 8 = (40, 14) from rfl] at HCm
          rcases hE0 with rfl | hE0
          · clear HFa
            go_wp2_with (first
            | (go_at_call 26; refine HAt.out.mono ?_; rintro e w2 ⟨rfl, m2, rfl⟩)
            | (go_at_call 27; refine (HNx.out _).mono ?_; rintro e w3 ⟨a, rfl, ha3, hd3, hl3⟩; have hl3' := (HDn.out _).trans hl3; have cT : w3.cell? ⟨TB, 8, none⟩ = some (.func (.methodOf 45 "pane/pane.setShader") #[] #[]) := cell_of (HTB.out _ hl3') 8; have HA3 : Hid (ArgsOf a L) := ha3; have HD3 : Hid (Dr base w3 p cB zB sB A n s ((k + 1 + j : Nat) : Int) ways shV outV st) := hd3; clear ha3 hd3; have mm := meth8 p)
            | (go_at_call 40; refine (HCm.out _ _ _ _ _ _ _ _ _ _ hl3' HA3.out HD3.out).mono ?_; rintro e w4 ⟨rfl, hB4⟩))
            go_roundg f'
            case rel => exact ⟨k + 1 + j, HGo.out _ hB4⟩
            case measure => omega
          · clear HGo
            go_wp2_with (first
            | (go_at_call 26; refine HAt.out.mono ?_; rintro e w2 ⟨rfl, m2, rfl⟩)
            | (go_at_call 27; refine (HNx.out _).mono ?_; rintro e w3 ⟨a, rfl, ha3, hd3, hl3⟩; have hl3' := (HDn.out _).trans hl3; have cT : w3.cell? ⟨TB, 8, none⟩ = some (.func (.methodOf 45 "pane/pane.setShader") #[] #[]) := cell_of (HTB.out _ hl3') 8; have HA3 : Hid (ArgsOf a L) := ha3; have HD3 : Hid (Dr base w3 p cB zB sB A n s ((k + 1 + j : Nat) : Int) ways shV outV st) := hd3; clear ha3 hd3; have mm := meth8 p)
            | (go_at_call 40; refine (HCm.out _ _ _ _ _ _ _ _ _ _ hl3' HA3.out HD3.out).mono ?_; rintro e w4 ⟨rfl, hB4⟩)
            | (go_at_call 28; refine (HFa.out _ _ hB4 hE0).mono ?_; rintro e w5 ⟨rfl, hW5⟩))
            go_roundg f'
            case rel => exact ⟨k + 1 + j, hW5⟩
            case measure => omega
        · simp only [show cmdFn 9 = (41, 0) from rfl] at HCm
          rcases hE0 with rfl | hE0
          · clear HFa
            go_wp2_with (first
            | (go_at_call 26; refine HAt.out.mono ?_; rintro e w2 ⟨rfl, m2, rfl⟩)
            | (go_at_call 27; refine (HNx.out _).mono ?_; rintro e w3 ⟨a, rfl, ha3, hd3, hl3⟩; have hl3' := (HDn.out _).trans hl3; have cT : w3.cell? ⟨TB, 9, none⟩ = some (.func (.func 41) #[] #[]) := cell_of (HTB.out _ hl3') 9; have HA3 : Hid (ArgsOf a L) := ha3; have HD3 : Hid (Dr base w3 p cB zB sB A n s ((k + 1 + j : Nat) : Int) ways shV outV st) := hd3; clear ha3 hd3)
            | (go_at_call 41; refine (HCm.out _ _ _ _ _ _ _ _ _ _ hl3' HA3.out HD3.out).mono ?_; rintro e w4 ⟨rfl, hB4⟩))
            go_roundg f'
            case rel => exact ⟨k + 1 + j, HGo.out _ hB4⟩
            case measure => omega
          · clear HGo
            go_wp2_with (first
            | (go_at_call 26; refine HAt.out.mono ?_; rintro e w2 ⟨rfl, m2, rfl⟩)
            | (go_at_call 27; refine (HNx.out _).mono ?_; rintro e w3 ⟨a, rfl, ha3, hd3, hl3⟩; have hl3' := (HDn.out _).trans hl3; have cT : w3.cell? ⟨TB, 9, none⟩ = some (.func (.func 41) #[] #[]) := cell_of (HTB.out _ hl3') 9; have HA3 : Hid (ArgsOf a L) := ha3; have HD3 : Hid (Dr base w3 p cB zB sB A n s ((k + 1 + j : Nat) : Int) ways shV outV st) := hd3; clear ha3 hd3)
            | (go_at_call 41; refine (HCm.out _ _ _ _ _ _ _ _ _ _ hl3' HA3.out HD3.out).mono ?_; rintro e w4 ⟨rfl, hB4⟩)
            | (go_at_call 28; refine (HFa.out _ _ hB4 hE0).mono ?_; rintro e w5 ⟨rfl, hW5⟩))
            go_roundg f'
            case rel => exact ⟨k + 1 + j, hW5⟩
            case measure => omega
        · simp only [show cmdFn 10 = (42, 27) from rfl] at HCm
          rcases hE0 with rfl | hE0
          · clear HFa
            go_wp2_with (first
            | (go_at_call 26; refine HAt.out.mono ?_; rintro e w2 ⟨rfl, m2, rfl⟩)
            | (go_at_call 27; refine (HNx.out _).mono ?_; rintro e w3 ⟨a, rfl, ha3, hd3, hl3⟩; have hl3' := (HDn.out _).trans hl3; have cT : w3.cell? ⟨TB, 10, none⟩ = some (.func (.methodOf 45 "pane/pane.begin") #[] #[]) := cell_of (HTB.out _ hl3') 10; have HA3 : Hid (ArgsOf a L) := ha3; have HD3 : Hid (Dr base w3 p cB zB sB A n s ((k + 1 + j : Nat) : Int) ways shV outV st) := hd3; clear ha3 hd3; have mm := meth10 p)
            | (go_at_call 42; refine (HCm.out _ _ _ _ _ _ _ _ _ _ hl3' HA3.out HD3.out).mono ?_; rintro e w4 ⟨rfl, hB4⟩))
            go_roundg f'
            case rel => exact ⟨k + 1 + j, HGo.out _ hB4⟩
            case measure => omega
          · clear HGo
            go_wp2_with (first
            | (go_at_call 26; refine HAt.out.mono ?_; rintro e w2 ⟨rfl, m2, rfl⟩)
            | (go_at_call 27; refine (HNx.out _).mono ?_; rintro e w3 ⟨a, rfl, ha3, hd3, hl3⟩; have hl3' := (HDn.out _).trans hl3; have cT : w3.cell? ⟨TB, 10, none⟩ = some (.func (.methodOf 45 "pane/pane.begin") #[] #[]) := cell_of (HTB.out _ hl3') 10; have HA3 : Hid (ArgsOf a L) := ha3; have HD3 : Hid (Dr base w3 p cB zB sB A n s ((k + 1 + j : Nat) : Int) ways shV outV st) := hd3; clear ha3 hd3; have mm := meth10 p)
            | (go_at_call 42; refine (HCm.out _ _ _ _ _ _ _ _ _ _ hl3' HA3.out HD3.out).mono ?_; rintro e w4 ⟨rfl, hB4⟩)
            | (go_at_call 28; refine (HFa.out _ _ hB4 hE0).mono ?_; rintro e w5 ⟨rfl, hW5⟩))
            go_roundg f'
            case rel => exact ⟨k + 1 + j, hW5⟩
            case measure => omega
        · simp only [show cmdFn 11 = (43, 27) from rfl] at HCm
          rcases hE0 with rfl | hE0
          · clear HFa
            go_wp2_with (first
            | (go_at_call 26; refine HAt.out.mono ?_; rintro e w2 ⟨rfl, m2, rfl⟩)
            | (go_at_call 27; refine (HNx.out _).mono ?_; rintro e w3 ⟨a, rfl, ha3, hd3, hl3⟩; have hl3' := (HDn.out _).trans hl3; have cT : w3.cell? ⟨TB, 11, none⟩ = some (.func (.methodOf 45 "pane/pane.end") #[] #[]) := cell_of (HTB.out _ hl3') 11; have HA3 : Hid (ArgsOf a L) := ha3; have HD3 : Hid (Dr base w3 p cB zB sB A n s ((k + 1 + j : Nat) : Int) ways shV outV st) := hd3; clear ha3 hd3; have mm := meth11 p)
            | (go_at_call 43; refine (HCm.out _ _ _ _ _ _ _ _ _ _ hl3' HA3.out HD3.out).mono ?_; rintro e w4 ⟨rfl, hB4⟩))
            go_roundg f'
            case rel => exact ⟨k + 1 + j, HGo.out _ hB4⟩
            case measure => omega
          · clear HGo
            go_wp2_with (first
            | (go_at_call 26; refine HAt.out.mono ?_; rintro e w2 ⟨rfl, m2, rfl⟩)
            | (go_at_call 27; refine (HNx.out _).mono ?_; rintro e w3 ⟨a, rfl, ha3, hd3, hl3⟩; have hl3' := (HDn.out _).trans hl3; have cT : w3.cell? ⟨TB, 11, none⟩ = some (.func (.methodOf 45 "pane/pane.end") #[] #[]) := cell_of (HTB.out _ hl3') 11; have HA3 : Hid (ArgsOf a L) := ha3; have HD3 : Hid (Dr base w3 p cB zB sB A n s ((k + 1 + j : Nat) : Int) ways shV outV st) := hd3; clear ha3 hd3; have mm := meth11 p)
            | (go_at_call 43; refine (HCm.out _ _ _ _ _ _ _ _ _ _ hl3' HA3.out HD3.out).mono ?_; rintro e w4 ⟨rfl, hB4⟩)
            | (go_at_call 28; refine (HFa.out _ _ hB4 hE0).mono ?_; rintro e w5 ⟨rfl, hW5⟩))
            go_roundg f'
            case rel => exact ⟨k + 1 + j, hW5⟩
            case measure => omega
        · simp only [show cmdFn 12 = (44, 14) from rfl] at HCm
          rcases hE0 with rfl | hE0
          · clear HFa
            go_wp2_with (first
            | (go_at_call 26; refine HAt.out.mono ?_; rintro e w2 ⟨rfl, m2, rfl⟩)
            | (go_at_call 27; refine (HNx.out _).mono ?_; rintro e w3 ⟨a, rfl, ha3, hd3, hl3⟩; have hl3' := (HDn.out _).trans hl3; have cT : w3.cell? ⟨TB, 12, none⟩ = some (.func (.methodOf 45 "pane/pane.setWays") #[] #[]) := cell_of (HTB.out _ hl3') 12; have HA3 : Hid (ArgsOf a L) := ha3; have HD3 : Hid (Dr base w3 p cB zB sB A n s ((k + 1 + j : Nat) : Int) ways shV outV st) := hd3; clear ha3 hd3; have mm := meth12 p)
            | (go_at_call 44; refine (HCm.out _ _ _ _ _ _ _ _ _ _ hl3' HA3.out HD3.out).mono ?_; rintro e w4 ⟨rfl, hB4⟩))
            go_roundg f'
            case rel => exact ⟨k + 1 + j, HGo.out _ hB4⟩
            case measure => omega
          · clear HGo
            go_wp2_with (first
            | (go_at_call 26; refine HAt.out.mono ?_; rintro e w2 ⟨rfl, m2, rfl⟩)
            | (go_at_call 27; refine (HNx.out _).mono ?_; rintro e w3 ⟨a, rfl, ha3, hd3, hl3⟩; have hl3' := (HDn.out _).trans hl3; have cT : w3.cell? ⟨TB, 12, none⟩ = some (.func (.methodOf 45 "pane/pane.setWays") #[] #[]) := cell_of (HTB.out _ hl3') 12; have HA3 : Hid (ArgsOf a L) := ha3; have HD3 : Hid (Dr base w3 p cB zB sB A n s ((k + 1 + j : Nat) : Int) ways shV outV st) := hd3; clear ha3 hd3; have mm := meth12 p)
            | (go_at_call 44; refine (HCm.out _ _ _ _ _ _ _ _ _ _ hl3' HA3.out HD3.out).mono ?_; rintro e w4 ⟨rfl, hB4⟩)
            | (go_at_call 28; refine (HFa.out _ _ hB4 hE0).mono ?_; rintro e w5 ⟨rfl, hW5⟩))
            go_roundg f'
            case rel => exact ⟨k + 1 + j, hW5⟩
            case measure => omega
        · simp only [show cmdFn 13 = (45, 0) from rfl] at HCm
          rcases hE0 with rfl | hE0
          · clear HFa
            go_wp2_with (first
            | (go_at_call 26; refine HAt.out.mono ?_; rintro e w2 ⟨rfl, m2, rfl⟩)
            | (go_at_call 27; refine (HNx.out _).mono ?_; rintro e w3 ⟨a, rfl, ha3, hd3, hl3⟩; have hl3' := (HDn.out _).trans hl3; have cT : w3.cell? ⟨TB, 13, none⟩ = some (.func (.func 45) #[] #[]) := cell_of (HTB.out _ hl3') 13; have HA3 : Hid (ArgsOf a L) := ha3; have HD3 : Hid (Dr base w3 p cB zB sB A n s ((k + 1 + j : Nat) : Int) ways shV outV st) := hd3; clear ha3 hd3)
            | (go_at_call 45; refine (HCm.out _ _ _ _ _ _ _ _ _ _ hl3' HA3.out HD3.out).mono ?_; rintro e w4 ⟨rfl, hB4⟩))
            go_roundg f'
            case rel => exact ⟨k + 1 + j, HGo.out _ hB4⟩
            case measure => omega
          · clear HGo
            go_wp2_with (first
            | (go_at_call 26; refine HAt.out.mono ?_; rintro e w2 ⟨rfl, m2, rfl⟩)
            | (go_at_call 27; refine (HNx.out _).mono ?_; rintro e w3 ⟨a, rfl, ha3, hd3, hl3⟩; have hl3' := (HDn.out _).trans hl3; have cT : w3.cell? ⟨TB, 13, none⟩ = some (.func (.func 45) #[] #[]) := cell_of (HTB.out _ hl3') 13; have HA3 : Hid (ArgsOf a L) := ha3; have HD3 : Hid (Dr base w3 p cB zB sB A n s ((k + 1 + j : Nat) : Int) ways shV outV st) := hd3; clear ha3 hd3)
            | (go_at_call 45; refine (HCm.out _ _ _ _ _ _ _ _ _ _ hl3' HA3.out HD3.out).mono ?_; rintro e w4 ⟨rfl, hB4⟩)
            | (go_at_call 28; refine (HFa.out _ _ hB4 hE0).mono ?_; rintro e w5 ⟨rfl, hW5⟩))
            go_roundg f'
            case rel => exact ⟨k + 1 + j, hW5⟩
            case measure => omega
        · simp only [show cmdFn 14 = (46, 0) from rfl] at HCm
          rcases hE0 with rfl | hE0
          · clear HFa
            go_wp2_with (first
            | (go_at_call 26; refine HAt.out.mono ?_; rintro e w2 ⟨rfl, m2, rfl⟩)
            | (go_at_call 27; refine (HNx.out _).mono ?_; rintro e w3 ⟨a, rfl, ha3, hd3, hl3⟩; have hl3' := (HDn.out _).trans hl3; have cT : w3.cell? ⟨TB, 14, none⟩ = some (.func (.func 46) #[] #[]) := cell_of (HTB.out _ hl3') 14; have HA3 : Hid (ArgsOf a L) := ha3; have HD3 : Hid (Dr base w3 p cB zB sB A n s ((k + 1 + j : Nat) : Int) ways shV outV st) := hd3; clear ha3 hd3)
            | (go_at_call 46; refine (HCm.out _ _ _ _ _ _ _ _ _ _ hl3' HA3.out HD3.out).mono ?_; rintro e w4 ⟨rfl, hB4⟩))
            go_roundg f'
            case rel => exact ⟨k + 1 + j, HGo.out _ hB4⟩
            case measure => omega
          · clear HGo
            go_wp2_with (first
            | (go_at_call 26; refine HAt.out.mono ?_; rintro e w2 ⟨rfl, m2, rfl⟩)
            | (go_at_call 27; refine (HNx.out _).mono ?_; rintro e w3 ⟨a, rfl, ha3, hd3, hl3⟩; have hl3' := (HDn.out _).trans hl3; have cT : w3.cell? ⟨TB, 14, none⟩ = some (.func (.func 46) #[] #[]) := cell_of (HTB.out _ hl3') 14; have HA3 : Hid (ArgsOf a L) := ha3; have HD3 : Hid (Dr base w3 p cB zB sB A n s ((k + 1 + j : Nat) : Int) ways shV outV st) := hd3; clear ha3 hd3)
            | (go_at_call 46; refine (HCm.out _ _ _ _ _ _ _ _ _ _ hl3' HA3.out HD3.out).mono ?_; rintro e w4 ⟨rfl, hB4⟩)
            | (go_at_call 28; refine (HFa.out _ _ hB4 hE0).mono ?_; rintro e w5 ⟨rfl, hW5⟩))
            go_roundg f'
            case rel => exact ⟨k + 1 + j, hW5⟩
            case measure => omega
end Go.Proofs.YtifloehpdkfchaaDoor

namespace Go.Proofs.YtifloehpdkfchaaDoor
open Go.RowKit

theorem TabW.pos {w : World} (h : TabW w) : 0 < w.heap.size := by
  have h0 := h 0 (by decide)
  rcases Nat.eq_zero_or_pos w.heap.size with e | e
  · have : w.heap[0]? = none := by simp [e]
    simp [World.cell?, this] at h0
  · exact e

/-- A drawer is made, and has worked. -/
theorem worked (s : ByteArray) (_ways : Int) (w : World) (hs : s.size ≤ 100000000000) (ht : TabW w) : ∀ p w1 cB zB sB ways', Dr w.heap.size w1 p cB zB sB 2 4 s 0 ways' (.slice none 0 0) (.slice none 0 0) st0 → Below w.heap.size w w1 →
    Calls Tryd.prog 19 #[.pointer (some ⟨p, 0, none⟩)] w1 fun e w' => e = .returned (.tuple #[]) ∧ (∃ cB zB sB A n k ways shV outV, Dr w.heap.size w' p cB zB sB A n s k ways shV outV (playFrom s s.size 0 st0)) ∧ Below w.heap.size w w' := by
  intro p w1 cB zB sB ways' hd hb
  refine (work_in w.heap.size p cB zB sB 2 4 s ways' _ _ w1 hd (ht.low hb ht.pos) ht.pos hs).mono ?_
  rintro e w' ⟨rfl, cB, zB, sB, A, n, k, ways, shV, outV, hd', hb'⟩
  exact ⟨rfl, ⟨_, _, _, _, _, _, _, _, _, hd'⟩, hb.trans hb'⟩

set_option maxRecDepth 100000 in
set_option maxHeartbeats 400000 in
theorem draw_in (s : ByteArray) (ways : Int) (w : World) (hs : s.size ≤ 100000000000) (ht : TabW w) :
    Calls Tryd.prog 9 #[.string s, .int .i64 ways] w fun e w' => ∃ v, e = .returned v ∧ w'.ownsRow w.heap.size 39 4 v (playFrom s s.size 0 st0).out.length (rcells (playFrom s s.size 0 st0).out) ∧ Below w.heap.size w w' := by
  have HN : Hid (Calls Tryd.prog 18 #[.string s, .int .i64 ways] w (NewPost s w)) := newDrawer_in s ways w
  have hw := worked s ways w hs ht
  generalize playFrom s s.size 0 st0 = R at *
  have HW : Hid (∀ p w1 cB zB sB ways', Dr w.heap.size w1 p cB zB sB 2 4 s 0 ways' (.slice none 0 0) (.slice none 0 0) st0 → Below w.heap.size w w1 →
    Calls Tryd.prog 19 #[.pointer (some ⟨p, 0, none⟩)] w1 fun e w' => e = .returned (.tuple #[]) ∧ (∃ cB zB sB A n k ways shV outV, Dr w.heap.size w' p cB zB sB A n s k ways shV outV R) ∧ Below w.heap.size w w') := hw
  clear hw ht
  go_enter Tryd.func9, Tryd.ntmps9
  go_wp2_with (first
    | (go_at_call 18; refine HN.out.mono ?_; rintro e w1 ⟨p, cB, zB, sB, ways', rfl, hd1, hb1⟩; have HD1 : Hid (Dr w.heap.size w1 p cB zB sB 2 4 s 0 ways' (.slice none 0 0) (.slice none 0 0) st0) := hd1; clear hd1)
    | (go_at_call 19; refine (HW.out _ _ _ _ _ _ HD1.out hb1).mono ?_; rintro e w2 ⟨rfl, ⟨cB2, zB2, sB2, A2, n2, k2, ways2, shV2, outV2, hd2⟩, hb2⟩; have HD2 : Hid (Dr w.heap.size w2 p cB2 zB2 sB2 A2 n2 s k2 ways2 shV2 outV2 R) := hd2; have c39 : w2.cell? ⟨p, 39, none⟩ = some outV2 := cell_of hd2.bp 39; clear hd2))
  go_ret
  exact ⟨_, rfl, HD2.out.out, hb2⟩

end Go.Proofs.YtifloehpdkfchaaDoor
