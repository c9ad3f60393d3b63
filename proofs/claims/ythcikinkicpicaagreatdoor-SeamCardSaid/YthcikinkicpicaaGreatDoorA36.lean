import Derived.Test.YthcikinkicpicaaGreatDoorA35

namespace Go.Proofs.YthcikinkicpicaaGreatDoor
open Go.RowKit

theorem meth1 (p : Nat) (w : World) : (method 376 61 (.pointer (some ⟨p, 0, none⟩)) "pane/pane.setSize").run Tryz.prog w = .ok (51, .pointer (some ⟨p, 2, none⟩)) w := by kernel_rfl
theorem meth3 (p : Nat) (w : World) : (method 376 61 (.pointer (some ⟨p, 0, none⟩)) "pane/pane.setDepth").run Tryz.prog w = .ok (53, .pointer (some ⟨p, 14, none⟩)) w := by kernel_rfl
theorem meth4 (p : Nat) (w : World) : (method 376 61 (.pointer (some ⟨p, 0, none⟩)) "pane/pane.setStencil").run Tryz.prog w = .ok (54, .pointer (some ⟨p, 14, none⟩)) w := by kernel_rfl
theorem meth5 (p : Nat) (w : World) : (method 376 61 (.pointer (some ⟨p, 0, none⟩)) "pane/pane.setWindow").run Tryz.prog w = .ok (55, .pointer (some ⟨p, 2, none⟩)) w := by kernel_rfl
theorem meth6 (p : Nat) (w : World) : (method 376 61 (.pointer (some ⟨p, 0, none⟩)) "pane/pane.setFaces").run Tryz.prog w = .ok (56, .pointer (some ⟨p, 14, none⟩)) w := by kernel_rfl
theorem meth7 (p : Nat) (w : World) : (method 376 61 (.pointer (some ⟨p, 0, none⟩)) "pane/pane.setColours").run Tryz.prog w = .ok (57, .pointer (some ⟨p, 14, none⟩)) w := by kernel_rfl
theorem meth8 (p : Nat) (w : World) : (method 376 61 (.pointer (some ⟨p, 0, none⟩)) "pane/pane.setShader").run Tryz.prog w = .ok (58, .pointer (some ⟨p, 14, none⟩)) w := by kernel_rfl
theorem meth10 (p : Nat) (w : World) : (method 376 61 (.pointer (some ⟨p, 0, none⟩)) "pane/pane.begin").run Tryz.prog w = .ok (60, .pointer (some ⟨p, 29, none⟩)) w := by kernel_rfl
theorem meth11 (p : Nat) (w : World) : (method 376 61 (.pointer (some ⟨p, 0, none⟩)) "pane/pane.end").run Tryz.prog w = .ok (61, .pointer (some ⟨p, 29, none⟩)) w := by kernel_rfl
theorem meth12 (p : Nat) (w : World) : (method 376 61 (.pointer (some ⟨p, 0, none⟩)) "pane/pane.setWays").run Tryz.prog w = .ok (62, .pointer (some ⟨p, 14, none⟩)) w := by kernel_rfl


/-- What workNext leaves. -/
def NxtPost (pl : Prop) (base p TB : Nat) (s : ByteArray) (w : World) (R : St) (f : Nat) (e : Ending) (w' : World) : Prop :=
  (e = .returned (.bool true) ∧ ∃ k', WkI pl base p TB s w R f k' w') ∨ (e = .returned (.bool false) ∧ WkE pl base p s w R w')

theorem BkI.go {pl : Prop} {base p TB : Nat} {s : ByteArray} {w W : World} {R : St} {f k k' : Nat} (h : BkI pl base p TB s w R f k k' 0 W) : NxtPost pl base p TB s w R f (.returned (.bool true)) W := by
  obtain ⟨sp, hv, hr, ho, _⟩ := h.vi
  rw [if_pos rfl] at hr
  exact .inl ⟨rfl, k', h.kf, h.kl, ⟨sp, hv, hr, ho⟩, h.zr, h.tab, h.bel⟩
theorem BkI.tell {pl : Prop} {base p TB : Nat} {s : ByteArray} {w W : World} {R : St} {f k k' : Nat} {e : Int} (h : BkI pl base p TB s w R f k k' e W) (he : e ≠ 0) (hs : s.size ≤ 100000000000) :
    Calls Tryz.prog 66 #[.pointer (some ⟨p, 0, none⟩), .int .i64 e, .int .i64 (k : Int)] W fun e' w' => e' = .returned (.tuple #[]) ∧ NxtPost pl base p TB s w R f (.returned (.bool true)) w' := by
  obtain ⟨sp, hv, hr, ho, ho2⟩ := h.vi
  rw [if_neg he] at hr
  have hkl := h.kl
  refine (fault_vi hv e k (by omega)).mono ?_
  rintro e' w' ⟨rfl, hv', hl'⟩
  refine ⟨rfl, .inl ⟨rfl, k', h.kf, hkl, ⟨_, hv', hr, ?_⟩, h.zr, hl'.tab _ _ h.tab, h.bel.trans hl'.bel⟩⟩
  have := ho2 he
  simp only [List.length_append, List.length_cons, List.length_nil]; omega

set_option maxRecDepth 100000 in
set_option maxHeartbeats 4000000 in
theorem workNext_in (pl : Prop) (base p TB : Nat) (s : ByteArray) (w : World) (R : St) (f k : Nat) (wr : World) (hI : WkI pl base p TB s w R (f + 1) k wr) (hk : k < s.size) (hs : s.size ≤ 100000000000) (ht : TabW wr) (hp0 : 0 < p) :
    Calls Tryz.prog 37 #[.pointer (some ⟨p, 0, none⟩), .pointer (some ⟨TB, 0, none⟩)] wr (NxtPost pl base p TB s w R f) := by
  obtain ⟨sp, hvi, hrun, hout⟩ := hI.vi
  have c1 : wr.cell? ⟨p, 1, none⟩ = some (.int .i64 (k : Int)) := by
    obtain ⟨st, cB, zB, sB, A, n, ways, shV, outV, L, N, hd, _⟩ := hvi.ex
    exact cell_of hd.bp 1
  have hnx := next_vi hvi hk hs ht hp0
  by_cases hbad : lenAt s k < 0 ∨ (s.size : Int) < k + 1 + lenAt s k
  · simp only [if_pos hbad] at hnx
    have HNx : Hid (Calls Tryz.prog 65 #[.pointer (some ⟨p, 0, none⟩)] wr fun e w' => e = .returned (.tuple #[.int .i64 0, .string ⟨#[]⟩, .bool false]) ∧ Below wr.heap.size wr w') := hnx
    have HFa : Hid (∀ W, Below wr.heap.size wr W → Calls Tryz.prog 66 #[.pointer (some ⟨p, 0, none⟩), .int .i64 1, .int .i64 (k : Int)] W fun e w' => e = .returned (.tuple #[]) ∧ NxtPost pl base p TB s w R f (.returned (.bool false)) w') := by
      intro W hW
      refine (fault_vi (hvi.frame hW) 1 k (by omega)).mono ?_
      rintro e w' ⟨rfl, hv', hl'⟩
      have h1 := hrun
      rw [playFrom, if_neg (by omega), if_pos hbad] at h1
      rw [h1] at hv'
      have hlw : Low base wr W := by
        obtain ⟨st, cB, zB, sB, A, n, ways, shV, outV, L, N, hd, _⟩ := hvi.ex
        exact hd.lowOf hW
      exact ⟨rfl, .inr ⟨rfl, ⟨k, hv'⟩, hI.bel.trans (hlw.trans hl').bel⟩⟩
    clear hnx hrun hout hvi hbad hI
    go_enter Tryz.func37, Tryz.ntmps37
    go_wp2_with (first
      | (go_at_call 65; refine HNx.out.mono ?_; rintro e w3 ⟨rfl, hb3⟩)
      | (go_at_call 66; refine (HFa.out _ hb3).mono ?_; rintro e w4 ⟨rfl, hP4⟩; have HP4 : Hid (NxtPost pl base p TB s w R f (.returned (.bool false)) w4) := hP4; clear hP4))
    go_ret
    exact HP4.out
  · simp only [if_neg hbad] at hnx
    obtain ⟨j, hj⟩ := Int.eq_ofNat_of_zero_le (show 0 ≤ lenAt s k by omega)
    have hkj : k + 1 + j ≤ s.size := by omega
    obtain ⟨hlo, hj1⟩ := lenOk_of hj
    simp only [hj, Int.toNat_natCast] at hnx
    have hkd : 1 ≤ kindLen (byteAt s k) ∨ byteAt s k = 8 := by
      rcases hlo with ⟨e, _⟩ | ⟨_, e, _⟩
      · exact .inr e
      · exact .inl e
    have hx : byteAt s k = 9 ∨ byteAt s k = 1 ∨ byteAt s k = 2 ∨ byteAt s k = 3 ∨ byteAt s k = 4 ∨ byteAt s k = 5 ∨ byteAt s k = 6 ∨ byteAt s k = 7 ∨ byteAt s k = 8 ∨ byteAt s k = 10 ∨ byteAt s k = 11 ∨ byteAt s k = 12 ∨ byteAt s k = 13 ∨ byteAt s k = 14 := by
      rcases hkd with h1 | h1
      · rcases kinds h1 with h1 | h1 | h1 | h1 | h1 | h1 | h1 | h1 | h1 | h1 | h1 | h1 | h1 | h1 <;> omega
      · omega
    have HTB : Hid (∀ W, Low base wr W → W.heap[TB]? = some (.cells cmdL.toArray 106 (0, 0))) := fun W hW => hW.tab _ _ hI.tab
    by_cases h9 : byteAt s k = 9
    · have hj27 : j = 27 := by
        rcases hlo with ⟨e, _⟩ | ⟨_, hk1, hl⟩
        · omega
        · rcases kinds hk1 with h1 | h1 | h1 | h1 | h1 | h1 | h1 | h1 | h1 | h1 | h1 | h1 | h1 | h1 <;> (have hll : (argsAt s (k + 1) j).length = j := by simp [argsAt]) <;> omega
      have HNx : Hid (Calls Tryz.prog 65 #[.pointer (some ⟨p, 0, none⟩)] wr fun e w' => ∃ a, e = .returned (.tuple #[.int .i64 9, .string a, .bool true]) ∧ Low base wr w' ∧
          Hid (Calls Tryz.prog 59 #[.pointer (some ⟨p, 0, none⟩), .string a] w' fun e w'' => e = .returned (.int .i64 0) ∧ Hid (BkI pl base p TB s w R f k (k + 1 + j) 0 w''))) := by
        refine hnx.mono ?_
        rintro e w' ⟨a, rfl, ha, hl, hV⟩
        exact ⟨a, by rw [h9], hl, tri_vi hI hvi.ok hrun hout hj hkj hk h9 hj27 ha hl hs hV⟩
      clear hnx hrun hout hvi hbad hI hx hkd hlo h9
      go_enter Tryz.func37, Tryz.ntmps37
      go_wp2_with (first
        | (go_at_call 65; refine HNx.out.mono ?_; rintro e w3 ⟨a, rfl, hl3, HC3⟩; have cT : w3.cell? ⟨TB, 9, none⟩ = some (.func (.func 59) #[] #[]) := cell_of (HTB.out _ hl3) 9)
        | (go_at_call 59; refine HC3.out.mono ?_; rintro e w4 ⟨rfl, hB4⟩))
      go_ret
      exact hB4.out.go
    · have HNx : Hid (Calls Tryz.prog 65 #[.pointer (some ⟨p, 0, none⟩)] wr fun e w' => ∃ a, e = .returned (.tuple #[.int .i64 (byteAt s k), .string a, .bool true]) ∧ Hid (ArgsOf a (argsAt s (k + 1) j) ∧ Low base wr w' ∧ Vi pl base p s (k + 1 + j) sp w')) := by
        refine hnx.mono ?_
        rintro e w' ⟨a, rfl, ha, hl, st, cB, zB, sB, A, n, ways, shV, outV, L, N, hd, hw, hN, hok, hn, hv⟩
        exact ⟨a, rfl, ha, hl, ⟨st, cB, zB, sB, A, n, ways, shV, outV, L, N, hd, hw, by omega, Ok_mono hok (by push_cast; omega), hn, hv⟩, Ok_mono hvi.ok (by push_cast; omega), by omega⟩
      have HWt : Hid (∀ a w3, Hid (ArgsOf a (argsAt s (k + 1) j) ∧ Low base wr w3 ∧ Vi pl base p s (k + 1 + j) sp w3) → Calls Tryz.prog 38 #[.pointer (some ⟨p, 0, none⟩)] w3 fun e w4 => e = .returned (.tuple #[]) ∧ Low base wr w4 ∧
          Hid (Calls Tryz.prog (cmdFn (byteAt s k)).1 #[.pointer (some ⟨p, (cmdFn (byteAt s k)).2, none⟩), .string a] w4 fun e w5 => e = .returned (.int .i64 (sp.cmd (byteAt s k) (argsAt s (k + 1) j)).2) ∧ Hid (BkI pl base p TB s w R f k (k + 1 + j) (sp.cmd (byteAt s k) (argsAt s (k + 1) j)).2 w5))) := by
        rintro a w3 ⟨ha, hl, hV⟩
        refine (wait_vi hV).mono ?_
        rintro e w4 ⟨rfl, hVd⟩
        have hl4 : Low base w3 w4 := by
          obtain ⟨st, cB, zB, sB, A, n, v, m, ck, shV, outV, _, _, _, _, h4⟩ := hVd
          exact h4
        exact ⟨rfl, hl.trans hl4, cmd_vi hI hvi hrun hout hj hkj hk h9 ha hVd hl hs⟩
      clear hnx hrun hout hvi hbad hI hkd hlo
      generalize byteAt s k = x at *
      generalize argsAt s (k + 1) j = L at *
      have HFa : Hid (∀ W e, Hid (BkI pl base p TB s w R f k (k + 1 + j) e W) → e ≠ 0 → Calls Tryz.prog 66 #[.pointer (some ⟨p, 0, none⟩), .int .i64 e, .int .i64 (k : Int)] W fun e' w' => e' = .returned (.tuple #[]) ∧ Hid (NxtPost pl base p TB s w R f (.returned (.bool true)) w')) := fun W e hW he => hW.out.tell he hs
      generalize hE : (sp.cmd x L).2 = E at *
      clear hE
      have hE0 : E = 0 ∨ ¬ E = 0 := by omega
      rcases hx with rfl | rfl | rfl | rfl | rfl | rfl | rfl | rfl | rfl | rfl | rfl | rfl | rfl | rfl
      · exact absurd rfl h9
      · simp only [show cmdFn 1 = (51, 2) from rfl] at HWt
        rcases hE0 with rfl | hE0
        · clear HFa
          go_enter Tryz.func37, Tryz.ntmps37
          go_wp2_with (first
            | (go_at_call 65; refine HNx.out.mono ?_; rintro e w3 ⟨a, rfl, h3⟩)
            | (go_at_call 38; refine (HWt.out a w3 h3).mono ?_; rintro e w4 ⟨rfl, hl4, HC4⟩; have cT : w4.cell? ⟨TB, 1, none⟩ = some (.func (.methodOf 61 "pane/pane.setSize") #[] #[]) := cell_of (HTB.out _ hl4) 1; have mm := meth1 p)
            | (go_at_call 51; refine HC4.out.mono ?_; rintro e w5 ⟨rfl, hB5⟩))
          go_ret
          exact hB5.out.go
        · go_enter Tryz.func37, Tryz.ntmps37
          go_wp2_with (first
            | (go_at_call 65; refine HNx.out.mono ?_; rintro e w3 ⟨a, rfl, h3⟩)
            | (go_at_call 38; refine (HWt.out a w3 h3).mono ?_; rintro e w4 ⟨rfl, hl4, HC4⟩; have cT : w4.cell? ⟨TB, 1, none⟩ = some (.func (.methodOf 61 "pane/pane.setSize") #[] #[]) := cell_of (HTB.out _ hl4) 1; have mm := meth1 p)
            | (go_at_call 51; refine HC4.out.mono ?_; rintro e w5 ⟨rfl, hB5⟩)
            | (go_at_call 66; refine (HFa.out _ _ hB5 hE0).mono ?_; rintro e w6 ⟨rfl, hP6⟩))
          go_ret
          exact hP6.out
      · simp only [show cmdFn 2 = (52, 0) from rfl] at HWt
        rcases hE0 with rfl | hE0
        · clear HFa
          go_enter Tryz.func37, Tryz.ntmps37
          go_wp2_with (first
            | (go_at_call 65; refine HNx.out.mono ?_; rintro e w3 ⟨a, rfl, h3⟩)
            | (go_at_call 38; refine (HWt.out a w3 h3).mono ?_; rintro e w4 ⟨rfl, hl4, HC4⟩; have cT : w4.cell? ⟨TB, 2, none⟩ = some (.func (.func 52) #[] #[]) := cell_of (HTB.out _ hl4) 2)
            | (go_at_call 52; refine HC4.out.mono ?_; rintro e w5 ⟨rfl, hB5⟩))
          go_ret
          exact hB5.out.go
        · go_enter Tryz.func37, Tryz.ntmps37
          go_wp2_with (first
            | (go_at_call 65; refine HNx.out.mono ?_; rintro e w3 ⟨a, rfl, h3⟩)
            | (go_at_call 38; refine (HWt.out a w3 h3).mono ?_; rintro e w4 ⟨rfl, hl4, HC4⟩; have cT : w4.cell? ⟨TB, 2, none⟩ = some (.func (.func 52) #[] #[]) := cell_of (HTB.out _ hl4) 2)
            | (go_at_call 52; refine HC4.out.mono ?_; rintro e w5 ⟨rfl, hB5⟩)
            | (go_at_call 66; refine (HFa.out _ _ hB5 hE0).mono ?_; rintro e w6 ⟨rfl, hP6⟩))
          go_ret
          exact hP6.out
      · simp only [show cmdFn 3 = (53, 14) from rfl] at HWt
        rcases hE0 with rfl | hE0
        · clear HFa
          go_enter Tryz.func37, Tryz.ntmps37
          go_wp2_with (first
            | (go_at_call 65; refine HNx.out.mono ?_; rintro e w3 ⟨a, rfl, h3⟩)
            | (go_at_call 38; refine (HWt.out a w3 h3).mono ?_; rintro e w4 ⟨rfl, hl4, HC4⟩; have cT : w4.cell? ⟨TB, 3, none⟩ = some (.func (.methodOf 61 "pane/pane.setDepth") #[] #[]) := cell_of (HTB.out _ hl4) 3; have mm := meth3 p)
            | (go_at_call 53; refine HC4.out.mono ?_; rintro e w5 ⟨rfl, hB5⟩))
          go_ret
          exact hB5.out.go
        · go_enter Tryz.func37, Tryz.ntmps37
          go_wp2_with (first
            | (go_at_call 65; refine HNx.out.mono ?_; rintro e w3 ⟨a, rfl, h3⟩)
            | (go_at_call 38; refine (HWt.out a w3 h3).mono ?_; rintro e w4 ⟨rfl, hl4, HC4⟩; have cT : w4.cell? ⟨TB, 3, none⟩ = some (.func (.methodOf 61 "pane/pane.setDepth") #[] #[]) := cell_of (HTB.out _ hl4) 3; have mm := meth3 p)
            | (go_at_call 53; refine HC4.out.mono ?_; rintro e w5 ⟨rfl, hB5⟩)
            | (go_at_call 66; refine (HFa.out _ _ hB5 hE0).mono ?_; rintro e w6 ⟨rfl, hP6⟩))
          go_ret
          exact hP6.out
      · simp only [show cmdFn 4 = (54, 14) from rfl] at HWt
        rcases hE0 with rfl | hE0
        · clear HFa
          go_enter Tryz.func37, Tryz.ntmps37
          go_wp2_with (first
            | (go_at_call 65; refine HNx.out.mono ?_; rintro e w3 ⟨a, rfl, h3⟩)
            | (go_at_call 38; refine (HWt.out a w3 h3).mono ?_; rintro e w4 ⟨rfl, hl4, HC4⟩; have cT : w4.cell? ⟨TB, 4, none⟩ = some (.func (.methodOf 61 "pane/pane.setStencil") #[] #[]) := cell_of (HTB.out _ hl4) 4; have mm := meth4 p)
            | (go_at_call 54; refine HC4.out.mono ?_; rintro e w5 ⟨rfl, hB5⟩))
          go_ret
          exact hB5.out.go
        · go_enter Tryz.func37, Tryz.ntmps37
          go_wp2_with (first
            | (go_at_call 65; refine HNx.out.mono ?_; rintro e w3 ⟨a, rfl, h3⟩)
            | (go_at_call 38; refine (HWt.out a w3 h3).mono ?_; rintro e w4 ⟨rfl, hl4, HC4⟩; have cT : w4.cell? ⟨TB, 4, none⟩ = some (.func (.methodOf 61 "pane/pane.setStencil") #[] #[]) := cell_of (HTB.out _ hl4) 4; have mm := meth4 p)
            | (go_at_call 54; refine HC4.out.mono ?_; rintro e w5 ⟨rfl, hB5⟩)
            | (go_at_call 66; refine (HFa.out _ _ hB5 hE0).mono ?_; rintro e w6 ⟨rfl, hP6⟩))
          go_ret
          exact hP6.out
      · simp only [show cmdFn 5 = (55, 2) from rfl] at HWt
        rcases hE0 with rfl | hE0
        · clear HFa
          go_enter Tryz.func37, Tryz.ntmps37
          go_wp2_with (first
            | (go_at_call 65; refine HNx.out.mono ?_; rintro e w3 ⟨a, rfl, h3⟩)
            | (go_at_call 38; refine (HWt.out a w3 h3).mono ?_; rintro e w4 ⟨rfl, hl4, HC4⟩; have cT : w4.cell? ⟨TB, 5, none⟩ = some (.func (.methodOf 61 "pane/pane.setWindow") #[] #[]) := cell_of (HTB.out _ hl4) 5; have mm := meth5 p)
            | (go_at_call 55; refine HC4.out.mono ?_; rintro e w5 ⟨rfl, hB5⟩))
          go_ret
          exact hB5.out.go
        · go_enter Tryz.func37, Tryz.ntmps37
          go_wp2_with (first
            | (go_at_call 65; refine HNx.out.mono ?_; rintro e w3 ⟨a, rfl, h3⟩)
            | (go_at_call 38; refine (HWt.out a w3 h3).mono ?_; rintro e w4 ⟨rfl, hl4, HC4⟩; have cT : w4.cell? ⟨TB, 5, none⟩ = some (.func (.methodOf 61 "pane/pane.setWindow") #[] #[]) := cell_of (HTB.out _ hl4) 5; have mm := meth5 p)
            | (go_at_call 55; refine HC4.out.mono ?_; rintro e w5 ⟨rfl, hB5⟩)
            | (go_at_call 66; refine (HFa.out _ _ hB5 hE0).mono ?_; rintro e w6 ⟨rfl, hP6⟩))
          go_ret
          exact hP6.out
      · simp only [show cmdFn 6 = (56, 14) from rfl] at HWt
        rcases hE0 with rfl | hE0
        · clear HFa
          go_enter Tryz.func37, Tryz.ntmps37
          go_wp2_with (first
            | (go_at_call 65; refine HNx.out.mono ?_; rintro e w3 ⟨a, rfl, h3⟩)
            | (go_at_call 38; refine (HWt.out a w3 h3).mono ?_; rintro e w4 ⟨rfl, hl4, HC4⟩; have cT : w4.cell? ⟨TB, 6, none⟩ = some (.func (.methodOf 61 "pane/pane.setFaces") #[] #[]) := cell_of (HTB.out _ hl4) 6; have mm := meth6 p)
            | (go_at_call 56; refine HC4.out.mono ?_; rintro e w5 ⟨rfl, hB5⟩))
          go_ret
          exact hB5.out.go
        · go_enter Tryz.func37, Tryz.ntmps37
          go_wp2_with (first
            | (go_at_call 65; refine HNx.out.mono ?_; rintro e w3 ⟨a, rfl, h3⟩)
            | (go_at_call 38; refine (HWt.out a w3 h3).mono ?_; rintro e w4 ⟨rfl, hl4, HC4⟩; have cT : w4.cell? ⟨TB, 6, none⟩ = some (.func (.methodOf 61 "pane/pane.setFaces") #[] #[]) := cell_of (HTB.out _ hl4) 6; have mm := meth6 p)
            | (go_at_call 56; refine HC4.out.mono ?_; rintro e w5 ⟨rfl, hB5⟩)
            | (go_at_call 66; refine (HFa.out _ _ hB5 hE0).mono ?_; rintro e w6 ⟨rfl, hP6⟩))
          go_ret
          exact hP6.out
      · simp only [show cmdFn 7 = (57, 14) from rfl] at HWt
        rcases hE0 with rfl | hE0
        · clear HFa
          go_enter Tryz.func37, Tryz.ntmps37
          go_wp2_with (first
            | (go_at_call 65; refine HNx.out.mono ?_; rintro e w3 ⟨a, rfl, h3⟩)
            | (go_at_call 38; refine (HWt.out a w3 h3).mono ?_; rintro e w4 ⟨rfl, hl4, HC4⟩; have cT : w4.cell? ⟨TB, 7, none⟩ = some (.func (.methodOf 61 "pane/pane.setColours") #[] #[]) := cell_of (HTB.out _ hl4) 7; have mm := meth7 p)
            | (go_at_call 57; refine HC4.out.mono ?_; rintro e w5 ⟨rfl, hB5⟩))
          go_ret
          exact hB5.out.go
        · go_enter Tryz.func37, Tryz.ntmps37
          go_wp2_with (first
            | (go_at_call 65; refine HNx.out.mono ?_; rintro e w3 ⟨a, rfl, h3⟩)
            | (go_at_call 38; refine (HWt.out a w3 h3).mono ?_; rintro e w4 ⟨rfl, hl4, HC4⟩; have cT : w4.cell? ⟨TB, 7, none⟩ = some (.func (.methodOf 61 "pane/pane.setColours") #[] #[]) := cell_of (HTB.out _ hl4) 7; have mm := meth7 p)
            | (go_at_call 57; refine HC4.out.mono ?_; rintro e w5 ⟨rfl, hB5⟩)
            | (go_at_call 66; refine (HFa.out _ _ hB5 hE0).mono ?_; rintro e w6 ⟨rfl, hP6⟩))
          go_ret
          exact hP6.out
      · simp only [show cmdFn 8 = (58, 14) from rfl] at HWt
        rcases hE0 with rfl | hE0
        · clear HFa
          go_enter Tryz.func37, Tryz.ntmps37
          go_wp2_with (first
            | (go_at_call 65; refine HNx.out.mono ?_; rintro e w3 ⟨a, rfl, h3⟩)
            | (go_at_call 38; refine (HWt.out a w3 h3).mono ?_; rintro e w4 ⟨rfl, hl4, HC4⟩; have cT : w4.cell? ⟨TB, 8, none⟩ = some (.func (.methodOf 61 "pane/pane.setShader") #[] #[]) := cell_of (HTB.out _ hl4) 8; have mm := meth8 p)
            | (go_at_call 58; refine HC4.out.mono ?_; rintro e w5 ⟨rfl, hB5⟩))
          go_ret
          exact hB5.out.go
        · go_enter Tryz.func37, Tryz.ntmps37
          go_wp2_with (first
            | (go_at_call 65; refine HNx.out.mono ?_; rintro e w3 ⟨a, rfl, h3⟩)
            | (go_at_call 38; refine (HWt.out a w3 h3).mono ?_; rintro e w4 ⟨rfl, hl4, HC4⟩; have cT : w4.cell? ⟨TB, 8, none⟩ = some (.func (.methodOf 61 "pane/pane.setShader") #[] #[]) := cell_of (HTB.out _ hl4) 8; have mm := meth8 p)
            | (go_at_call 58; refine HC4.out.mono ?_; rintro e w5 ⟨rfl, hB5⟩)
            | (go_at_call 66; refine (HFa.out _ _ hB5 hE0).mono ?_; rintro e w6 ⟨rfl, hP6⟩))
          go_ret
          exact hP6.out
      · simp only [show cmdFn 10 = (60, 29) from rfl] at HWt
        rcases hE0 with rfl | hE0
        · clear HFa
          go_enter Tryz.func37, Tryz.ntmps37
          go_wp2_with (first
            | (go_at_call 65; refine HNx.out.mono ?_; rintro e w3 ⟨a, rfl, h3⟩)
            | (go_at_call 38; refine (HWt.out a w3 h3).mono ?_; rintro e w4 ⟨rfl, hl4, HC4⟩; have cT : w4.cell? ⟨TB, 10, none⟩ = some (.func (.methodOf 61 "pane/pane.begin") #[] #[]) := cell_of (HTB.out _ hl4) 10; have mm := meth10 p)
            | (go_at_call 60; refine HC4.out.mono ?_; rintro e w5 ⟨rfl, hB5⟩))
          go_ret
          exact hB5.out.go
        · go_enter Tryz.func37, Tryz.ntmps37
          go_wp2_with (first
            | (go_at_call 65; refine HNx.out.mono ?_; rintro e w3 ⟨a, rfl, h3⟩)
            | (go_at_call 38; refine (HWt.out a w3 h3).mono ?_; rintro e w4 ⟨rfl, hl4, HC4⟩; have cT : w4.cell? ⟨TB, 10, none⟩ = some (.func (.methodOf 61 "pane/pane.begin") #[] #[]) := cell_of (HTB.out _ hl4) 10; have mm := meth10 p)
            | (go_at_call 60; refine HC4.out.mono ?_; rintro e w5 ⟨rfl, hB5⟩)
            | (go_at_call 66; refine (HFa.out _ _ hB5 hE0).mono ?_; rintro e w6 ⟨rfl, hP6⟩))
          go_ret
          exact hP6.out
      · simp only [show cmdFn 11 = (61, 29) from rfl] at HWt
        rcases hE0 with rfl | hE0
        · clear HFa
          go_enter Tryz.func37, Tryz.ntmps37
          go_wp2_with (first
            | (go_at_call 65; refine HNx.out.mono ?_; rintro e w3 ⟨a, rfl, h3⟩)
            | (go_at_call 38; refine (HWt.out a w3 h3).mono ?_; rintro e w4 ⟨rfl, hl4, HC4⟩; have cT : w4.cell? ⟨TB, 11, none⟩ = some (.func (.methodOf 61 "pane/pane.end") #[] #[]) := cell_of (HTB.out _ hl4) 11; have mm := meth11 p)
            | (go_at_call 61; refine HC4.out.mono ?_; rintro e w5 ⟨rfl, hB5⟩))
          go_ret
          exact hB5.out.go
        · go_enter Tryz.func37, Tryz.ntmps37
          go_wp2_with (first
            | (go_at_call 65; refine HNx.out.mono ?_; rintro e w3 ⟨a, rfl, h3⟩)
            | (go_at_call 38; refine (HWt.out a w3 h3).mono ?_; rintro e w4 ⟨rfl, hl4, HC4⟩; have cT : w4.cell? ⟨TB, 11, none⟩ = some (.func (.methodOf 61 "pane/pane.end") #[] #[]) := cell_of (HTB.out _ hl4) 11; have mm := meth11 p)
            | (go_at_call 61; refine HC4.out.mono ?_; rintro e w5 ⟨rfl, hB5⟩)
            | (go_at_call 66; refine (HFa.out _ _ hB5 hE0).mono ?_; rintro e w6 ⟨rfl, hP6⟩))
          go_ret
          exact hP6.out
      · simp only [show cmdFn 12 = (62, 14) from rfl] at HWt
        rcases hE0 with rfl | hE0
        · clear HFa
          go_enter Tryz.func37, Tryz.ntmps37
          go_wp2_with (first
            | (go_at_call 65; refine HNx.out.mono ?_; rintro e w3 ⟨a, rfl, h3⟩)
            | (go_at_call 38; refine (HWt.out a w3 h3).mono ?_; rintro e w4 ⟨rfl, hl4, HC4⟩; have cT : w4.cell? ⟨TB, 12, none⟩ = some (.func (.methodOf 61 "pane/pane.setWays") #[] #[]) := cell_of (HTB.out _ hl4) 12; have mm := meth12 p)
            | (go_at_call 62; refine HC4.out.mono ?_; rintro e w5 ⟨rfl, hB5⟩))
          go_ret
          exact hB5.out.go
        · go_enter Tryz.func37, Tryz.ntmps37
          go_wp2_with (first
            | (go_at_call 65; refine HNx.out.mono ?_; rintro e w3 ⟨a, rfl, h3⟩)
            | (go_at_call 38; refine (HWt.out a w3 h3).mono ?_; rintro e w4 ⟨rfl, hl4, HC4⟩; have cT : w4.cell? ⟨TB, 12, none⟩ = some (.func (.methodOf 61 "pane/pane.setWays") #[] #[]) := cell_of (HTB.out _ hl4) 12; have mm := meth12 p)
            | (go_at_call 62; refine HC4.out.mono ?_; rintro e w5 ⟨rfl, hB5⟩)
            | (go_at_call 66; refine (HFa.out _ _ hB5 hE0).mono ?_; rintro e w6 ⟨rfl, hP6⟩))
          go_ret
          exact hP6.out
      · simp only [show cmdFn 13 = (63, 0) from rfl] at HWt
        rcases hE0 with rfl | hE0
        · clear HFa
          go_enter Tryz.func37, Tryz.ntmps37
          go_wp2_with (first
            | (go_at_call 65; refine HNx.out.mono ?_; rintro e w3 ⟨a, rfl, h3⟩)
            | (go_at_call 38; refine (HWt.out a w3 h3).mono ?_; rintro e w4 ⟨rfl, hl4, HC4⟩; have cT : w4.cell? ⟨TB, 13, none⟩ = some (.func (.func 63) #[] #[]) := cell_of (HTB.out _ hl4) 13)
            | (go_at_call 63; refine HC4.out.mono ?_; rintro e w5 ⟨rfl, hB5⟩))
          go_ret
          exact hB5.out.go
        · go_enter Tryz.func37, Tryz.ntmps37
          go_wp2_with (first
            | (go_at_call 65; refine HNx.out.mono ?_; rintro e w3 ⟨a, rfl, h3⟩)
            | (go_at_call 38; refine (HWt.out a w3 h3).mono ?_; rintro e w4 ⟨rfl, hl4, HC4⟩; have cT : w4.cell? ⟨TB, 13, none⟩ = some (.func (.func 63) #[] #[]) := cell_of (HTB.out _ hl4) 13)
            | (go_at_call 63; refine HC4.out.mono ?_; rintro e w5 ⟨rfl, hB5⟩)
            | (go_at_call 66; refine (HFa.out _ _ hB5 hE0).mono ?_; rintro e w6 ⟨rfl, hP6⟩))
          go_ret
          exact hP6.out
      · simp only [show cmdFn 14 = (64, 0) from rfl] at HWt
        rcases hE0 with rfl | hE0
        · clear HFa
          go_enter Tryz.func37, Tryz.ntmps37
          go_wp2_with (first
            | (go_at_call 65; refine HNx.out.mono ?_; rintro e w3 ⟨a, rfl, h3⟩)
            | (go_at_call 38; refine (HWt.out a w3 h3).mono ?_; rintro e w4 ⟨rfl, hl4, HC4⟩; have cT : w4.cell? ⟨TB, 14, none⟩ = some (.func (.func 64) #[] #[]) := cell_of (HTB.out _ hl4) 14)
            | (go_at_call 64; refine HC4.out.mono ?_; rintro e w5 ⟨rfl, hB5⟩))
          go_ret
          exact hB5.out.go
        · go_enter Tryz.func37, Tryz.ntmps37
          go_wp2_with (first
            | (go_at_call 65; refine HNx.out.mono ?_; rintro e w3 ⟨a, rfl, h3⟩)
            | (go_at_call 38; refine (HWt.out a w3 h3).mono ?_; rintro e w4 ⟨rfl, hl4, HC4⟩; have cT : w4.cell? ⟨TB, 14, none⟩ = some (.func (.func 64) #[] #[]) := cell_of (HTB.out _ hl4) 14)
            | (go_at_call 64; refine HC4.out.mono ?_; rintro e w5 ⟨rfl, hB5⟩)
            | (go_at_call 66; refine (HFa.out _ _ hB5 hE0).mono ?_; rintro e w6 ⟨rfl, hP6⟩))
          go_ret
          exact hP6.out
end Go.Proofs.YthcikinkicpicaaGreatDoor

namespace Go.Proofs.YthcikinkicpicaaGreatDoor
open Go.RowKit

/-- What work leaves. -/
def WkPost (pl : Prop) (base p : Nat) (s : ByteArray) (w : World) (R : St) (e : Ending) (w' : World) : Prop :=
  e = .returned (.tuple #[]) ∧ ∃ R' cB zB sB A n k ways shV outV, Dr base w' p cB zB sB A n s k ways shV outV R' ∧ Near pl R R' ∧ 0 ≤ R'.work ∧ Below base w w'

set_option maxRecDepth 100000 in
set_option maxHeartbeats 1000000 in
theorem work_in (pl : Prop) (base p cB0 zB0 sB0 A0 n0 : Nat) (s : ByteArray) (v0 : Int) (m0 ck0 : Nat) (shV0 outV0 : Value) (w : World) (h : Dr base w p cB0 zB0 sB0 A0 n0 s 0 ⟨v0, m0, #[], ck0⟩ shV0 outV0 st0) (ht : TabW w) (hb : 0 < base) (hs : s.size ≤ 100000000000) (hpl : pl → v0 = 0 ∧ zeroFrom s s.size 0) :
    Calls Tryz.prog 27 #[.pointer (some ⟨p, 0, none⟩)] w (WkPost pl base p s w (playFrom s s.size 0 st0)) := by
  obtain ⟨R, hR⟩ : ∃ R, playFrom s s.size 0 st0 = R := ⟨_, rfl⟩
  rw [hR]
  have HR : Hid (playFrom s s.size 0 st0 = R) := hR
  have HTw : Hid (∀ W, Below base w W → TabW W) := fun W hW => ht.low hW hb
  have hpb := h.b0
  have hp0 : 0 < p := by omega
  have HCo : Hid (∀ W : World, Calls Tryz.prog 35 #[] W fun e w' => e = .returned (.agg cmdL.toArray) ∧ Below W.heap.size W w') := fun W => commands_any W
  have hn : ∀ w1 : World, (w1.alloc (.cells #[.nilFunc, .nilFunc, .nilFunc, .nilFunc, .nilFunc, .nilFunc, .nilFunc, .nilFunc, .nilFunc, .nilFunc, .nilFunc, .nilFunc, .nilFunc, .nilFunc, .nilFunc] 106)).heap[w1.heap.size]? = some (.cells nilL.toArray 106 (0, 0)) := fun w1 => heap_alloc_new _ _
  have HT : Hid (∀ w1 : World, (w1.alloc (.cells #[.nilFunc, .nilFunc, .nilFunc, .nilFunc, .nilFunc, .nilFunc, .nilFunc, .nilFunc, .nilFunc, .nilFunc, .nilFunc, .nilFunc, .nilFunc, .nilFunc, .nilFunc] 106)).there w1.heap.size 0 cmdL.toArray.size) := fun w1 => there_of (hn w1) 0 15 (Nat.le_refl _)
  have HN : Hid ((Tryz.prog.info? 106).map (·.size) = some cmdL.toArray.size) := Tryz.infoTab
  have HI : Hid (∀ w1 : World, Below w.heap.size w w1 → WkI pl base p w1.heap.size s w R s.size 0 ((w1.alloc (.cells #[.nilFunc, .nilFunc, .nilFunc, .nilFunc, .nilFunc, .nilFunc, .nilFunc, .nilFunc, .nilFunc, .nilFunc, .nilFunc, .nilFunc, .nilFunc, .nilFunc, .nilFunc] 106)).setCells w1.heap.size 0 cmdL)) := by
    intro w1 hb1
    have hk := kept_setCells w1.heap.size cmdL 0 (w1.alloc (.cells #[.nilFunc, .nilFunc, .nilFunc, .nilFunc, .nilFunc, .nilFunc, .nilFunc, .nilFunc, .nilFunc, .nilFunc, .nilFunc, .nilFunc, .nilFunc, .nilFunc, .nilFunc] 106))
    have hb2 : Below w.heap.size w (w1.alloc (.cells #[.nilFunc, .nilFunc, .nilFunc, .nilFunc, .nilFunc, .nilFunc, .nilFunc, .nilFunc, .nilFunc, .nilFunc, .nilFunc, .nilFunc, .nilFunc, .nilFunc, .nilFunc] 106)) := hb1.alloc hb1.size _
    have l1 := hb1.size
    have hb3 : Below w.heap.size w ((w1.alloc (.cells #[.nilFunc, .nilFunc, .nilFunc, .nilFunc, .nilFunc, .nilFunc, .nilFunc, .nilFunc, .nilFunc, .nilFunc, .nilFunc, .nilFunc, .nilFunc, .nilFunc, .nilFunc] 106)).setCells w1.heap.size 0 cmdL) :=
      ⟨hk.os.trans hb2.os, hk.tape.trans hb2.tape, hk.output.trans hb2.output, Nat.le_trans hb2.size hk.size, fun i hi => (hk.block i (Nat.lt_of_lt_of_le hi hb2.size) (by omega)).trans (hb2.block i hi)⟩
    exact ⟨by omega, by omega, ⟨st0, ⟨⟨st0, _, _, _, _, _, _, _, _, [], 0, h.frame hb3, wts_nil _ _ _ _ _ _, by omega, by simpa using st0_ok, by rw [virt_nil]; exact Near.refl _ _, fun q => (hpl q).1⟩, by simpa using st0_ok, by omega⟩, HR.out, Nat.le_refl _⟩, fun q => (hpl q).2, by rw [heap_setCells _ _ _ _ _ _ (hn w1), put_tab], (h.lowOf hb3).bel⟩
  have HWt : Hid (∀ W, WkE pl base p s w R W → Calls Tryz.prog 38 #[.pointer (some ⟨p, 0, none⟩)] W fun e w' => e = .returned (.tuple #[]) ∧ WkPost pl base p s w R (.returned (.tuple #[])) w') := by
    intro W hW
    obtain ⟨k, hv⟩ := hW.vi
    refine (wait_vi hv).mono ?_
    rintro e w' ⟨rfl, st, cB, zB, sB, A, n, v, m, ck, shV, outV, hd, hok, hnr, _, hl⟩
    exact ⟨rfl, rfl, st, cB, zB, sB, A, n, _, _, shV, outV, hd, hnr, hok.work0, hW.bel.trans hl.bel⟩
  clear h ht hn hR hpb hpl
  go_enter Tryz.func27, Tryz.ntmps27
  go_wp2_with (first
    | (go_at_call 35; refine (HCo.out _).mono ?_; rintro e w1 ⟨rfl, hb1⟩)
    | (refine wpList_store_mid (by rfl) 106 (.tmp 2) (.tmp 3) (by rfl) w1.heap.size 0 cmdL.toArray (by rfl) (by rfl) (HT.out _) HN.out cmdL_one ?_))
  dsimp only [Act.put]
  refine gen_w (WkI pl base p w1.heap.size s w R s.size 0) (Code.wp _ _ _ _) _ (HI.out w1 hb1) ?_
  intro W0 hW0
  clear HI HT HN HCo hb1
  generalize w1.heap.size = TB at *
  go_loopg [] s.size (fun f wr => ∃ k : Nat, Hid (WkI pl base p TB s w R f k wr))
  case atStart => exact ⟨0, hW0⟩
  case round =>
    clear hW0
    obtain ⟨k, hI⟩ := hrel
    have hkl := hI.out.kl
    have hkf := hI.out.kf
    have HAt : Hid (Calls Tryz.prog 36 #[.pointer (some ⟨p, 0, none⟩)] wr fun e w' => e = .returned (.bool (decide ((k : Int) = (s.size : Int)))) ∧ ∃ n, w' = wr.drewN n) := by
      obtain ⟨sp, hv, _⟩ := hI.out.vi
      obtain ⟨st, cB, zB, sB, A, n, ways, shV, outV, L, N, hd, _⟩ := hv.ex
      exact atEnd_any p s k wr (cell_of hd.bp 0) (cell_of hd.bp 1)
    by_cases hend : k = s.size
    · have HE : Hid (∀ m, WkE pl base p s w R (wr.drewN m)) := by
        intro m
        obtain ⟨sp, hv, hrun, _⟩ := hI.out.vi
        rw [play_end s _ k sp (by omega)] at hrun
        rw [hrun] at hv
        exact ⟨⟨k, hv.frame ((Below.refl _ _).drewN' m)⟩, hI.out.bel.drewN' m⟩
      rw [decide_eq_true (show (k : Int) = (s.size : Int) by omega)] at HAt
      go_wp2_with (first
        | (go_at_call 36; refine HAt.out.mono ?_; rintro e w2 ⟨rfl, m2, rfl⟩)
        | (go_at_call 38; refine (HWt.out _ (HE.out _)).mono ?_; rintro e w3 ⟨rfl, hP3⟩; have HP3 : Hid (WkPost pl base p s w R (.returned (.tuple #[])) w3) := hP3; clear hP3))
      (try simp only [Exit.inBlock, Exit.then])
      go_end0
      exact HP3.out
    · obtain ⟨f', rfl⟩ : ∃ f', gk = f' + 1 := ⟨gk - 1, by omega⟩
      have hklt : k < s.size := by omega
      rw [decide_eq_false (show ¬ (k : Int) = (s.size : Int) by omega)] at HAt
      have HWn : Hid (∀ m, Calls Tryz.prog 37 #[.pointer (some ⟨p, 0, none⟩), .pointer (some ⟨TB, 0, none⟩)] (wr.drewN m) (NxtPost pl base p TB s w R f')) := by
        intro m
        have hI2 : WkI pl base p TB s w R (f' + 1) k (wr.drewN m) := by
          obtain ⟨sp, hv, hrun, ho⟩ := hI.out.vi
          exact ⟨hkf, hkl, ⟨sp, hv.frame ((Below.refl _ _).drewN' m), hrun, ho⟩, hI.out.zr, hI.out.tab, hI.out.bel.drewN' m⟩
        exact workNext_in pl base p TB s w R f' k _ hI2 hklt hs (HTw.out _ hI2.bel) hp0
      clear hI hend
      go_wp2_with (first
        | (go_at_call 36; refine HAt.out.mono ?_; rintro e w2 ⟨rfl, m2, rfl⟩)
        | (go_at_call 37; refine (HWn.out _).mono ?_; rintro e w3 (⟨rfl, k', hI3⟩ | ⟨rfl, hE3⟩))
        | (go_at_call 38; refine (HWt.out _ hE3).mono ?_; rintro e w4 ⟨rfl, hP4⟩; have HP4 : Hid (WkPost pl base p s w R (.returned (.tuple #[])) w4) := hP4; clear hP4))
      · go_roundg f'
        case rel => exact ⟨k', hI3⟩
        case measure => omega
      · go_end0
        exact HP4.out
end Go.Proofs.YthcikinkicpicaaGreatDoor

namespace Go.Proofs.YthcikinkicpicaaGreatDoor
open Go.RowKit

theorem TabW.pos {w : World} (h : TabW w) : 0 < w.heap.size := by
  have h0 := h 0 (by decide)
  rcases Nat.eq_zero_or_pos w.heap.size with e | e
  · have : w.heap[0]? = none := by simp [e]
    simp [World.cell?, this] at h0
  · exact e

/-- A drawer is made, and has worked. -/
theorem worked (pl : Prop) (s : ByteArray) (ways : Int) (w : World) (hs : s.size ≤ 100000000000) (ht : TabW w) (hpl : pl → bits .and .i64 ways 255 = 0 ∧ zeroFrom s s.size 0) : ∀ p w1 cB zB sB m, Dr w.heap.size w1 p cB zB sB 2 4 s 0 ⟨bits .and .i64 ways 255, m, #[], 0⟩ (.slice none 0 0) (.slice none 0 0) st0 → Below w.heap.size w w1 →
    Calls Tryz.prog 27 #[.pointer (some ⟨p, 0, none⟩)] w1 fun e w' => e = .returned (.tuple #[]) ∧ (∃ R' cB zB sB A n k ways shV outV, Dr w.heap.size w' p cB zB sB A n s k ways shV outV R' ∧ Near pl (playFrom s s.size 0 st0) R' ∧ 0 ≤ R'.work) ∧ Below w.heap.size w w' := by
  intro p w1 cB zB sB m hd hb
  refine (work_in pl w.heap.size p cB zB sB 2 4 s _ m 0 _ _ w1 hd (ht.low hb ht.pos) ht.pos hs hpl).mono ?_
  rintro e w' ⟨rfl, R', cB, zB, sB, A, n, k, ways, shV, outV, hd', hn, h0, hb'⟩
  exact ⟨rfl, ⟨R', _, _, _, _, _, _, _, _, _, hd', hn, h0⟩, hb.trans hb'⟩

set_option maxRecDepth 100000 in
set_option maxHeartbeats 400000 in
theorem draw_in (s : ByteArray) (ways : Int) (w : World) (hs : s.size ≤ 100000000000) (ht : TabW w) :
    Calls Tryz.prog 11 #[.string s, .int .i64 ways] w fun e w' => ∃ v, e = .returned v ∧ w'.ownsRow w.heap.size 25 4 v (playFrom s s.size 0 st0).out.length (rcells (playFrom s s.size 0 st0).out) ∧ Below w.heap.size w w' := by
  have HN : Hid (Calls Tryz.prog 26 #[.string s, .int .i64 ways] w (NewPost s ways w)) := newDrawer_in s ways w
  have hw := worked False s ways w hs ht (fun e => e.elim)
  generalize playFrom s s.size 0 st0 = R at *
  have HW : Hid (∀ p w1 cB zB sB m, Dr w.heap.size w1 p cB zB sB 2 4 s 0 ⟨bits .and .i64 ways 255, m, #[], 0⟩ (.slice none 0 0) (.slice none 0 0) st0 → Below w.heap.size w w1 →
    Calls Tryz.prog 27 #[.pointer (some ⟨p, 0, none⟩)] w1 fun e w' => e = .returned (.tuple #[]) ∧ (∃ R' cB zB sB A n k ways shV outV, Dr w.heap.size w' p cB zB sB A n s k ways shV outV R' ∧ Near False R R' ∧ 0 ≤ R'.work) ∧ Below w.heap.size w w') := hw
  clear hw ht
  unfold NewPost at HN
  generalize bits .and .i64 ways 255 = wv at *
  go_enter Tryz.func11, Tryz.ntmps11
  go_wp2_with (first
    | (go_at_call 26; refine HN.out.mono ?_; rintro e w1 ⟨p, cB, zB, sB, m, rfl, hd1, hb1⟩; have HD1 : Hid (Dr w.heap.size w1 p cB zB sB 2 4 s 0 ⟨wv, m, #[], 0⟩ (.slice none 0 0) (.slice none 0 0) st0) := hd1; clear hd1)
    | (go_at_call 27; refine (HW.out _ _ _ _ _ _ HD1.out hb1).mono ?_; rintro e w2 ⟨rfl, ⟨R', cB2, zB2, sB2, A2, n2, k2, ways2, shV2, outV2, hd2, hn2, h02⟩, hb2⟩; have HD2 : Hid (Dr w.heap.size w2 p cB2 zB2 sB2 A2 n2 s k2 ways2 shV2 outV2 R') := hd2; have HO2 : Hid (R'.out = R.out) := hn2.same.2.2.2.2.2.2.2.2.2.2; have c39 : w2.cell? ⟨p, 42, none⟩ = some outV2 := cell_of hd2.bp 42; clear hd2 hn2 h02))
  go_ret
  refine ⟨_, rfl, ?_, hb2⟩
  rw [← HO2.out]
  exact HD2.out.out

end Go.Proofs.YthcikinkicpicaaGreatDoor
