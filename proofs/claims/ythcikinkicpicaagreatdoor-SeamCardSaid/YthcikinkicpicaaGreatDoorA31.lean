import Derived.Test.YthcikinkicpicaaGreatDoorA16
import Derived.Test.YthcikinkicpicaaGreatDoorA03
import Derived.Test.YthcikinkicpicaaGreatDoorA21
import Derived.Deep.DeepCutAuto

namespace Go.Proofs.YthcikinkicpicaaGreatDoor
open Go.RowKit

section
variable (base : Nat) (p cB zB sB A n : Nat) (s : ByteArray) (k : Int) (ways : Wy) (shV outV : Value) (st : St) (a : ByteArray) (l : List Int) (w : World)

set_option maxRecDepth 100000 in
set_option maxHeartbeats 2000000 in
theorem clearPane_in (h : Dr base w p cB zB sB A n s k ways shV outV st) (K : Int) (hok : st.Ok K) (ha : ArgsOf a l) (hl : l.length = 7) :
    Calls Tryz.prog 52 #[.pointer (some ⟨p, 0, none⟩), .string a] w (CmdPost base p s k ways w ways.v (st.cmd 2 l)) := by
  have i7 : 7 ≤ a.size := by have := ha.size; omega
  have z0 : (0 : Int) < (a.size : Int) := by omega
  have z1 : (1 : Int) < (a.size : Int) := by omega
  have z2 : (2 : Int) < (a.size : Int) := by omega
  have z3 : (3 : Int) < (a.size : Int) := by omega
  have z6 : (6 : Int) < (a.size : Int) := by omega
  have z4 : (4 : Int) ≤ (a.size : Int) := by omega
  have e0 := ha.u8 0 (by omega) (by omega)
  have e1 := ha.u8 1 (by omega) (by omega)
  have e2 := ha.u8 2 (by omega) (by omega)
  have e3 := ha.u8 3 (by omega) (by omega)
  have e6 := ha.u8 6 (by omega) (by omega)
  have e4 : byteAt (a.extract 4 a.size) 0 = l.getD 4 0 := by rw [byteAt_extract a 4 a.size 0 (by omega) (Nat.le_refl _)]; exact ha.at_ 4 (by omega)
  have e5 : byteAt (a.extract 4 a.size) 1 = l.getD 5 0 := by rw [byteAt_extract a 4 a.size 1 (by omega) (Nat.le_refl _)]; exact ha.at_ 5 (by omega)
  have HT : Hid (∀ W, Calls Tryz.prog 83 #[.string (a.extract 4 a.size)] W fun e w' => e = .returned (.int .i64 (256 * l.getD 4 0 + l.getD 5 0)) ∧ ∃ n, w' = W.drewN n) := by
    intro W
    have := two_any (a.extract 4 a.size) W (by simp; omega)
    rwa [e4, e5] at this
  obtain ⟨b00, b01⟩ := ha.ok.at 0
  obtain ⟨b40, b41⟩ := ha.ok.at 4
  obtain ⟨b50, b51⟩ := ha.ok.at 5
  have hc : st.cmd 2 l = if 7 < l.getD 0 0 then (st, 2) else (st.clear l, 0) := by simp [St.cmd, badB, St.does]
  have hcl := clear_eq st l (if iand (l.getD 0 0) 1 = 0 then id else setRGB ⟨l.getD 1 0, l.getD 2 0, l.getD 3 0⟩) (if iand (l.getD 0 0) 2 = 0 then id else setZ (256 * l.getD 4 0 + l.getD 5 0)) (if iand (l.getD 0 0) 4 = 0 then id else setS (l.getD 6 0)) (by
    intro d
    unfold clearDot
    by_cases c1 : iand (l.getD 0 0) 1 = 0 <;> by_cases c2 : iand (l.getD 0 0) 2 = 0 <;> by_cases c3 : iand (l.getD 0 0) 4 = 0 <;> simp only [c1, c2, c3, if_true, if_false] <;> rfl)
  rw [hc, hcl]
  have q1 := u8_and (l.getD 0 0) 1 b00 b01 (by omega) (by omega)
  have q2 := u8_and (l.getD 0 0) 2 b00 b01 (by omega) (by omega)
  have q4 := u8_and (l.getD 0 0) 4 b00 b01 (by omega) (by omega)
  have hu := Dr.uses base p cB zB sB A n s k ways shV outV st w h 16
  have HU2 : Hid (∀ W d1, Dr base W p cB zB sB A n s k ways shV outV { st with dots := d1 } → Calls Tryz.prog 80 #[.pointer (some ⟨p, 14, none⟩), .int .i64 32] W fun e w' => e = .returned (.bool (useB ways.v 32)) ∧ w' = W) := fun W d1 hd => Dr.uses base p cB zB sB A n s k ways shV outV _ W hd 32
  generalize useB ways.v 16 = by_ at *
  generalize useB ways.v 32 = by2 at *
  have HU : Hid (Calls Tryz.prog 80 #[.pointer (some ⟨p, 14, none⟩), .int .i64 16] w fun e w' => e = .returned (.bool by_) ∧ w' = w) := hu
  have hn := n36 h hok
  have W0 := hok.W0
  have hlen := hok.len
  have hz : IntKind.u16.wrap (256 * l.getD 4 0 + l.getD 5 0) = 256 * l.getD 4 0 + l.getD 5 0 := by rw [IntKind.wrap_u16]; omega
  have HC : Hid (∀ W d1, (d1 : List Dot).length = st.dots.length → Dr base W p cB zB sB A n s k ways shV outV { st with dots := d1 } → ∀ v : Col, Calls Tryz.prog 81 #[.pointer (some ⟨p, 8, none⟩), v.v, .bool by_] W fun e w' =>
      e = .returned (.tuple #[]) ∧ Dr base w' p cB zB sB A n s k ways shV outV { st with dots := d1.map (setRGB v) } ∧ Low base W w') := fun W d1 hd1 hd v => clrC_in hd (by show 0 ≤ st.W; omega) hn d1 rfl (by rw [hd1]; exact hlen) v by_
  have HZ : Hid (∀ W d1, (d1 : List Dot).length = st.dots.length → Dr base W p cB zB sB A n s k ways shV outV { st with dots := d1 } → ∀ (v : Int) (bb : Bool), Calls Tryz.prog 82 #[.pointer (some ⟨p, 10, none⟩), .int .u16 v, .bool bb] W fun e w' =>
      e = .returned (.tuple #[]) ∧ Dr base w' p cB zB sB A n s k ways shV outV { st with dots := d1.map (setZ v) } ∧ Low base W w') := fun W d1 hd1 hd v bb => clrZ_in hd (by show 0 ≤ st.W; omega) hn d1 rfl (by rw [hd1]; exact hlen) v bb
  have HS : Hid (∀ W d1, (d1 : List Dot).length = st.dots.length → Dr base W p cB zB sB A n s k ways shV outV { st with dots := d1 } → ∀ v : Int, Calls Tryz.prog 84 #[.pointer (some ⟨p, 12, none⟩), .int .u8 v, .bool by_] W fun e w' =>
      e = .returned (.tuple #[]) ∧ Dr base w' p cB zB sB A n s k ways shV outV { st with dots := d1.map (setS v) } ∧ Low base W w') := fun W d1 hd1 hd v => clrS_in hd (by show 0 ≤ st.W; omega) hn d1 rfl (by rw [hd1]; exact hlen) v by_
  have HD : Hid (Dr base w p cB zB sB A n s k ways shV outV { st with dots := st.dots }) := h
  clear hc hcl hu hlen hok ha e4 e5 h hl hn W0
  generalize l.getD 0 0 = x0 at *
  generalize l.getD 1 0 = x1 at *
  generalize l.getD 2 0 = x2 at *
  generalize l.getD 3 0 = x3 at *
  generalize 256 * l.getD 4 0 + l.getD 5 0 = z at *
  generalize l.getD 6 0 = x6 at *
  by_cases hx : 7 < x0
  · rw [if_pos hx]
    clear HC HZ HS HT HU HU2
    go_enter Tryz.func52, Tryz.ntmps52
    go_wp2
    all_goals
      go_ret
      exact ⟨rfl, _, _, _, _, _, _, _, HD.out, Low.refl _ _⟩
  · rw [if_neg hx]
    obtain ⟨f1, hf1⟩ : ∃ f1 : Dot → Dot, (if iand x0 1 = 0 then id else setRGB ⟨x1, x2, x3⟩) = f1 := ⟨_, rfl⟩
    obtain ⟨f2, hf2⟩ : ∃ f2 : Dot → Dot, (if iand x0 2 = 0 then id else setZ z) = f2 := ⟨_, rfl⟩
    obtain ⟨f3, hf3⟩ : ∃ f3 : Dot → Dot, (if iand x0 4 = 0 then id else setS x6) = f3 := ⟨_, rfl⟩
    rw [hf1, hf2, hf3]
    have F1 : Hid ((if iand x0 1 = 0 then id else setRGB ⟨x1, x2, x3⟩) = f1) := hf1
    have F2 : Hid ((if iand x0 2 = 0 then id else setZ z) = f2) := hf2
    have F3 : Hid ((if iand x0 4 = 0 then id else setS x6) = f3) := hf3
    have Q1 : Hid (bits .and .u8 x0 1 = iand x0 1) := q1
    have Q2 : Hid (bits .and .u8 x0 2 = iand x0 2) := q2
    have Q4 : Hid (bits .and .u8 x0 4 = iand x0 4) := q4
    clear hf1 hf2 hf3 q1 q2 q4
    have HB0 : Hid (Low base w w) := Low.refl _ _
    go_enter Tryz.func52, Tryz.ntmps52
    go_upto_if 17 with (go_at_call 80; refine HU.out.mono ?_; rintro e w0 ⟨rfl, rfl⟩)
    go_cut [] (fun wc => Hid (Dr base wc p cB zB sB A n s k ways shV outV { st with dots := st.dots.map f1 }) ∧ Hid (Low base w0 wc))
    case first =>
      clear HZ HS HT HU2
      by_cases c1 : iand x0 1 = 0
      · have k1 : bits .and .u8 x0 1 = 0 := Q1.out.trans c1
        have G1 : Hid (id = f1) := by have := F1.out; rwa [if_pos c1] at this
        clear c1
        go_wp2_with fail
        go_meet
        case rel => exact ⟨by rw [← G1.out, List.map_id]; exact HD, HB0⟩
      · have k1 : bits .and .u8 x0 1 ≠ 0 := fun e => c1 (Q1.out.symm.trans e)
        have G1 : Hid (setRGB ⟨x1, x2, x3⟩ = f1) := by have := F1.out; rwa [if_neg c1] at this
        clear c1
        go_wp2_with fail
        go_region_held (fun _ => True) (trivial) ((go_at_call 81; refine (HC.out _ _ rfl (HD.out.drewN _) ⟨x1, x2, x3⟩).mono ?_; rintro e w1 ⟨rfl, hd1, hb1⟩))
        all_goals
          go_wp2_with fail
          go_meet
          exact ⟨by rw [← G1.out]; exact hd1, (HD.out.lowOf ((Below.refl _ _).drewN' _)).trans hb1⟩
    case rest =>
      obtain ⟨hd1, hb1⟩ := hcut
      clear HC
      go_upto_if 33 with fail
      go_cut [] (fun wc => Hid (Dr base wc p cB zB sB A n s k ways shV outV { st with dots := (st.dots.map f1).map f2 }) ∧ Hid (Low base w0 wc))
      case first =>
        clear HS
        by_cases c1 : iand x0 2 = 0
        · have k1 : bits .and .u8 x0 2 = 0 := Q2.out.trans c1
          have G1 : Hid (id = f2) := by have := F2.out; rwa [if_pos c1] at this
          clear c1
          go_wp2_with fail
          go_meet
          case rel => exact ⟨by rw [← G1.out, List.map_id]; exact hd1, hb1⟩
        · have k1 : bits .and .u8 x0 2 ≠ 0 := fun e => c1 (Q2.out.symm.trans e)
          have G1 : Hid (setZ z = f2) := by have := F2.out; rwa [if_neg c1] at this
          clear c1
          go_wp2_with fail
          cases by_
          · go_region_held (fun _ => True) (trivial) ((first
              | (go_at_call 83; refine (HT.out _).mono ?_; rintro e w2 ⟨rfl, n2, rfl⟩)
              | (go_at_call 80; refine (HU2.out _ _ (hd1.out.drewN _)).mono ?_; rintro e w2' ⟨rfl, rfl⟩)
              | (go_at_call 82; refine (HZ.out _ _ (by simp) (hd1.out.drewN _) z _).mono ?_; rintro e w3 ⟨rfl, hd3, hb3⟩)))
            all_goals
              go_wp2_with fail
              go_meet
              exact ⟨by rw [← G1.out]; exact hd3, hb1.out.trans ((hd1.out.lowOf ((Below.refl _ _).drewN' _)).trans hb3)⟩
          · have hmx : Tryz.prog.follows .mixedOrders = true := by kernel_rfl
            refine wp_region_held_drew (S := fun _ => True) hmx trivial (fun hS => ?_)
            refine wpAnyH_take (i := 0) (v := ?v0) rfl (by kernel_rfl) (by kernel_rfl) (by kernel_rfl) (fun _ _ _ h => h) (Or.inl ⟨by rfl, ?hy0⟩) hS ?rest0
            case hy0 => (intro w hSw; go_simp; try with_reducible rfl)
            simp only [Act.put, List.setIfInBounds_toArray, List.set_cons_zero, List.set_cons_succ, List.getElem_toArray, List.getElem_cons_zero]
            refine wpAnyH_take (i := 1) (v := ?v1) rfl (by kernel_rfl) (by kernel_rfl) (by kernel_rfl) (fun _ _ _ h => h) (Or.inl ⟨by rfl, ?hy1⟩) hS ?rest1
            case hy1 => (intro w hSw; go_simp; try with_reducible rfl)
            simp only [Act.put, List.setIfInBounds_toArray, List.set_cons_zero, List.set_cons_succ, List.getElem_toArray, List.getElem_cons_zero, List.getElem_cons_succ]
            refine wpAnyH_take (i := 2) (v := ?v2) rfl (by kernel_rfl) (by kernel_rfl) (by kernel_rfl) (fun _ _ _ h => h) (Or.inl ⟨by rfl, ?hy2⟩) hS ?rest2
            case hy2 => (intro w hSw; go_simp; try with_reducible rfl)
            simp only [Act.put, List.setIfInBounds_toArray, List.set_cons_zero, List.set_cons_succ, List.getElem_toArray, List.getElem_cons_zero, List.getElem_cons_succ]
            refine wpAnyH_take (i := 3) (v := ?v3) rfl (by kernel_rfl) (by kernel_rfl) (by kernel_rfl) (fun _ _ _ h => h) (Or.inl ⟨by rfl, ?hy3⟩) hS ?rest3
            case hy3 => (intro w hSw; go_simp; try with_reducible rfl)
            simp only [Act.put, List.setIfInBounds_toArray, List.set_cons_zero, List.set_cons_succ, List.getElem_toArray, List.getElem_cons_zero, List.getElem_cons_succ]
            refine wpAnyH_take (i := 4) (v := ?v4) rfl (by kernel_rfl) (by kernel_rfl) (by kernel_rfl) (fun _ _ _ h => h) (Or.inl ⟨by rfl, ?hy4⟩) hS ?rest4
            case hy4 => (intro w hSw; go_simp; try with_reducible rfl)
            simp only [Act.put, List.setIfInBounds_toArray, List.set_cons_zero, List.set_cons_succ, List.getElem_toArray, List.getElem_cons_zero, List.getElem_cons_succ]
            refine wpAnyH_take (i := 5) (v := ?v5) rfl (by kernel_rfl) (by kernel_rfl) (by kernel_rfl) (fun _ _ _ h => h) (Or.inl ⟨by rfl, ?hy5⟩) hS ?rest5
            case hy5 => (intro w hSw; go_simp; try with_reducible rfl)
            simp only [Act.put, List.setIfInBounds_toArray, List.set_cons_zero, List.set_cons_succ, List.getElem_toArray, List.getElem_cons_zero, List.getElem_cons_succ]
            refine wpAnyH_take (i := 8) (v := ?v8) rfl (by kernel_rfl) (by kernel_rfl) (by kernel_rfl) (fun _ _ _ h => h) (Or.inl ⟨by rfl, ?hy8⟩) hS ?rest8
            case hy8 => (intro w hSw; go_simp; try with_reducible rfl)
            simp only [Act.put, List.setIfInBounds_toArray, List.set_cons_zero, List.set_cons_succ, List.getElem_toArray, List.getElem_cons_zero, List.getElem_cons_succ]
            refine wpAnyH_ready (rs := [6]) (by kernel_rfl) (by simp) ?_
            refine AllReadyH.cons rfl (fun K hK => ?_) AllReadyH.nil
            go_simp
            refine (HT.out _).mono ?_; rintro e w2 ⟨rfl, n2, rfl⟩
            refine hK.out _ _ trivial (fun hS => ?_)
            clear hK K
            try simp only [Act.put, List.setIfInBounds_toArray, List.set_cons_zero, List.set_cons_succ, List.getElem_toArray, List.getElem_cons_zero, List.getElem_cons_succ]
            refine wpAnyH_take (i := 7) (v := ?v7) rfl (by kernel_rfl) (by kernel_rfl) (by kernel_rfl) (fun _ _ _ h => h) (Or.inl ⟨by rfl, ?hy7⟩) hS ?rest7
            case hy7 => (intro w hSw; go_simp; try with_reducible rfl)
            simp only [Act.put, List.setIfInBounds_toArray, List.set_cons_zero, List.set_cons_succ, List.getElem_toArray, List.getElem_cons_zero, List.getElem_cons_succ]
            refine wpAnyH_take (i := 9) (v := ?v9) rfl (by kernel_rfl) (by kernel_rfl) (by kernel_rfl) (fun _ _ _ h => h) (Or.inl ⟨by rfl, ?hy9⟩) hS ?rest9
            case hy9 => (intro w hSw; go_simp; try with_reducible rfl)
            simp only [Act.put, List.setIfInBounds_toArray, List.set_cons_zero, List.set_cons_succ, List.getElem_toArray, List.getElem_cons_zero, List.getElem_cons_succ]
            refine wpAnyH_take (i := 10) (v := undef) rfl (by kernel_rfl) (by kernel_rfl) (by kernel_rfl) (fun _ _ _ h => h) (Or.inr ⟨by rfl, rfl⟩) hS ?rest10
            simp only [Act.put, List.setIfInBounds_toArray, List.set_cons_zero, List.set_cons_succ, List.getElem_toArray, List.getElem_cons_zero, List.getElem_cons_succ]
            refine wpAnyH_take (i := 11) (v := undef) rfl (by kernel_rfl) (by kernel_rfl) (by kernel_rfl) (fun _ _ _ h => h) (Or.inr ⟨by rfl, rfl⟩) hS ?rest11
            simp only [Act.put, List.setIfInBounds_toArray, List.set_cons_zero, List.set_cons_succ, List.getElem_toArray, List.getElem_cons_zero, List.getElem_cons_succ]
            refine wpAnyH_take (i := 12) (v := undef) rfl (by kernel_rfl) (by kernel_rfl) (by kernel_rfl) (fun _ _ _ h => h) (Or.inr ⟨by rfl, rfl⟩) hS ?rest12
            simp only [Act.put, List.setIfInBounds_toArray, List.set_cons_zero, List.set_cons_succ, List.getElem_toArray, List.getElem_cons_zero, List.getElem_cons_succ]
            refine wpAnyH_take (i := 13) (v := undef) rfl (by kernel_rfl) (by kernel_rfl) (by kernel_rfl) (fun _ _ _ h => h) (Or.inr ⟨by rfl, rfl⟩) hS ?rest13
            simp only [Act.put, List.setIfInBounds_toArray, List.set_cons_zero, List.set_cons_succ, List.getElem_toArray, List.getElem_cons_zero, List.getElem_cons_succ]
            refine wpAnyH_take (i := 14) (v := ?v14) rfl (by kernel_rfl) (by kernel_rfl) (by kernel_rfl) (fun _ _ _ h => h) (Or.inl ⟨by rfl, ?hy14⟩) hS ?rest14
            case hy14 => (intro w hSw; go_simp; try with_reducible rfl)
            simp only [Act.put, List.setIfInBounds_toArray, List.set_cons_zero, List.set_cons_succ, List.getElem_toArray, List.getElem_cons_zero, List.getElem_cons_succ]
            refine wpAnyH_ready (rs := [15]) (by kernel_rfl) (by simp) ?_
            refine AllReadyH.cons rfl (fun K hK => ?_) AllReadyH.nil
            go_simp
            refine (HZ.out _ _ (by simp) (hd1.out.drewN _) z _).mono ?_; rintro e w3 ⟨rfl, hd3, hb3⟩
            refine hK.out _ _ trivial (fun hS => ?_)
            clear hK K
            try simp only [Act.put, List.setIfInBounds_toArray, List.set_cons_zero, List.set_cons_succ, List.getElem_toArray, List.getElem_cons_zero, List.getElem_cons_succ]
            refine wpAnyH_done (by kernel_rfl) ?_ _
            go_wp2_with fail
            go_meet
            exact ⟨by rw [← G1.out]; exact hd3, hb1.out.trans ((hd1.out.lowOf ((Below.refl _ _).drewN' _)).trans hb3)⟩
      case rest =>
        clear hd1 hb1
        obtain ⟨hd2, hb2⟩ := hcut
        clear HZ HT HU2
        go_upto_if 52 with fail
        go_cut [] (fun wc => Hid (Dr base wc p cB zB sB A n s k ways shV outV { st with dots := ((st.dots.map f1).map f2).map f3 }) ∧ Hid (Low base w0 wc))
        case first =>
          by_cases c1 : iand x0 4 = 0
          · have k1 : bits .and .u8 x0 4 = 0 := Q4.out.trans c1
            have G1 : Hid (id = f3) := by have := F3.out; rwa [if_pos c1] at this
            clear c1
            go_wp2_with fail
            go_meet
            case rel => exact ⟨by rw [← G1.out, List.map_id]; exact hd2, hb2⟩
          · have k1 : bits .and .u8 x0 4 ≠ 0 := fun e => c1 (Q4.out.symm.trans e)
            have G1 : Hid (setS x6 = f3) := by have := F3.out; rwa [if_neg c1] at this
            clear c1
            go_wp2_with fail
            go_region_held (fun _ => True) (trivial) ((go_at_call 84; refine (HS.out _ _ (by simp) (hd2.out.drewN _) x6).mono ?_; rintro e w3 ⟨rfl, hd3, hb3⟩))
            all_goals
              go_wp2_with fail
              go_meet
              exact ⟨by rw [← G1.out]; exact hd3, hb2.out.trans ((hd2.out.lowOf ((Below.refl _ _).drewN' _)).trans hb3)⟩
        case rest =>
          obtain ⟨hd3, hb3⟩ := hcut
          go_wp2_with fail
          go_ret
          exact ⟨rfl, _, _, _, _, _, _, _, hd3.out, hb3.out⟩
end
end Go.Proofs.YthcikinkicpicaaGreatDoor
