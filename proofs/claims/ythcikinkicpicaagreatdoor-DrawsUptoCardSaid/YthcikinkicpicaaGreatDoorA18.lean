import Derived.Test.YthcikinkicpicaaGreatDoorA17

namespace Go.Proofs.YthcikinkicpicaaGreatDoor
open Go.RowKit

set_option maxRecDepth 100000 in
set_option maxHeartbeats 1000000 in
theorem shade_nil (S : Nat) (d : Dot) (x y : Int) (w : World) (hS : w.heap[S]? = some (.cells #[.int .i64 x, .int .i64 y, .int .u8 d.r, .int .u8 d.g, .int .u8 d.b, .int .u16 d.d] 226 (0, 0)))
    (hd : d.Ok) (_x0 : 0 ≤ x) (_x1 : x < 24) (_y0 : 0 ≤ y) (_y1 : y < 24) :
    Calls Tryz.prog 145 #[.pointer (some ⟨S, 0, none⟩), .slice none 0 0] w (ShPost S 0 x y w (shRun [] [d.r, d.g, d.b, x, y, d.d, 0, 0] d.d 0)) := by
  have ls := lt_of_heap hS
  have cs0 := cell_of hS
  have cs : ∀ o : Nat, (w.alloc (.cells #[.int .i64 0, .int .i64 0, .int .i64 0, .int .i64 0, .int .i64 0, .int .i64 0, .int .i64 0, .int .i64 0] 256)).cell? ⟨S, o, none⟩ = _ := fun o => (World.cell?_alloc_past _ _ _ ls).trans (cs0 o)
  have HS : Hid (∀ ob, (w.alloc ob).heap[S]? = some (.cells #[.int .i64 x, .int .i64 y, .int .u8 d.r, .int .u8 d.g, .int .u8 d.b, .int .u16 d.d] 226 (0, 0))) := fun ob => (heap_alloc_old ls ob).trans hS
  have hSR : S ≠ w.heap.size := by omega
  have d0 := cidx0 d.r d.g d.b
  have d1 := cidx1 d.r d.g d.b
  have d2 := cidx2 d.r d.g d.b
  have v0 : wrap64 d.r = d.r := w64 (by have := hd.r0; have := hd.r1; omega)
  have v1 : wrap64 d.g = d.g := w64 (by have := hd.g0; have := hd.g1; omega)
  have v2 : wrap64 d.b = d.b := w64 (by have := hd.b0; have := hd.b1; omega)
  clear cs0 hS
  go_enter Tryz.func145, Tryz.ntmps145
  go_wp2_with fail
  go_loopg [16] 3 (fun n' i wr => ∃ j : Nat, j + n' = 3 ∧ i = .int .i64 j ∧ wr = ((w.alloc (.cells #[.int .i64 (if 0 < j then d.r else 0), .int .i64 (if 1 < j then d.g else 0), .int .i64 (if 2 < j then d.b else 0), .int .i64 0, .int .i64 0, .int .i64 0, .int .i64 0, .int .i64 0] 256))))
  case atStart => exact ⟨0, rfl, rfl, rfl⟩
  case round =>
    obtain ⟨j, hj, rfl, rfl⟩ := hrel
    have hj' : j = 0 ∨ j = 1 ∨ j = 2 ∨ j = 3 := by omega
    rcases hj' with rfl | rfl | rfl | rfl
    · obtain rfl : gk = 3 := by omega
      go_wp2_with fail
      go_roundg 2
      case rel => exact ⟨1, by omega, by go_num, by simp⟩
      case measure => omega
    · obtain rfl : gk = 2 := by omega
      go_wp2_with fail
      go_roundg 1
      case rel => exact ⟨2, by omega, by go_num, by simp⟩
      case measure => omega
    · obtain rfl : gk = 1 := by omega
      go_wp2_with fail
      go_roundg 0
      case rel => exact ⟨3, by omega, by go_num, by simp⟩
      case measure => omega
    · obtain rfl : gk = 0 := by omega
      have cs1 : ∀ (ob : Obj) (o : Nat), (w.alloc ob).cell? ⟨S, o, none⟩ = #[Value.int .i64 x, .int .i64 y, .int .u8 d.r, .int .u8 d.g, .int .u8 d.b, .int .u16 d.d][o]? := fun ob o => cell_of (HS.out ob) o
      have vd : IntKind.i64.wrap d.d = d.d := k64 (by have := hd.d0; have := hd.d1; omega)
      go_wp2_with fail
      go_region_held (fun w2 => w2.cell? ⟨S, 0, none⟩ = some (.int .i64 x) ∧ w2.cell? ⟨S, 1, none⟩ = some (.int .i64 y) ∧ w2.cell? ⟨S, 5, none⟩ = some (.int .u16 d.d)) (go_keep) (fail)
      all_goals
        obtain ⟨wr, hwr⟩ : ∃ wr, (w.alloc (.cells #[.int .i64 d.r, .int .i64 d.g, .int .i64 d.b, .int .i64 x, .int .i64 y, .int .i64 d.d, .int .i64 0, .int .i64 0] 256)).drew = wr := ⟨_, rfl⟩
        have hsm : wr.heap[S]? = some (.cells #[.int .i64 x, .int .i64 y, .int .u8 d.r, .int .u8 d.g, .int .u8 d.b, .int .u16 d.d] 226 (0, 0)) := by rw [← hwr]; exact HS.out _
        have hkp : Kept (· = S) w wr := by rw [← hwr]; exact ((Kept.refl _ w).alloc _).drew
        have hrg : wr.heap[w.heap.size]? = some (.cells #[.int .i64 d.r, .int .i64 d.g, .int .i64 d.b, .int .i64 x, .int .i64 y, .int .i64 d.d, .int .i64 0, .int .i64 0] 256 (0, 0)) := by rw [← hwr]; exact heap_alloc_new _ _
        have hSR' : w.heap.size ≠ S := by omega
        rw [hwr]
        clear hwr cs1 cs HS
        have HF : Hid (∀ W, Kept (· = S) w W → W.heap[S]? = some (.cells #[.int .i64 x, .int .i64 y, .int .u8 (within d.r 0 255), .int .u8 (within d.g 0 255), .int .u8 (within d.b 0 255), .int .u16 d.d] 226 (0, 0)) → ShPost S 0 x y w (shRun [] [d.r, d.g, d.b, x, y, d.d, 0, 0] d.d 0) (.returned (.tuple #[.int .i64 0, .bool true])) W) := by
          intro W h1 h2
          refine ⟨h1, ?_⟩
          exact ⟨rfl, h2⟩
        have w0 : IntKind.u8.wrap (within d.r 0 255) = within d.r 0 255 := k8 (within_bd _ 0 255 (by omega))
        have w1 : IntKind.u8.wrap (within d.g 0 255) = within d.g 0 255 := k8 (within_bd _ 0 255 (by omega))
        have w2 : IntKind.u8.wrap (within d.b 0 255) = within d.b 0 255 := k8 (within_bd _ 0 255 (by omega))
        have B0 : Hid (∀ w', Calls Tryz.prog 152 #[.int .i64 d.r, .int .i64 0, .int .i64 255] w' fun e w'' => e = .returned (.int .i64 (within d.r 0 255)) ∧ w'' = w') := fun w' => bring_any _ 0 255 w' (by omega)
        have B1 : Hid (∀ w', Calls Tryz.prog 152 #[.int .i64 d.g, .int .i64 0, .int .i64 255] w' fun e w'' => e = .returned (.int .i64 (within d.g 0 255)) ∧ w'' = w') := fun w' => bring_any _ 0 255 w' (by omega)
        have B2 : Hid (∀ w', Calls Tryz.prog 152 #[.int .i64 d.b, .int .i64 0, .int .i64 255] w' fun e w'' => e = .returned (.int .i64 (within d.b 0 255)) ∧ w'' = w') := fun w' => bring_any _ 0 255 w' (by omega)
        have h0 : wr.cell? ⟨w.heap.size, 0, none⟩ = some (.int .i64 d.r) := cell_of hrg 0
        have h1 : wr.cell? ⟨w.heap.size, 1, none⟩ = some (.int .i64 d.g) := cell_of hrg 1
        have h2 : wr.cell? ⟨w.heap.size, 2, none⟩ = some (.int .i64 d.b) := cell_of hrg 2
        generalize within d.r 0 255 = g0 at *
        generalize within d.g 0 255 = g1 at *
        generalize within d.b 0 255 = g2 at *
        have H3 : Hid (wr.cell? ⟨w.heap.size, 0, none⟩ = some (.int .i64 d.r) ∧ wr.cell? ⟨w.heap.size, 1, none⟩ = some (.int .i64 d.g) ∧ wr.cell? ⟨w.heap.size, 2, none⟩ = some (.int .i64 d.b)) := ⟨h0, h1, h2⟩
        have HKP : Hid (Kept (· = S) w wr) := hkp
        have HSM : Hid (wr.heap[S]? = some (.cells #[.int .i64 x, .int .i64 y, .int .u8 d.r, .int .u8 d.g, .int .u8 d.b, .int .u16 d.d] 226 (0, 0))) := hsm
        clear h0 h1 h2 hkp hsm hrg
        go_wp2_with fail
        go_loopg [44] 0 (fun _ i wq => i = .int .i64 0 ∧ wq = wr)
        case atStart => exact ⟨rfl, rfl⟩
        case round =>
         obtain ⟨rfl, rfl⟩ := hrel
         go_wp2_with fail
         go_loopg [81] 3 (fun n' i wq => ∃ t : Nat, t + n' = 3 ∧ i = .int .i64 t ∧ (wq.cell? ⟨w.heap.size, 0, none⟩ = some (.int .i64 d.r) ∧ wq.cell? ⟨w.heap.size, 1, none⟩ = some (.int .i64 d.g) ∧ wq.cell? ⟨w.heap.size, 2, none⟩ = some (.int .i64 d.b)) ∧ Kept (· = S) w wq ∧
           wq.heap[S]? = some (.cells #[.int .i64 x, .int .i64 y, .int .u8 (if 0 < t then g0 else d.r), .int .u8 (if 1 < t then g1 else d.g), .int .u8 (if 2 < t then g2 else d.b), .int .u16 d.d] 226 (0, 0)))
         case atStart => exact ⟨0, rfl, rfl, H3.out, HKP.out, HSM.out⟩
         case round =>
           obtain ⟨t, ht, rfl, ⟨h0, h1, h2⟩, hkp, hsm⟩ := hrel
           clear H3 HKP HSM
           have ht' : t = 0 ∨ t = 1 ∨ t = 2 ∨ t = 3 := by omega
           rcases ht' with rfl | rfl | rfl | rfl
           · obtain rfl : gk = 3 := by omega
             have cS := cell_of hsm
             have fS := frozen_of hsm
             have HSM : Hid (wr.heap[S]? = some (.cells #[.int .i64 x, .int .i64 y, .int .u8 (if 0 < 0 then g0 else d.r), .int .u8 (if 1 < 0 then g1 else d.g), .int .u8 (if 2 < 0 then g2 else d.b), .int .u16 d.d] 226 (0, 0))) := hsm
             have HKP : Hid (Kept (· = S) w wr) := hkp
             clear hsm hkp
             go_wp2_with fail
             go_region_held (fun w2 => w2.cell? ⟨w.heap.size, 0, none⟩ = some (.int .i64 d.r)) (go_keep) ((go_at_call 152; refine (B0.out _).mono ?_; rintro e' w' ⟨rfl, rfl⟩))
             all_goals
               go_wp2_with fail
               go_roundg 2
               case rel =>
                 have hblk : (wr.setCell ⟨S, 2, none⟩ (.int .u8 g0)).heap[w.heap.size]? = wr.heap[w.heap.size]? := heap_set_ne hSR' _ _
                 have hc : ∀ i, (wr.setCell ⟨S, 2, none⟩ (.int .u8 g0)).drew.cell? ⟨w.heap.size, i, none⟩ = wr.cell? ⟨w.heap.size, i, none⟩ := fun i => World.cell?_of_block (a := ⟨w.heap.size, i, none⟩) hblk
                 exact ⟨1, by omega, by go_num, ⟨(hc 0).trans h0, (hc 1).trans h1, (hc 2).trans h2⟩, (HKP.out.trans (kept_setS S _ _)).drew, (heap_set_same HSM.out _ _).trans (by simp)⟩
               case measure => omega
           · obtain rfl : gk = 2 := by omega
             have cS := cell_of hsm
             have fS := frozen_of hsm
             have HSM : Hid (wr.heap[S]? = some (.cells #[.int .i64 x, .int .i64 y, .int .u8 (if 0 < 1 then g0 else d.r), .int .u8 (if 1 < 1 then g1 else d.g), .int .u8 (if 2 < 1 then g2 else d.b), .int .u16 d.d] 226 (0, 0))) := hsm
             have HKP : Hid (Kept (· = S) w wr) := hkp
             clear hsm hkp
             go_wp2_with fail
             go_region_held (fun w2 => w2.cell? ⟨w.heap.size, 1, none⟩ = some (.int .i64 d.g)) (go_keep) ((go_at_call 152; refine (B1.out _).mono ?_; rintro e' w' ⟨rfl, rfl⟩))
             all_goals
               go_wp2_with fail
               go_roundg 1
               case rel =>
                 have hblk : (wr.setCell ⟨S, 3, none⟩ (.int .u8 g1)).heap[w.heap.size]? = wr.heap[w.heap.size]? := heap_set_ne hSR' _ _
                 have hc : ∀ i, (wr.setCell ⟨S, 3, none⟩ (.int .u8 g1)).drew.cell? ⟨w.heap.size, i, none⟩ = wr.cell? ⟨w.heap.size, i, none⟩ := fun i => World.cell?_of_block (a := ⟨w.heap.size, i, none⟩) hblk
                 exact ⟨2, by omega, by go_num, ⟨(hc 0).trans h0, (hc 1).trans h1, (hc 2).trans h2⟩, (HKP.out.trans (kept_setS S _ _)).drew, (heap_set_same HSM.out _ _).trans (by simp)⟩
               case measure => omega
           · obtain rfl : gk = 1 := by omega
             have cS := cell_of hsm
             have fS := frozen_of hsm
             have HSM : Hid (wr.heap[S]? = some (.cells #[.int .i64 x, .int .i64 y, .int .u8 (if 0 < 2 then g0 else d.r), .int .u8 (if 1 < 2 then g1 else d.g), .int .u8 (if 2 < 2 then g2 else d.b), .int .u16 d.d] 226 (0, 0))) := hsm
             have HKP : Hid (Kept (· = S) w wr) := hkp
             clear hsm hkp
             go_wp2_with fail
             go_region_held (fun w2 => w2.cell? ⟨w.heap.size, 2, none⟩ = some (.int .i64 d.b)) (go_keep) ((go_at_call 152; refine (B2.out _).mono ?_; rintro e' w' ⟨rfl, rfl⟩))
             all_goals
               go_wp2_with fail
               go_roundg 0
               case rel =>
                 have hblk : (wr.setCell ⟨S, 4, none⟩ (.int .u8 g2)).heap[w.heap.size]? = wr.heap[w.heap.size]? := heap_set_ne hSR' _ _
                 have hc : ∀ i, (wr.setCell ⟨S, 4, none⟩ (.int .u8 g2)).drew.cell? ⟨w.heap.size, i, none⟩ = wr.cell? ⟨w.heap.size, i, none⟩ := fun i => World.cell?_of_block (a := ⟨w.heap.size, i, none⟩) hblk
                 exact ⟨3, by omega, by go_num, ⟨(hc 0).trans h0, (hc 1).trans h1, (hc 2).trans h2⟩, (HKP.out.trans (kept_setS S _ _)).drew, (heap_set_same HSM.out _ _).trans (by simp)⟩
               case measure => omega
           · obtain rfl : gk = 0 := by omega
             go_wp2_with fail
             refine bodyPost_ret (v := .tuple #[.int .i64 0, .bool true]) (by simp [results, Tryz.results145, go_sem]) rfl ?_
             exact HF.out _ hkp (by simpa using hsm)
end Go.Proofs.YthcikinkicpicaaGreatDoor
