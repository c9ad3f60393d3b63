import Derived.Test.YtifloehpdkfchaaGreatDoorC02
import Derived.Test.YtifloehpdkfchaaGreatDoorC06

namespace Go.Proofs.YtifloehpdkfchaaGreatDoor
open Go.RowKit

set_option maxRecDepth 100000 in
set_option maxHeartbeats 1000000 in
theorem Works_true (s : ByteArray) (ways : Int) (w : World) (ht : Tab w) (hs : s.size ≤ 10000000000) :
    Calls Tryz.prog 5 #[.string s, .int .i64 ways] w fun e w' => e = .returned (.bool true) ∧ Below w.heap.size w w' := by
  have hok := play_ok s s.size 0 st0 (Nat.zero_le _) (by simpa using st0_ok)
  have r0 := hok.work0
  have hplay := Play_in s w (by omega)
  have hst := fun w' (h : Tab w') => steps_in s ways w' (by omega) (fun i hi => h i hi)
  have HPl : Hid (∀ w' : World, Calls Tryz.prog 11 #[.string s] w' fun e w'' => ∃ s' : ByteArray, e = .returned (.string s') ∧ s'.size = s.size ∧ Alike s s' s.size 0 ∧ Below w'.heap.size w' w'') := fun w' => Plain_in s w' (by omega)
  have HS2 : Hid (∀ (s' : ByteArray) (w' : World), Tab w' → s'.size = s.size → Alike s s' s.size 0 → Calls Tryz.prog 10 #[.string s', .int .i64 0] w' fun e w'' => e = .returned (.int .i64 (playFrom s s.size 0 st0).work) ∧ Below w'.heap.size w' w'') := by
    intro s' w' h hsz hal
    have := steps_in s' 0 w' (by omega) (fun i hi => h i hi)
    rwa [hsz, alike_play s s' hsz s.size 0 st0 hal] at this
  clear hok
  generalize playFrom s s.size 0 st0 = R at *
  have HT : Hid (Tab w) := ht
  have HP : Hid (Calls Tryz.prog 7 #[.string s] w fun e w'' => e = .returned (.pointer (some ⟨w.heap.size, 0, none⟩)) ∧ ∃ dB qB shV outV, PaneO w.heap.size w'' w.heap.size dB qB shV outV R ∧ Below w.heap.size w w'') := hplay
  have HS1 : Hid (∀ w' : World, Tab w' → Calls Tryz.prog 10 #[.string s, .int .i64 ways] w' fun e w'' => e = .returned (.int .i64 R.work) ∧ Below w'.heap.size w' w'') := hst
  clear ht hplay hst
  go_enter Tryz.func5, Tryz.ntmps5
  go_wp2_with fail
  refine HP.out.mono ?_
  rintro e w1 ⟨rfl, dB, qB, shV, outV, hP1, hb1⟩
  have HB1 : Hid (w1.heap[w.heap.size]? = some (.cells (pcells R dB qB shV outV) 38 (0, 0))) := hP1.pin.bp
  have HT1 : Hid (Tab w1) := HT.out.keep hb1.block
  clear hP1
  go_wp2_with fail
  refine (HS1.out _ HT1.out).mono ?_
  rintro e w2 ⟨rfl, hb2⟩
  have HT2 : Hid (Tab w2) := HT1.out.keep hb2.block
  have hb12 := hb1.trans (hb2.mono hb1.size)
  go_wp2_with fail
  refine (HPl.out _).mono ?_
  rintro e w3 ⟨s', rfl, hs', hal, hb3⟩
  have HT3 : Hid (Tab w3) := HT2.out.keep hb3.block
  have HAl : Hid (Alike s s' s.size 0) := hal
  have hb13 := hb12.trans (hb3.mono hb12.size)
  clear hal
  go_wp2_with fail
  refine (HS2.out _ _ HT3.out hs' HAl.out).mono ?_
  rintro e w4 ⟨rfl, hb4⟩
  have hb14 := hb13.trans (hb4.mono hb13.size)
  have l1 := lt_of_heap HB1.out
  have l2 := hb2.size
  have l3 := hb3.size
  have hbk : w4.heap[w.heap.size]? = some (.cells (pcells R dB qB shV outV) 38 (0, 0)) := (hb4.block _ (by omega)).trans ((hb3.block _ (by omega)).trans ((hb2.block _ l1).trans HB1.out))
  have cw : w4.cell? ⟨w.heap.size, 20, none⟩ = some (.int .i64 R.work) := cell_of hbk 20
  clear hbk hs'
  go_wp2_with fail
  go_ret
  exact ⟨rfl, hb14⟩
end Go.Proofs.YtifloehpdkfchaaGreatDoor
