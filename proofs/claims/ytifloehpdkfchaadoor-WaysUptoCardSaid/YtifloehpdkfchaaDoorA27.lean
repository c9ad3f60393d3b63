import Derived.Test.YtifloehpdkfchaaDoorA19
import Derived.Test.YtifloehpdkfchaaDoorA20
import Derived.Test.YtifloehpdkfchaaDoorA21
import Derived.Test.YtifloehpdkfchaaDoorA22
import Derived.Test.YtifloehpdkfchaaDoorA11
import Derived.Test.YtifloehpdkfchaaDoorA24
import Derived.Test.YtifloehpdkfchaaDoorA25
import Derived.Test.YtifloehpdkfchaaDoorA26
import Derived.Test.YtifloehpdkfchaaDoorA23

namespace Go.Proofs.YtifloehpdkfchaaDoor
open Go.RowKit

/-- A command's function, and where its receiver lies in the drawer. -/
def cmdFn (kind : Int) : Nat × Nat :=
  if kind = 1 then (33, 2) else if kind = 2 then (34, 0) else if kind = 3 then (35, 14) else if kind = 4 then (36, 14)
  else if kind = 5 then (37, 2) else if kind = 6 then (38, 14) else if kind = 7 then (39, 14) else if kind = 8 then (40, 14)
  else if kind = 9 then (41, 0) else if kind = 10 then (42, 27) else if kind = 11 then (43, 27) else if kind = 12 then (44, 14)
  else if kind = 13 then (45, 0) else (46, 0)

/-- Every command. -/
theorem cmd_any (base : Nat) (p cB zB sB A n : Nat) (s : ByteArray) (k ways : Int) (shV outV : Value) (st : St) (a : ByteArray) (kind : Int) (l : List Int) (w : World) (K : Int)
    (h : Dr base w p cB zB sB A n s k ways shV outV st) (hok : st.Ok K) (hK : K + 20000 ≤ 1000000000000000) (hlen : st.out.length ≤ 1000000000000) (ha : ArgsOf a l) (hl : lenOk kind l) :
    Calls Tryd.prog (cmdFn kind).1 #[.pointer (some ⟨p, (cmdFn kind).2, none⟩), .string a] w (CmdPost base p s k w (st.cmd kind l)) := by
  rcases hl with ⟨rfl, m, _, hl, hm⟩ | ⟨h8, hk1, hl⟩
  · exact setShader_in base p cB zB sB A n s k ways shV outV st a l w h ha m hl hm
  · rcases kinds hk1 with ⟨rfl, e⟩ | ⟨rfl, e⟩ | ⟨rfl, e⟩ | ⟨rfl, e⟩ | ⟨rfl, e⟩ | ⟨rfl, e⟩ | ⟨rfl, e⟩ | ⟨rfl, e⟩ | ⟨rfl, e⟩ | ⟨rfl, e⟩ | ⟨rfl, e⟩ | ⟨rfl, e⟩ | ⟨rfl, e⟩ | ⟨rfl, e⟩
    · exact setSize_in base p cB zB sB A n s k ways shV outV st a l w h ha (by omega)
    · exact clearPane_in base p cB zB sB A n s k ways shV outV st a l w h K hok ha (by omega)
    · exact setDepth_in base p cB zB sB A n s k ways shV outV st a l w h ha (by omega)
    · exact setStencil_in base p cB zB sB A n s k ways shV outV st a l w h ha (by omega)
    · exact setWindow_in base p cB zB sB A n s k ways shV outV st a l w h ha (by omega)
    · exact setFaces_in base p cB zB sB A n s k ways shV outV st a l w h ha (by omega)
    · exact setColours_in base p cB zB sB A n s k ways shV outV st a l w h ha (by omega)
    · exact absurd rfl h8
    · exact drawTriangle_in base p cB zB sB A n s k ways shV outV st a w h K hok hK l ha (by omega)
    · exact begin_in base p cB zB sB A n s k ways shV outV st a l w h ha (by omega) hok.qs
    · exact end_in base p cB zB sB A n s k ways shV outV st a l w h ha (by omega) hok.qs
    · exact setWays_in base p cB zB sB A n s k ways shV outV st a l w h ha (by omega)
    · exact tellPixel_in base p cB zB sB A n s k ways shV outV st a l w h K hok ha (by omega) hlen
    · exact tellCount_in base p cB zB sB A n s k ways shV outV st a l w h ha (by omega) hok.qs hlen
end Go.Proofs.YtifloehpdkfchaaDoor

namespace Go.Proofs.YtifloehpdkfchaaDoor
open Go.RowKit

set_option maxRecDepth 100000 in
set_option maxHeartbeats 400000 in
theorem atEnd_any (p : Nat) (s : ByteArray) (k : Int) (w : World) (h0 : w.cell? ⟨p, 0, none⟩ = some (.string s)) (h1 : w.cell? ⟨p, 1, none⟩ = some (.int .i64 k)) :
    Calls Tryd.prog 26 #[.pointer (some ⟨p, 0, none⟩)] w fun e w' => e = .returned (.bool (decide (k = (s.size : Int)))) ∧ ∃ n, w' = w.drewN n := by
  go_enter Tryd.func26, Tryd.ntmps26
  go_wp2_with fail
  go_quiet (fail)
  go_wp2_with fail
  go_ret
  exact ⟨by congr 2, _, rfl⟩

/-- The table of commands. -/
def cmdL : List Value := [.nilFunc, .func (.methodOf 45 "pane/pane.setSize") #[] #[], .func (.func 34) #[] #[], .func (.methodOf 45 "pane/pane.setDepth") #[] #[], .func (.methodOf 45 "pane/pane.setStencil") #[] #[], .func (.methodOf 45 "pane/pane.setWindow") #[] #[], .func (.methodOf 45 "pane/pane.setFaces") #[] #[], .func (.methodOf 45 "pane/pane.setColours") #[] #[], .func (.methodOf 45 "pane/pane.setShader") #[] #[], .func (.func 41) #[] #[], .func (.methodOf 45 "pane/pane.begin") #[] #[], .func (.methodOf 45 "pane/pane.end") #[] #[], .func (.methodOf 45 "pane/pane.setWays") #[] #[], .func (.func 45) #[] #[], .func (.func 46) #[] #[]]
def nilL : List Value := [.nilFunc, .nilFunc, .nilFunc, .nilFunc, .nilFunc, .nilFunc, .nilFunc, .nilFunc, .nilFunc, .nilFunc, .nilFunc, .nilFunc, .nilFunc, .nilFunc, .nilFunc]
theorem cmdL_one : cmdL.toArray.all (·.oneCell') = true := by simp [cmdL, Value.oneCell']
theorem Tryd.infoTab : (Tryd.prog.info? 83).map (·.size) = some 15 := by kernel_rfl
theorem put_tab : putL nilL.toArray 0 cmdL = cmdL.toArray := by
  simp only [putL, cmdL, nilL, List.setIfInBounds_toArray, List.set_cons_succ, List.set_cons_zero, Nat.reduceAdd]

set_option maxRecDepth 100000 in
set_option maxHeartbeats 400000 in
theorem commands_any (w : World) : Calls Tryd.prog 25 #[] w fun e w' => e = .returned (.agg cmdL.toArray) ∧ Below w.heap.size w w' := by
  have hn : (w.alloc (.cells #[.nilFunc, .nilFunc, .nilFunc, .nilFunc, .nilFunc, .nilFunc, .nilFunc, .nilFunc, .nilFunc, .nilFunc, .nilFunc, .nilFunc, .nilFunc, .nilFunc, .nilFunc] 83)).heap[w.heap.size]? = some (.cells nilL.toArray 83 (0, 0)) := heap_alloc_new _ _
  have HT : Hid ((w.alloc (.cells #[.nilFunc, .nilFunc, .nilFunc, .nilFunc, .nilFunc, .nilFunc, .nilFunc, .nilFunc, .nilFunc, .nilFunc, .nilFunc, .nilFunc, .nilFunc, .nilFunc, .nilFunc] 83)).there w.heap.size 0 cmdL.toArray.size) := there_of hn 0 15 (Nat.le_refl _)
  have HN : Hid ((Tryd.prog.info? 83).map (·.size) = some cmdL.toArray.size) := Tryd.infoTab
  have HH : Hid (((w.alloc (.cells #[.nilFunc, .nilFunc, .nilFunc, .nilFunc, .nilFunc, .nilFunc, .nilFunc, .nilFunc, .nilFunc, .nilFunc, .nilFunc, .nilFunc, .nilFunc, .nilFunc, .nilFunc] 83)).setCells w.heap.size 0 cmdL).heap[w.heap.size]? = some (.cells cmdL.toArray 83 (0, 0)) ∧ Below w.heap.size w ((w.alloc (.cells #[.nilFunc, .nilFunc, .nilFunc, .nilFunc, .nilFunc, .nilFunc, .nilFunc, .nilFunc, .nilFunc, .nilFunc, .nilFunc, .nilFunc, .nilFunc, .nilFunc, .nilFunc] 83)).setCells w.heap.size 0 cmdL)) := by
    refine ⟨by rw [heap_setCells _ _ _ _ _ _ hn, put_tab], ?_⟩
    have hk := kept_setCells w.heap.size cmdL 0 (w.alloc (.cells #[.nilFunc, .nilFunc, .nilFunc, .nilFunc, .nilFunc, .nilFunc, .nilFunc, .nilFunc, .nilFunc, .nilFunc, .nilFunc, .nilFunc, .nilFunc, .nilFunc, .nilFunc] 83))
    have hb : Below w.heap.size w (w.alloc (.cells #[.nilFunc, .nilFunc, .nilFunc, .nilFunc, .nilFunc, .nilFunc, .nilFunc, .nilFunc, .nilFunc, .nilFunc, .nilFunc, .nilFunc, .nilFunc, .nilFunc, .nilFunc] 83)) := below1
    exact ⟨hk.os.trans hb.os, hk.tape.trans hb.tape, hk.output.trans hb.output, Nat.le_trans hb.size hk.size, fun i hi => (hk.block i (Nat.lt_of_lt_of_le hi hb.size) (by omega)).trans (hb.block i hi)⟩
  clear hn
  go_enter Tryd.func25, Tryd.ntmps25
  go_wp2_with (refine wpList_store_mid (by rfl) 83 (.tmp 0) (.tmp 11) (by rfl) w.heap.size 0 cmdL.toArray (by rfl) (by rfl) HT.out HN.out cmdL_one ?_)
  refine gen_w (fun WW => WW.heap[w.heap.size]? = some (.cells cmdL.toArray 83 (0, 0)) ∧ Below w.heap.size w WW) (bodyPost _ _ _ _ _) _ HH.out ?_
  rintro WW ⟨hl, hbl⟩
  exact bodyPost_ret (results_cell_row rfl _ _ w.heap.size 83 cmdL.toArray (0, 0) _ rfl hl Tryd.underlying83 rfl HN.out) rfl ⟨rfl, hbl⟩

/-- A method expression finds its function. -/
theorem meth_at (p : Nat) (a : ByteArray) (w : World) :
    (callMethod (.iface 45 (.pointer (some ⟨p, 0, none⟩))) "pane/pane.setSize" #[.string a]).run Tryd.prog w = .ok (.enter 33 #[.pointer (some ⟨p, 2, none⟩), .string a]) w := by kernel_rfl
end Go.Proofs.YtifloehpdkfchaaDoor
