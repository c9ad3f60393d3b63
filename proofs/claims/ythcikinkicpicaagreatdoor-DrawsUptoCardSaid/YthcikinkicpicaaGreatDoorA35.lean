import Derived.Test.YthcikinkicpicaaGreatDoorA30
import Derived.Test.YthcikinkicpicaaGreatDoorA28
import Derived.Test.YthcikinkicpicaaGreatDoorA31
import Derived.Test.YthcikinkicpicaaGreatDoorA32
import Derived.Test.YthcikinkicpicaaGreatDoorA15
import Derived.Test.YthcikinkicpicaaGreatDoorA33
import Derived.Test.YthcikinkicpicaaGreatDoorA34

namespace Go.Proofs.YthcikinkicpicaaGreatDoor
open Go.RowKit

/-- A command's function, and where its receiver lies in the drawer. -/
def cmdFn (kind : Int) : Nat × Nat :=
  if kind = 1 then (51, 2) else if kind = 2 then (52, 0) else if kind = 3 then (53, 14) else if kind = 4 then (54, 14)
  else if kind = 5 then (55, 2) else if kind = 6 then (56, 14) else if kind = 7 then (57, 14) else if kind = 8 then (58, 14)
  else if kind = 9 then (59, 0) else if kind = 10 then (60, 29) else if kind = 11 then (61, 29) else if kind = 12 then (62, 14)
  else if kind = 13 then (63, 0) else (64, 0)

/-- Every command but a triangle. -/
theorem cmd_any (base : Nat) (p cB zB sB A n : Nat) (s : ByteArray) (k : Int) (ways : Wy) (shV outV : Value) (st : St) (a : ByteArray) (kind : Int) (l : List Int) (w : World) (K : Int)
    (h : Dr base w p cB zB sB A n s k ways shV outV st) (hok : st.Ok K) (hlen : st.out.length ≤ 1000000000000) (ha : ArgsOf a l) (hl : lenOk kind l) (h9 : kind ≠ 9) :
    Calls Tryz.prog (cmdFn kind).1 #[.pointer (some ⟨p, (cmdFn kind).2, none⟩), .string a] w (CmdPost base p s k ways w (if kind = 12 then l.getD 0 0 else ways.v) (st.cmd kind l)) := by
  rcases hl with ⟨rfl, m, _, hl, hm⟩ | ⟨h8, hk1, hl⟩
  · exact setShader_in base p cB zB sB A n s k ways shV outV st a l w h ha m hl hm
  · rcases kinds hk1 with ⟨rfl, e⟩ | ⟨rfl, e⟩ | ⟨rfl, e⟩ | ⟨rfl, e⟩ | ⟨rfl, e⟩ | ⟨rfl, e⟩ | ⟨rfl, e⟩ | ⟨rfl, e⟩ | ⟨rfl, e⟩ | ⟨rfl, e⟩ | ⟨rfl, e⟩ | ⟨rfl, e⟩ | ⟨rfl, e⟩ | ⟨rfl, e⟩
    · exact setSize_in base p cB zB sB A n s k ways shV outV st a l w h ha (by omega)
    · exact clearPane_in base p cB zB sB A n s k ways shV outV st a l w h K hok ha (by omega)
    · exact setDepth_in base p cB zB sB A n s k ways shV outV st a l w h ha (by omega)
    · exact setStencil_in base p cB zB sB A n s k ways shV outV st a l w h ha (by omega)
    · exact setWindow_in base p cB zB sB A n s k ways shV outV st a l w h ha (by omega)
    · exact setFaces_in base p cB zB sB A n s k ways shV outV st a l w h ha (by omega)
    · exact setColours_in base p cB zB sB A n s k ways shV outV st a l w h ha (by omega)
    · exact absurd rfl h8
    · exact absurd rfl h9
    · exact begin_in base p cB zB sB A n s k ways shV outV st a l w h ha (by omega) hok.qs
    · exact end_in base p cB zB sB A n s k ways shV outV st a l w h ha (by omega) hok.qs
    · exact setWays_in base p cB zB sB A n s k ways shV outV st a l w h ha (by omega)
    · exact tellPixel_in base p cB zB sB A n s k ways shV outV st a l w h K hok ha (by omega) hlen
    · exact tellCount_in base p cB zB sB A n s k ways shV outV st a l w h ha (by omega) hok.qs hlen
end Go.Proofs.YthcikinkicpicaaGreatDoor

namespace Go.Proofs.YthcikinkicpicaaGreatDoor
open Go.RowKit

set_option maxRecDepth 100000 in
set_option maxHeartbeats 400000 in
theorem atEnd_any (p : Nat) (s : ByteArray) (k : Int) (w : World) (h0 : w.cell? ⟨p, 0, none⟩ = some (.string s)) (h1 : w.cell? ⟨p, 1, none⟩ = some (.int .i64 k)) :
    Calls Tryz.prog 36 #[.pointer (some ⟨p, 0, none⟩)] w fun e w' => e = .returned (.bool (decide (k = (s.size : Int)))) ∧ ∃ n, w' = w.drewN n := by
  go_enter Tryz.func36, Tryz.ntmps36
  go_wp2_with fail
  go_quiet (fail)
  go_wp2_with fail
  go_ret
  exact ⟨by congr 2, _, rfl⟩

/-- The table of commands. -/
def cmdL : List Value := [.nilFunc, .func (.methodOf 61 "pane/pane.setSize") #[] #[], .func (.func 52) #[] #[], .func (.methodOf 61 "pane/pane.setDepth") #[] #[], .func (.methodOf 61 "pane/pane.setStencil") #[] #[], .func (.methodOf 61 "pane/pane.setWindow") #[] #[], .func (.methodOf 61 "pane/pane.setFaces") #[] #[], .func (.methodOf 61 "pane/pane.setColours") #[] #[], .func (.methodOf 61 "pane/pane.setShader") #[] #[], .func (.func 59) #[] #[], .func (.methodOf 61 "pane/pane.begin") #[] #[], .func (.methodOf 61 "pane/pane.end") #[] #[], .func (.methodOf 61 "pane/pane.setWays") #[] #[], .func (.func 63) #[] #[], .func (.func 64) #[] #[]]
def nilL : List Value := [.nilFunc, .nilFunc, .nilFunc, .nilFunc, .nilFunc, .nilFunc, .nilFunc, .nilFunc, .nilFunc, .nilFunc, .nilFunc, .nilFunc, .nilFunc, .nilFunc, .nilFunc]
theorem cmdL_one : cmdL.toArray.all (·.oneCell') = true := by simp [cmdL, Value.oneCell']
theorem Tryz.infoTab : (Tryz.prog.info? 106).map (·.size) = some 15 := by kernel_rfl
theorem put_tab : putL nilL.toArray 0 cmdL = cmdL.toArray := by
  simp only [putL, cmdL, nilL, List.setIfInBounds_toArray, List.set_cons_succ, List.set_cons_zero, Nat.reduceAdd]

set_option maxRecDepth 100000 in
set_option maxHeartbeats 400000 in
theorem commands_any (w : World) : Calls Tryz.prog 35 #[] w fun e w' => e = .returned (.agg cmdL.toArray) ∧ Below w.heap.size w w' := by
  have hn : (w.alloc (.cells #[.nilFunc, .nilFunc, .nilFunc, .nilFunc, .nilFunc, .nilFunc, .nilFunc, .nilFunc, .nilFunc, .nilFunc, .nilFunc, .nilFunc, .nilFunc, .nilFunc, .nilFunc] 106)).heap[w.heap.size]? = some (.cells nilL.toArray 106 (0, 0)) := heap_alloc_new _ _
  have HT : Hid ((w.alloc (.cells #[.nilFunc, .nilFunc, .nilFunc, .nilFunc, .nilFunc, .nilFunc, .nilFunc, .nilFunc, .nilFunc, .nilFunc, .nilFunc, .nilFunc, .nilFunc, .nilFunc, .nilFunc] 106)).there w.heap.size 0 cmdL.toArray.size) := there_of hn 0 15 (Nat.le_refl _)
  have HN : Hid ((Tryz.prog.info? 106).map (·.size) = some cmdL.toArray.size) := Tryz.infoTab
  have HH : Hid (((w.alloc (.cells #[.nilFunc, .nilFunc, .nilFunc, .nilFunc, .nilFunc, .nilFunc, .nilFunc, .nilFunc, .nilFunc, .nilFunc, .nilFunc, .nilFunc, .nilFunc, .nilFunc, .nilFunc] 106)).setCells w.heap.size 0 cmdL).heap[w.heap.size]? = some (.cells cmdL.toArray 106 (0, 0)) ∧ Below w.heap.size w ((w.alloc (.cells #[.nilFunc, .nilFunc, .nilFunc, .nilFunc, .nilFunc, .nilFunc, .nilFunc, .nilFunc, .nilFunc, .nilFunc, .nilFunc, .nilFunc, .nilFunc, .nilFunc, .nilFunc] 106)).setCells w.heap.size 0 cmdL)) := by
    refine ⟨by rw [heap_setCells _ _ _ _ _ _ hn, put_tab], ?_⟩
    have hk := kept_setCells w.heap.size cmdL 0 (w.alloc (.cells #[.nilFunc, .nilFunc, .nilFunc, .nilFunc, .nilFunc, .nilFunc, .nilFunc, .nilFunc, .nilFunc, .nilFunc, .nilFunc, .nilFunc, .nilFunc, .nilFunc, .nilFunc] 106))
    have hb : Below w.heap.size w (w.alloc (.cells #[.nilFunc, .nilFunc, .nilFunc, .nilFunc, .nilFunc, .nilFunc, .nilFunc, .nilFunc, .nilFunc, .nilFunc, .nilFunc, .nilFunc, .nilFunc, .nilFunc, .nilFunc] 106)) := below1
    exact ⟨hk.os.trans hb.os, hk.tape.trans hb.tape, hk.output.trans hb.output, Nat.le_trans hb.size hk.size, fun i hi => (hk.block i (Nat.lt_of_lt_of_le hi hb.size) (by omega)).trans (hb.block i hi)⟩
  clear hn
  go_enter Tryz.func35, Tryz.ntmps35
  go_wp2_with (refine wpList_store_mid (by rfl) 106 (.tmp 0) (.tmp 11) (by rfl) w.heap.size 0 cmdL.toArray (by rfl) (by rfl) HT.out HN.out cmdL_one ?_)
  refine gen_w (fun WW => WW.heap[w.heap.size]? = some (.cells cmdL.toArray 106 (0, 0)) ∧ Below w.heap.size w WW) (bodyPost _ _ _ _ _) _ HH.out ?_
  rintro WW ⟨hl, hbl⟩
  exact bodyPost_ret (results_cell_row rfl _ _ w.heap.size 106 cmdL.toArray (0, 0) _ rfl hl Tryz.underlying106 rfl HN.out) rfl ⟨rfl, hbl⟩

/-- A method expression finds its function. -/
theorem meth_at (p : Nat) (a : ByteArray) (w : World) :
    (callMethod (.iface 61 (.pointer (some ⟨p, 0, none⟩))) "pane/pane.setSize" #[.string a]).run Tryz.prog w = .ok (.enter 51 #[.pointer (some ⟨p, 2, none⟩), .string a]) w := by kernel_rfl
end Go.Proofs.YthcikinkicpicaaGreatDoor

namespace Go.Proofs.YthcikinkicpicaaGreatDoor
open Go.RowKit

/-- No command 12 from place k on has another byte than 0 behind it. -/
def zeroFrom (s : ByteArray) : Nat → Nat → Prop
  | 0, _ => True
  | f + 1, k => s.size ≤ k ∨ (lenAt s k < 0 ∨ (s.size : Int) < k + 1 + lenAt s k) ∨ ((byteAt s k = 12 → byteAt s (k + 1) = 0) ∧ zeroFrom s f (k + 1 + (lenAt s k).toNat))

theorem useB_zero (x : Int) : useB 0 x = false := by
  unfold useB
  have h : IntKind.i64.wrap 0 = 0 := by decide
  simp [bits, h]

/-- A command, where states are near. -/
theorem near_cmd {pl : Prop} {sp st1 : St} (h : Near pl sp st1) (kind : Int) (l : List Int) (h9 : kind ≠ 9) : Near pl (sp.cmd kind l).1 (st1.cmd kind l).1 ∧ (st1.cmd kind l).2 = (sp.cmd kind l).2 := by
  have hs := h.same
  unfold St.cmd
  rw [hs.1, hs.2.1]
  cases badB sp.W sp.H kind l
  · rw [if_neg (by simp), if_neg (by simp)]
    have hd := does_work sp kind l st1.work h9
    rw [← h.eq] at hd
    rw [hd.1]
    refine ⟨Near.mk' _ _ ?_ (fun q => ?_), rfl⟩
    · rw [hd.2]; exact h.le
    · rw [hd.2]; exact h.pl q
  · rw [if_pos rfl, if_pos rfl]; exact ⟨h, rfl⟩
theorem near_out {pl : Prop} {a b : St} (h : Near pl a b) (r : List Rep) : Near pl { a with out := r } { b with out := r } :=
  ⟨by rw [show b = { a with work := b.work } from h.eq], h.le, h.pl⟩

/-- Replies have nothing to do with what is drawn. -/
theorem px_out (t : Tr) (s : St) (p : Int × Int) (o : List Rep) : t.px { s with out := o } p = { t.px s p with out := o } := by
  unfold Tr.px
  rw [px_W, px_W]
  unfold pxW
  dsimp only
  split
  · unfold eff
    split <;> rfl
  · rfl
theorem fold_out (t : Tr) (o : List Rep) : ∀ (l : List (Int × Int)) (s : St), l.foldl t.px { s with out := o } = { l.foldl t.px s with out := o }
  | [], _ => rfl
  | p :: l, s => by
    rw [List.foldl_cons, List.foldl_cons, px_out]
    exact fold_out t o l _
theorem ops_out (wx wy ww wh : Int) (key : Int × Int) (o : List Rep) : ∀ (l : List Tr) (s : St), tileOps wx wy ww wh l key { s with out := o } = { tileOps wx wy ww wh l key s with out := o }
  | [], _ => rfl
  | t :: l, s => by
    show tileOps wx wy ww wh l key (tileOp wx wy ww wh t key { s with out := o }) = { tileOps wx wy ww wh l key (tileOp wx wy ww wh t key s) with out := o }
    rw [show tileOp wx wy ww wh t key { s with out := o } = { tileOp wx wy ww wh t key s with out := o } from fold_out t o _ s]
    exact ops_out wx wy ww wh key o l _
theorem run_out (wx wy ww wh : Int) (bin : Int × Int → List Tr) (o : List Rep) : ∀ (l : List (Int × Int)) (s : St), binsRun wx wy ww wh bin l { s with out := o } = { binsRun wx wy ww wh bin l s with out := o }
  | [], _ => rfl
  | k :: l, s => by
    show binsRun wx wy ww wh bin l (tileOps wx wy ww wh (bin k) k { s with out := o }) = { binsRun wx wy ww wh bin l (tileOps wx wy ww wh (bin k) k s) with out := o }
    rw [ops_out]
    exact run_out wx wy ww wh bin o l _
theorem virt_out (L : List Ent) (st : St) (o : List Rep) : virt L { st with out := o } = { virt L st with out := o } := run_out _ _ _ _ _ o _ st

/-- What waits makes no fewer steps. -/
theorem ops_okx (wx wy ww wh : Int) (key : Int × Int) : ∀ (l : List Tr) (s : St), (∀ t ∈ l, t.Ok) → (∃ K, s.Ok K) → ∃ K, (tileOps wx wy ww wh l key s).Ok K
  | [], _, _, h => h
  | t :: l, s, ho, ⟨K, h⟩ => by
    have ht := ho t List.mem_cons_self
    exact ops_okx wx wy ww wh key l _ (fun u hu => ho u (List.mem_cons_of_mem _ hu)) ⟨_, fold_ok t.a t.b t.c t.ar ht.a ht.b ht.c ht.ar ht.pos (tilePx wx wy ww wh key) s K h⟩
theorem run_okx (wx wy ww wh : Int) (bin : Int × Int → List Tr) : ∀ (l : List (Int × Int)) (s : St), (∀ k, ∀ t ∈ bin k, t.Ok) → (∃ K, s.Ok K) → ∃ K, (binsRun wx wy ww wh bin l s).Ok K
  | [], _, _, h => h
  | k :: l, s, ho, h => run_okx wx wy ww wh bin l _ ho (ops_okx wx wy ww wh k (bin k) s (ho k) h)

section
variable {base : Nat} {p cB zB sB A n : Nat} {s : ByteArray} {k : Int} {ways : Wy} {shV outV : Value} {st : St} {w w' : World}

theorem Wts.work0 {L : List Ent} {N : Nat} {K : Int} (h : Wts base w ways st L N) (hok : st.Ok K) : 0 ≤ (virt L st).work := by
  obtain ⟨K', hK'⟩ := run_okx st.wx st.wy st.ww st.wh (binT L) (winT st) st (fun k t ht => by
    unfold binT at ht
    obtain ⟨q, hq, rfl⟩ := List.mem_map.1 ht
    exact (h.ok _ q hq).1) ⟨K, hok⟩
  exact hK'.work0
theorem Wts.frame {L : List Ent} {N : Nat} (h : Wts base w ways st L N) (hb : Below w.heap.size w w') : Wts base w' ways st L N := ⟨h.bn.frame hb, h.len, h.ok, h.off⟩
theorem Wts.keptP {L : List Ent} {N : Nat} {S : Nat → Prop} (h : Wts base w ways st L N) (hk : Kept S w w') (hS : ∀ (g : Nat) (cur : Array Value) (T : TypeId), w.heap[g]? = some (.cells cur T (0, 0)) → T = 132 ∨ T = 165 → ¬ S g) : Wts base w' ways st L N := ⟨h.bn.kept hk hS, h.len, h.ok, h.off⟩
theorem Wts.out {L : List Ent} {N : Nat} (h : Wts base w ways st L N) (o : List Rep) : Wts base w ways { st with out := o } L N := ⟨h.bn, h.len, fun j q hq => ⟨(h.ok j q hq).1, (h.ok j q hq).2.same rfl rfl rfl rfl⟩, h.off⟩
theorem wts_nil (base : Nat) (w : World) (v : Int) (m ck : Nat) (st : St) : Wts base w ⟨v, m, #[], ck⟩ st [] 0 := ⟨bins_empty base w ck, fun _ => Nat.le_refl _, (fun j q hq => by cases hq), fun _ => rfl⟩

end

/-- The drawer at place k stands for the state sp, what waits with it. -/
structure Vi (pl : Prop) (base p : Nat) (s : ByteArray) (k : Nat) (sp : St) (W : World) : Prop where
  ex : ∃ st cB zB sB A n ways shV outV L N, Dr base W p cB zB sB A n s (k : Int) ways shV outV st ∧ Wts base W ways st L N ∧ 28 * N ≤ k ∧ st.Ok (9216 * k) ∧ Near pl sp (virt L st) ∧ (pl → ways.v = 0)
  ok : sp.Ok (9216 * k)
  k11 : k ≤ 100000000000

section
variable {pl : Prop} {base p : Nat} {s : ByteArray} {k : Nat} {sp : St} {W : World}

theorem Vi.frame (h : Vi pl base p s k sp W) {W' : World} (hb : Below W.heap.size W W') : Vi pl base p s k sp W' := by
  obtain ⟨⟨st, cB, zB, sB, A, n, ways, shV, outV, L, N, hd, hw, hN, hok, hn, hv⟩, ok, k11⟩ := h
  exact ⟨⟨st, cB, zB, sB, A, n, ways, shV, outV, L, N, hd.frame hb, hw.frame hb, hN, hok, hn, hv⟩, ok, k11⟩

/-- The state with nothing waiting. -/
def Vd (pl : Prop) (base p : Nat) (s : ByteArray) (k : Nat) (sp : St) (W W' : World) : Prop :=
  ∃ st cB zB sB A n v m ck shV outV, Dr base W' p cB zB sB A n s (k : Int) ⟨v, m, #[], ck⟩ shV outV st ∧ st.Ok (9216 * k) ∧ Near pl sp st ∧ (pl → v = 0) ∧ Low base W W'

theorem wait_vi (h : Vi pl base p s k sp W) : Calls Tryz.prog 38 #[.pointer (some ⟨p, 0, none⟩)] W fun e W' => e = .returned (.tuple #[]) ∧ Vd pl base p s k sp W W' := by
  obtain ⟨⟨st, cB, zB, sB, A, n, ways, shV, outV, L, N, hd, hw, hN, hok, hn, hv⟩, ok, k11⟩ := h
  refine (drawWaiting_in base p cB zB sB A n s k ways shV outV st W pl (fun e x => by rw [hv e]; exact useB_zero x) _ N L hd hw.bn hok (by omega) hw.len hw.ok).mono ?_
  rintro e W' ⟨rfl, ⟨st', hn', hw', hd'⟩, hk'⟩
  have hw0 := hok.work0
  have hnn : Near pl sp st' := hn.trans hn'
  refine ⟨rfl, st', cB, zB, sB, A, n, ways.v, ways.m, ways.ck, shV, outV, hd', hnn.ok ok (by omega), hnn, hv, ?_⟩
  obtain ⟨_, _, _, _, ⟨c1, b1, t1⟩, ⟨c2, b2, t2⟩, c3, b3, t3⟩ := hd.sf.ex
  have hlt := lt_of_heap hd.bp
  have hb0 := hd.b0
  refine ⟨⟨hk'.os, hk'.tape, hk'.output, hk'.size, fun i hi => hk'.block i (by omega) ?_⟩, fun g c hg => (hk'.block g (lt_of_heap hg) ?_).trans hg⟩
  · rintro ((rfl | rfl | rfl | rfl) | rfl)
    · omega
    · have := hd.b1; omega
    · have := hd.b2; omega
    · have := hd.b3; omega
    · have := hd.b4; omega
  · rintro ((rfl | rfl | rfl | rfl) | rfl)
    · exact ne_types hg hd.bp (by decide) rfl
    · exact ne_types hg b1 (by decide) rfl
    · exact ne_types hg b2 (by decide) rfl
    · exact ne_types hg b3 (by decide) rfl
    · exact ne_map hd.mp hg rfl

theorem next_vi (h : Vi pl base p s k sp W) (hk : k < s.size) (hs : s.size ≤ 100000000000) (ht : TabW W) (hp0 : 0 < p) :
    Calls Tryz.prog 65 #[.pointer (some ⟨p, 0, none⟩)] W fun e w' =>
      if lenAt s k < 0 ∨ (s.size : Int) < k + 1 + lenAt s k then e = .returned (.tuple #[.int .i64 0, .string ⟨#[]⟩, .bool false]) ∧ Below W.heap.size W w'
      else ∃ a, e = .returned (.tuple #[.int .i64 (byteAt s k), .string a, .bool true]) ∧ ArgsOf a (argsAt s (k + 1) (lenAt s k).toNat) ∧ Low base W w' ∧
        ∃ st cB zB sB A n ways shV outV L N, Dr base w' p cB zB sB A n s ((k + 1 + (lenAt s k).toNat : Nat) : Int) ways shV outV st ∧ Wts base w' ways st L N ∧ 28 * N ≤ k ∧ st.Ok (9216 * k) ∧ Near pl sp (virt L st) ∧ (pl → ways.v = 0) := by
  obtain ⟨⟨st, cB, zB, sB, A, n, ways, shV, outV, L, N, hd, hw, hN, hok, hn, hv⟩, ok, k11⟩ := h
  refine (next_in base p cB zB sB A n s k ways shV outV st W hd hk hs ht hp0).mono ?_
  intro e w' hp
  unfold NextPost at hp
  split at hp
  · rename_i hb
    rw [if_pos hb]; exact hp
  · rename_i hb
    rw [if_neg hb]
    obtain ⟨a, rfl, ha, hd', hl', hk'⟩ := hp
    exact ⟨a, rfl, ha, hl', st, cB, zB, sB, A, n, ways, shV, outV, L, N, hd', hw.keptP hk' (fun g cur T hg hT e => by
      rw [e] at hg
      exact ne_types hg hd.bp (by rcases hT with rfl | rfl <;> decide) rfl), hN, hok, hn, hv⟩

theorem fault_vi (h : Vi pl base p s k sp W) (e j : Int) (ho : sp.out.length ≤ 200000000000) :
    Calls Tryz.prog 66 #[.pointer (some ⟨p, 0, none⟩), .int .i64 e, .int .i64 j] W fun e' w' => e' = .returned (.tuple #[]) ∧ Vi pl base p s k { sp with out := sp.out ++ [{ k := 0, a := e, b := j, c := 0 }] } w' ∧ Low base W w' := by
  obtain ⟨⟨st, cB, zB, sB, A, n, ways, shV, outV, L, N, hd, hw, hN, hok, hn, hv⟩, ok, k11⟩ := h
  have eo : st.out = sp.out := ((virt_same L st).2.2.2.2.2.2.2.1).symm.trans hn.same.2.2.2.2.2.2.2.2.2.2
  refine (fault_k base p cB zB sB A n s k ways shV outV st W hd e j (by rw [eo]; omega)).mono ?_
  rintro e' w' ⟨rfl, v', hd', hl', hk'⟩
  have hw2 := hw.keptP hk' (fun g cur T hg hT e => by
    rcases e with e | ⟨cur', hc⟩
    · rw [e] at hg
      exact ne_types hg hd.bp (by rcases hT with rfl | rfl <;> decide) rfl
    · exact ne_types hg hc (by rcases hT with rfl | rfl <;> decide) rfl)
  refine ⟨rfl, ⟨⟨_, cB, zB, sB, A, n, ways, shV, v', L, N, hd', hw2.out _, hN, Ok_out hok _, ?_, hv⟩, Ok_out ok _, k11⟩, hl'⟩
  rw [virt_out, eo]
  exact near_out hn _
end
end Go.Proofs.YthcikinkicpicaaGreatDoor

namespace Go.Proofs.YthcikinkicpicaaGreatDoor
open Go.RowKit

theorem TabW.low {base : Nat} {w w' : World} (h : TabW w) (hb : Below base w w') (h0 : 0 < base) : TabW w' := fun i hi =>
  (World.cell?_of_block (a := ⟨0, i, none⟩) (hb.block 0 h0)).trans (h i hi)

theorem play_end (s : ByteArray) (f k : Nat) (st : St) (h : s.size ≤ k) : playFrom s f k st = st := by
  cases f with
  | zero => rfl
  | succ f => rw [playFrom, if_pos h]

/-- While commands are worked. -/
structure WkI (pl : Prop) (base p TB : Nat) (s : ByteArray) (w : World) (R : St) (f k : Nat) (wr : World) : Prop where
  kf : s.size ≤ k + f
  kl : k ≤ s.size
  vi : ∃ sp, Vi pl base p s k sp wr ∧ playFrom s f k sp = R ∧ sp.out.length ≤ k
  zr : pl → zeroFrom s f k
  tab : wr.heap[TB]? = some (.cells cmdL.toArray 106 (0, 0))
  bel : Below base w wr

/-- Behind the last command. -/
structure WkE (pl : Prop) (base p : Nat) (s : ByteArray) (w : World) (R : St) (wr : World) : Prop where
  vi : ∃ k, Vi pl base p s k R wr
  bel : Below base w wr

/-- Behind a command: its error is told, and the next one comes. -/
structure BkI (pl : Prop) (base p TB : Nat) (s : ByteArray) (w : World) (R : St) (f k k' : Nat) (e : Int) (wr : World) : Prop where
  vi : ∃ sp, Vi pl base p s k' sp wr ∧ playFrom s f k' (if e = 0 then sp else { sp with out := sp.out ++ [{ k := 0, a := e, b := k, c := 0 }] }) = R ∧ sp.out.length ≤ k' ∧ (e ≠ 0 → sp.out.length + 1 ≤ k')
  zr : pl → zeroFrom s f k'
  kf : s.size ≤ k' + f
  kl : k' ≤ s.size
  tab : wr.heap[TB]? = some (.cells cmdL.toArray 106 (0, 0))
  bel : Below base w wr

section
variable {pl : Prop} {base p TB : Nat} {s : ByteArray} {w W W3 W4 : World} {R sp : St} {f k j : Nat}

/-- What one command makes of the document's state. -/
theorem one_step (hrun : playFrom s (f + 1) k sp = R) (hj : lenAt s k = (j : Int)) (hkj : k + 1 + j ≤ s.size) (hk : k < s.size) (hok : sp.Ok (9216 * k)) (hout : sp.out.length ≤ k) :
    playFrom s f (k + 1 + j) (if (sp.cmd (byteAt s k) (argsAt s (k + 1) j)).2 = 0 then (sp.cmd (byteAt s k) (argsAt s (k + 1) j)).1 else { (sp.cmd (byteAt s k) (argsAt s (k + 1) j)).1 with out := (sp.cmd (byteAt s k) (argsAt s (k + 1) j)).1.out ++ [{ k := 0, a := (sp.cmd (byteAt s k) (argsAt s (k + 1) j)).2, b := k, c := 0 }] }) = R ∧
      (sp.cmd (byteAt s k) (argsAt s (k + 1) j)).1.Ok (9216 * ((k + 1 + j : Nat) : Int)) ∧ (sp.cmd (byteAt s k) (argsAt s (k + 1) j)).1.out.length ≤ k + 1 + j ∧ ((sp.cmd (byteAt s k) (argsAt s (k + 1) j)).2 ≠ 0 → (sp.cmd (byteAt s k) (argsAt s (k + 1) j)).1.out.length + 1 ≤ k + 1 + j) := by
  obtain ⟨hlo, hj1⟩ := lenOk_of hj
  have h1 := hrun
  rw [playFrom, if_neg (by omega), hj, if_neg (by omega), Int.toNat_natCast] at h1
  have hone : sp.one (byteAt s k) (argsAt s (k + 1) j) k = if (sp.cmd (byteAt s k) (argsAt s (k + 1) j)).2 = 0 then (sp.cmd (byteAt s k) (argsAt s (k + 1) j)).1 else { (sp.cmd (byteAt s k) (argsAt s (k + 1) j)).1 with out := (sp.cmd (byteAt s k) (argsAt s (k + 1) j)).1.out ++ [{ k := 0, a := (sp.cmd (byteAt s k) (argsAt s (k + 1) j)).2, b := k, c := 0 }] } := rfl
  have ho := one_out sp (byteAt s k) (argsAt s (k + 1) j) k
  have hk1 := one_ok sp (byteAt s k) (argsAt s (k + 1) j) k _ hok (argsAt_ok s (k + 1) j) hlo
  rw [hone] at h1 ho hk1
  refine ⟨h1, ?_, ?_, fun hne => ?_⟩
  · split at hk1
    · exact Ok_mono hk1 (by push_cast; omega)
    · exact Ok_mono (show ((sp.cmd (byteAt s k) (argsAt s (k + 1) j)).1).Ok _ from ⟨hk1.W0, hk1.W1, hk1.H0, hk1.H1, hk1.len, hk1.dots, hk1.T, hk1.wx0, hk1.wy0, hk1.ww0, hk1.wh0, hk1.wx1, hk1.wy1, hk1.sh, hk1.shl, hk1.qs, hk1.qn, hk1.work0, hk1.work1⟩) (by push_cast; omega)
  · split at ho
    · omega
    · simp only [List.length_append, List.length_cons, List.length_nil] at ho; omega
  · rw [if_neg hne] at ho
    simp only [List.length_append, List.length_cons, List.length_nil] at ho; omega

theorem cmd_work (st : St) (kind : Int) (l : List Int) (h9 : kind ≠ 9) : (st.cmd kind l).1.work = st.work := by
  unfold St.cmd
  split
  · rfl
  · exact (does_work st kind l 0 h9).2

/-- A command other than a triangle, with nothing waiting. -/
theorem cmd_vi (hI : WkI pl base p TB s w R (f + 1) k W) (hsp : Vi pl base p s k sp W) (hrun : playFrom s (f + 1) k sp = R) (hout : sp.out.length ≤ k) (hj : lenAt s k = (j : Int)) (hkj : k + 1 + j ≤ s.size) (hk : k < s.size) (h9 : byteAt s k ≠ 9)
    {a : ByteArray} (ha : ArgsOf a (argsAt s (k + 1) j)) (hV : Vd pl base p s (k + 1 + j) sp W3 W4) (hl3 : Low base W W3) (hs : s.size ≤ 100000000000) :
    Calls Tryz.prog (cmdFn (byteAt s k)).1 #[.pointer (some ⟨p, (cmdFn (byteAt s k)).2, none⟩), .string a] W4 fun e w' =>
      e = .returned (.int .i64 (sp.cmd (byteAt s k) (argsAt s (k + 1) j)).2) ∧ BkI pl base p TB s w R f k (k + 1 + j) (sp.cmd (byteAt s k) (argsAt s (k + 1) j)).2 w' := by
  obtain ⟨hlo, hj1⟩ := lenOk_of hj
  obtain ⟨hr2, hok2, ho2, ho3⟩ := one_step hrun hj hkj hk hsp.ok hout
  obtain ⟨st, cB, zB, sB, A, n, v, m, ck, shV, outV, hd, hok, hn, hv, hl4⟩ := hV
  have eo : st.out = sp.out := hn.same.2.2.2.2.2.2.2.2.2.2
  have hnc := near_cmd hn (byteAt s k) (argsAt s (k + 1) j) h9
  refine (cmd_any base p cB zB sB A n s ((k + 1 + j : Nat) : Int) ⟨v, m, #[], ck⟩ shV outV st a (byteAt s k) (argsAt s (k + 1) j) W4 _ hd hok (by rw [eo]; omega) ha hlo h9).mono ?_
  rintro e w' ⟨rfl, cB2, zB2, sB2, A2, n2, shV2, outV2, hd2, hl2⟩
  have hl : Low base W w' := (hl3.trans hl4).trans hl2
  refine ⟨by rw [hnc.2], ⟨⟨_, ⟨⟨_, _, _, _, _, _, _, _, _, [], 0, hd2, wts_nil _ _ _ _ _ _, by omega, hnc.1.ok hok2 (by rw [cmd_work _ _ _ h9]; exact hok.work0), by rw [virt_nil]; exact hnc.1, fun q => ?_⟩, hok2, by omega⟩, hr2, ho2, ho3⟩, fun q => ?_, by have := hI.kf; omega, hkj, hl.tab _ _ hI.tab, hI.bel.trans hl.bel⟩⟩
  · show (if byteAt s k = 12 then (argsAt s (k + 1) j).getD 0 0 else v) = 0
    split
    · rename_i h12
      have hz := hI.zr q
      rw [zeroFrom] at hz
      rcases hz with hz | hz | hz
      · omega
      · rw [hj] at hz; omega
      · rw [argsAt_get s (k + 1) j 0 (by omega), Nat.add_zero]
        exact hz.1 h12
    · exact hv q
  · have hz := hI.zr q
    rw [zeroFrom] at hz
    rcases hz with hz | hz | hz
    · omega
    · rw [hj] at hz; omega
    · have := hz.2
      rwa [hj, Int.toNat_natCast] at this

/-- A triangle. -/
theorem tri_vi (hI : WkI pl base p TB s w R (f + 1) k W) (hspo : sp.Ok (9216 * k)) (hrun : playFrom s (f + 1) k sp = R) (hout : sp.out.length ≤ k) (hj : lenAt s k = (j : Int)) (hkj : k + 1 + j ≤ s.size) (hk : k < s.size) (h9 : byteAt s k = 9) (hj27 : j = 27)
    {a : ByteArray} (ha : ArgsOf a (argsAt s (k + 1) j)) (hl3 : Low base W W3) (hs : s.size ≤ 100000000000)
    (hV : ∃ st cB zB sB A n ways shV outV L N, Dr base W3 p cB zB sB A n s ((k + 1 + j : Nat) : Int) ways shV outV st ∧ Wts base W3 ways st L N ∧ 28 * N ≤ k ∧ st.Ok (9216 * k) ∧ Near pl sp (virt L st) ∧ (pl → ways.v = 0)) :
    Calls Tryz.prog 59 #[.pointer (some ⟨p, 0, none⟩), .string a] W3 fun e w' => e = .returned (.int .i64 0) ∧ BkI pl base p TB s w R f k (k + 1 + j) 0 w' := by
  obtain ⟨hr2, hok2, ho2, ho3⟩ := one_step hrun hj hkj hk hspo hout
  obtain ⟨st, cB, zB, sB, A, n, ways, shV, outV, L, N, hd, hw, hN, hok, hn, hv⟩ := hV
  have hVk : (virt L st).Ok (9216 * k) := hn.ok hspo (hw.work0 hok)
  rw [h9] at hr2 hok2 ho2 ho3
  have hlen : (argsAt s (k + 1) j).length = 27 := by rw [← hj27]; simp [argsAt]
  refine (drawTriangle_in base p cB zB sB A n s _ ways shV outV st a W3 pl (fun e x => by rw [hv e]; exact useB_zero x) hd L N hw (by omega) _ hok hVk (by omega) _ ha hlen).mono ?_
  have hc : ∀ z : St, z.cmd 9 (argsAt s (k + 1) j) = (z.tri (cornerOf (argsAt s (k + 1) j) 0) (cornerOf (argsAt s (k + 1) j) 9) (cornerOf (argsAt s (k + 1) j) 18), 0) := fun z => by simp [St.cmd, badB, St.does]
  rw [hc] at hr2 hok2 ho2 ho3 ⊢
  rintro e w' ⟨rfl, ways', st', L', hd', hv', hw', hn', hst, hwk, hl'⟩
  rw [if_pos rfl] at hr2
  have hnn : Near pl (sp.tri (cornerOf (argsAt s (k + 1) j) 0) (cornerOf (argsAt s (k + 1) j) 9) (cornerOf (argsAt s (k + 1) j) 18)) (virt L' st') := (hn.tri _ _ _).trans hn'
  have hl : Low base W w' := hl3.trans hl'
  refine ⟨rfl, ⟨⟨_, ⟨⟨st', _, _, _, _, _, ways', _, _, L', N + 1, hd', hw', by omega, ?_, hnn, fun q => by rw [hv']; exact hv q⟩, hok2, by omega⟩, by rw [if_pos rfl]; exact hr2, ho2, fun e => absurd rfl e⟩, fun q => ?_, by have := hI.kf; omega, hkj, hl.tab _ _ hI.tab, hI.bel.trans hl.bel⟩⟩
  · rcases hst with rfl | rfl
    · exact Ok_mono hok (by push_cast; omega)
    · rw [virt_nil] at hnn
      have hw0 := hok.work0
      exact hnn.ok hok2 (by omega)
  · have hz := hI.zr q
    rw [zeroFrom] at hz
    rcases hz with hz | hz | hz
    · omega
    · rw [hj] at hz; omega
    · have := hz.2
      rwa [hj, Int.toNat_natCast] at this
end
end Go.Proofs.YthcikinkicpicaaGreatDoor
