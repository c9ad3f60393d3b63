import Derived.Test.YthcikinkicpicaaGreatDoorA10

namespace Go.Proofs.YthcikinkicpicaaGreatDoor
open Go.RowKit

/-- A part of a body, by its number. -/
def regionNo (n : Nat) : Code → Option Code
  | .region i o b => if i = n then some (.region i o b) else none
  | .loop c => regionNo n c
  | .seq a b => match regionNo n a with
    | some c => some c
    | none => regionNo n b
  | .block _ c => regionNo n c
  | .scope c => regionNo n c
  | .cond _ a b => match regionNo n a with
    | some c => some c
    | none => regionNo n b
  | _ => none
noncomputable def bndR5 : Code := ((Tryz.f116.body.bind (regionNo 5)).getD .skip)

set_option maxRecDepth 100000 in
set_option maxHeartbeats 16000000 in
theorem bnd_reg5 (C D : Nat) (l h m n x y r g b d : Int) (wr : World) (u0 u1 u2 u5 u7 u8 u9 u10 u11 u12 u13 u14 u15 u16 u17 u18 u19 u20 u21 u22 u23 u24 u25 u26 u27 u28 u29 u30 u31 u32 u33 u34 u35 u36 u37 u38 u39 u40 u41 u42 u43 u44 u45 u46 u47 u48 u49 u50 u51 u52 u53 u54 u55 u56 u57 u58 u59 : Value)
    (c0 : wr.cell? ⟨C, 0, none⟩ = some (.int .i64 l)) (c1 : wr.cell? ⟨C, 1, none⟩ = some (.int .i64 h)) (d0 : wr.cell? ⟨D, 0, none⟩ = some (.int .i64 m)) (d1 : wr.cell? ⟨D, 1, none⟩ = some (.int .i64 n)) (lC : C < wr.heap.size) (lD : D < wr.heap.size) (hne : C ≠ D)
    (fC : ∀ o, wr.frozen? ⟨C, o, none⟩ = false) (fD : ∀ o, wr.frozen? ⟨D, o, none⟩ = false) :
    Code.wp Tryz.prog bndR5 (Exit.then (fun a' W => (∃ v34 v35 v36 v37 v38 v39 v40 v41 v42 v43, a' = ⟨#[u0, u1, u2, .pointer (some ⟨C, 0, none⟩), .pointer (some ⟨D, 0, none⟩), u5, .pointer (some ⟨wr.heap.size, 0, none⟩), u7, u8, u9, u10, u11, u12, u13, u14, u15, u16, u17, u18, u19, u20, u21, u22, u23, u24, u25, u26, u27, u28, u29, u30, u31, u32, u33, v34, v35, v36, v37, v38, v39, v40, v41, v42, v43, u44, u45, u46, u47, u48, u49, u50, u51, u52, u53, u54, u55, u56, u57, u58, u59], []⟩) ∧ Below wr.heap.size ((((wr.setCell ⟨C, 0, none⟩ (.int .i64 (mn l x))).setCell ⟨C, 1, none⟩ (.int .i64 (mx h x))).setCell ⟨D, 0, none⟩ (.int .i64 (mn m y))).setCell ⟨D, 1, none⟩ (.int .i64 (mx n y))) W) (fun _ _ _ => False)) ⟨#[u0, u1, u2, .pointer (some ⟨C, 0, none⟩), .pointer (some ⟨D, 0, none⟩), u5, .pointer (some ⟨wr.heap.size, 0, none⟩), u7, u8, u9, u10, u11, u12, u13, u14, u15, u16, u17, u18, u19, u20, u21, u22, u23, u24, u25, u26, u27, u28, u29, u30, u31, u32, u33, u34, u35, u36, u37, u38, u39, u40, u41, u42, u43, u44, u45, u46, u47, u48, u49, u50, u51, u52, u53, u54, u55, u56, u57, u58, u59], []⟩ (wr.alloc (.cells #[.int .i64 x, .int .i64 y, .int .i64 r, .int .i64 g, .int .i64 b, .int .i64 d] 162)) := by
  have HW : Hid (∀ l h n W, Calls Tryz.prog 136 #[spn64 l h, .int .i64 n] W fun e w' => e = .returned (spn64 (mn l n) (mx h n)) ∧ w' = (W.alloc (.cells #[.int .i64 l, .int .i64 h] 235)).alloc (.cells #[.int .i64 (mn l n), .int .i64 (mx h n)] 235)) := with64x
  have p1 : C < wr.heap.size + 1 := by omega
  have q1 : D < wr.heap.size + 1 := by omega
  have p2 : C < wr.heap.size + 2 := by omega
  have q2 : D < wr.heap.size + 2 := by omega
  have p3 : C < wr.heap.size + 3 := by omega
  have q3 : D < wr.heap.size + 3 := by omega
  have p4 : C < wr.heap.size + 4 := by omega
  have q4 : D < wr.heap.size + 4 := by omega
  have p5 : C < wr.heap.size + 5 := by omega
  have q5 : D < wr.heap.size + 5 := by omega
  have n1 : wr.heap.size ≠ C := by omega
  have n2 : wr.heap.size ≠ D := by omega
  conv => arg 2; whnf
  go_region_with (go_at_call 136; refine (HW.out _ _ _ _).mono ?_; rintro e w2 ⟨rfl, rfl⟩)
  all_goals
    refine ⟨⟨_, _, _, _, _, _, _, _, _, _, rfl⟩, ?_⟩
    repeat (first | with_reducible exact Below.refl _ _ | with_reducible refine Below.drew ?_ | (with_reducible refine Below.alloc ?_ (by first | exact Nat.le_refl _ | (simp; done) | (simp; omega)) _))
end Go.Proofs.YthcikinkicpicaaGreatDoor
