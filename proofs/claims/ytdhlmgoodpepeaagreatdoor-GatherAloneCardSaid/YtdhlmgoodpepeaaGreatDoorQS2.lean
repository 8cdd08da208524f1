/-
  gather's pieces: who registers gather's pieces: who closes gather's pieces: who comes gather's pieces: who arrives, or leaves
-/
import Derived.Test.YtdhlmgoodpepeaaGreatDoorQS
namespace Go.Proofs.YtdhlmgoodpepeaaGreatDoor
set_option maxRecDepth 100000
open Go.RowKit Go.Shelf Go.Sort
set_option linter.unusedVariables false
set_option linter.unusedSimpArgs false

def regR (q : Int) (n : Int) : List (List In5) := [lookP (wrap64 (q + 11)), [(5, 2, 1, 16, 16), (1, 3, wrap64 (65535 - n), 0, 0), (12, 3, 2, wrap64 (q + 13), 0), (3, 4, 1, wrap64 (65537 * n), 0)], changeP q, [(5, 2, 1, 32, 31), (10, wrap64 (q + 14), 0, 0, 0)], answerP (-1) (wrap64 (q + 14)), [(1, 2, -3, 0, 0), (16, 3, 2, 0, 0)]]

set_option maxHeartbeats 2000000 in
theorem gareg_any (q : Int) (n : Int) (w : World) : Calls Tryz.prog 94 #[.int .i64 q, .int .i64 n] w (OwnOf (regR q n).flatten w) := by
  go_enter Tryz.func94, Tryz.ntmps94
  go_wp2_with fail
  refine (galook_any (wrap64 (q + 11)) _).mono ?_
  rintro e x1 ⟨A1, c1, rfl, hO1, hg1⟩
  have G1 := Lib.hid hg1
  have HO1 := Lib.hid hO1
  clear hg1 hO1
  go_wp2_with fail
  refine (gapart_any 2 1 _).mono ?_
  rintro e x2 ⟨rfl, hg2⟩
  have HO1' := Lib.hid (own_gr HO1.out hg2)
  have G2 := Lib.hid (gr_then G1.out hg2)
  clear hg2 HO1 G1
  go_wp2_with fail
  refine (gachange_any q _).mono ?_
  rintro e x3 ⟨A3, c3, rfl, hO3, hg3⟩
  have HL1 := Lib.hid (lit_gr hg3 [(5, 2, 1, 16, 16), (1, 3, wrap64 (65535 - n), 0, 0), (12, 3, 2, wrap64 (q + 13), 0), (3, 4, 1, wrap64 (65537 * n), 0)] 4 rfl rfl (by decide))
  have hh3 := gr_al hg3
  have HO1'' := Lib.hid (own_gr HO1'.out hh3)
  have G3 := Lib.hid (gr_then G2.out hh3)
  have HO3 := Lib.hid hO3
  clear hg3 hh3 HO1' G2 hO3
  go_wp2_with fail
  refine (gaphase_any 2 _).mono ?_
  rintro e x4 ⟨rfl, hg4⟩
  have HO1''' := Lib.hid (own_gr HO1''.out hg4)
  have HL1' := Lib.hid (HL1.out.gr hg4)
  have HO3' := Lib.hid (own_gr HO3.out hg4)
  have G4 := Lib.hid (gr_then G3.out hg4)
  clear hg4 HO1'' HL1 HO3 G3
  go_wp2_with fail
  refine (gaanswer_any (-1) (wrap64 (q + 14)) _).mono ?_
  rintro e x5 ⟨A5, c5, rfl, hO5, hg5⟩
  have HL3 := Lib.hid (lit_gr hg5 [(5, 2, 1, 32, 31), (10, wrap64 (q + 14), 0, 0, 0)] 2 rfl rfl (by decide))
  have hh5 := gr_al hg5
  have HO1'''' := Lib.hid (own_gr HO1'''.out hh5)
  have HL1'' := Lib.hid (HL1'.out.gr hh5)
  have HO3'' := Lib.hid (own_gr HO3'.out hh5)
  have G5 := Lib.hid (gr_then G4.out hh5)
  have HO5 := Lib.hid hO5
  clear hg5 hh5 HO1''' HL1' HO3' G4 hO5
  go_wp2_with fail
  refine (gatell_any 2 _).mono ?_
  rintro e x6 ⟨rfl, hg6⟩
  have HO1''''' := Lib.hid (own_gr HO1''''.out hg6)
  have HL1''' := Lib.hid (HL1''.out.gr hg6)
  have HO3''' := Lib.hid (own_gr HO3''.out hg6)
  have HL3' := Lib.hid (HL3.out.gr hg6)
  have HO5' := Lib.hid (own_gr HO5.out hg6)
  have G6 := Lib.hid (gr_then G5.out hg6)
  clear hg6 HO1'''' HL1'' HO3'' HL3 HO5 G5
  have hga := World.grownBy_alloc x6 (.cells #[.int .i64 1, .int .i64 2, .int .i64 (-3), .int .i64 0, .int .i64 0, .int .i64 16, .int .i64 3, .int .i64 2, .int .i64 0, .int .i64 0] 88) none
  have HW := Lib.hid (inss_lit (w := x6) (cs := #[.int .i64 1, .int .i64 2, .int .i64 (-3), .int .i64 0, .int .i64 0, .int .i64 16, .int .i64 3, .int .i64 2, .int .i64 0, .int .i64 0]) (l := [(1, 2, -3, 0, 0), (16, 3, 2, 0, 0)]) (n := 2) rfl rfl (by decide))
  have H1000 := Lib.hid (show (regR q n).flatten.length ≤ 1000 from Nat.le_of_ble_eq_true rfl)
  have HX := Lib.hid (show ∀ (vs : Array Value), (∃ c, vs[0]? = some (.slice A1 (lookP (wrap64 (q + 11))).length c)) → (∃ c, vs[1]? = some (.slice (some ⟨x2.heap.size, 0, none⟩) 4 c)) → (∃ c, vs[2]? = some (.slice A3 (changeP q).length c)) → (∃ c, vs[3]? = some (.slice (some ⟨x4.heap.size, 0, none⟩) 2 c)) → (∃ c, vs[4]? = some (.slice A5 (answerP (-1) (wrap64 (q + 14))).length c)) → (∃ c, vs[5]? = some (.slice (some ⟨x6.heap.size, 0, none⟩) 2 c)) → ∀ i, i < (regR q n).length → ∃ A c, vs[i]? = some (.slice A ((regR q n).getD i []).length c) ∧ Inss (x6.alloc (.cells #[.int .i64 1, .int .i64 2, .int .i64 (-3), .int .i64 0, .int .i64 0, .int .i64 16, .int .i64 3, .int .i64 2, .int .i64 0, .int .i64 0] 88)) (x6.alloc (.cells #[.int .i64 1, .int .i64 2, .int .i64 (-3), .int .i64 0, .int .i64 0, .int .i64 16, .int .i64 3, .int .i64 2, .int .i64 0, .int .i64 0] 88)).heap.size A ((regR q n).getD i []).length ((regR q n).getD i []) from fun vs ⟨d0, v0⟩ ⟨d1, v1⟩ ⟨d2, v2⟩ ⟨d3, v3⟩ ⟨d4, v4⟩ ⟨d5, v5⟩ i hi => by
    match i, hi with
    | 0, _ => exact ⟨_, _, v0, ((Inss.of_own HO1'''''.out rfl)).gr hga⟩
    | 1, _ => exact ⟨_, _, v1, (HL1'''.out).gr hga⟩
    | 2, _ => exact ⟨_, _, v2, ((Inss.of_own HO3'''.out rfl)).gr hga⟩
    | 3, _ => exact ⟨_, _, v3, (HL3'.out).gr hga⟩
    | 4, _ => exact ⟨_, _, v4, ((Inss.of_own HO5'.out rfl)).gr hga⟩
    | 5, _ => exact ⟨_, _, v5, HW.out⟩
    | i + 6, h => exact absurd h (by simp [regR]))
  have HGW := Lib.hid (gr_then G6.out hga)
  clear hga G6 HO1''''' HL1''' HO3''' HL3' HO5' HW
  go_wp2_with fail
  refine (concat_of (W := (x6.alloc (.cells #[.int .i64 1, .int .i64 2, .int .i64 (-3), .int .i64 0, .int .i64 0, .int .i64 16, .int .i64 3, .int .i64 2, .int .i64 0, .int .i64 0] 88))) (b := x6.heap.size + 1) (World.size_alloc _ _) (regR q n) 6 rfl rfl (HX.out _ ⟨_, rfl⟩ ⟨_, rfl⟩ ⟨_, rfl⟩ ⟨_, rfl⟩ ⟨_, rfl⟩ ⟨_, rfl⟩) (by decide) H1000.out).mono ?_
  rintro e y ⟨A, c, rfl, hO, hg⟩
  have HR := Lib.hid (And.intro (own_low hO HGW.out.size) (gr_then HGW.out hg))
  clear hO hg HX HGW H1000
  generalize (regR q n).flatten = L at *
  go_wp2
  go_ret
  exact ⟨_, _, rfl, HR.out.1, HR.out.2⟩
end Go.Proofs.YtdhlmgoodpepeaaGreatDoor

namespace Go.Proofs.YtdhlmgoodpepeaaGreatDoor
set_option maxRecDepth 100000
open Go.RowKit Go.Shelf Go.Sort
set_option linter.unusedVariables false
set_option linter.unusedSimpArgs false

def closeR (q : Int) : List (List In5) := [lookP (wrap64 (q + 9)), [(3, 4, 1, -9223372036854775808, 0)], changeP q, [(15, 0, 16, -1, 0)], answerP 0 (wrap64 (q + 10)), [(1, 2, -1, 0, 0), (16, 3, 2, 0, 0)]]

set_option maxHeartbeats 2000000 in
theorem gaclose_any (q : Int) (w : World) : Calls Tryz.prog 95 #[.int .i64 q] w (OwnOf (closeR q).flatten w) := by
  go_enter Tryz.func95, Tryz.ntmps95
  go_wp2_with fail
  refine (galook_any (wrap64 (q + 9)) _).mono ?_
  rintro e x1 ⟨A1, c1, rfl, hO1, hg1⟩
  have G1 := Lib.hid hg1
  have HO1 := Lib.hid hO1
  clear hg1 hO1
  go_wp2_with fail
  refine (gachange_any q _).mono ?_
  rintro e x2 ⟨A2, c2, rfl, hO2, hg2⟩
  have HL1 := Lib.hid (lit_gr hg2 [(3, 4, 1, -9223372036854775808, 0)] 1 rfl rfl (by decide))
  have hh2 := gr_al hg2
  have HO1' := Lib.hid (own_gr HO1.out hh2)
  have G2 := Lib.hid (gr_then G1.out hh2)
  have HO2 := Lib.hid hO2
  clear hg2 hh2 HO1 G1 hO2
  go_wp2_with fail
  refine (gawake_any _).mono ?_
  rintro e x3 ⟨rfl, hg3⟩
  have HO1'' := Lib.hid (own_gr HO1'.out hg3)
  have HL1' := Lib.hid (HL1.out.gr hg3)
  have HO2' := Lib.hid (own_gr HO2.out hg3)
  have G3 := Lib.hid (gr_then G2.out hg3)
  clear hg3 HO1' HL1 HO2 G2
  go_wp2_with fail
  refine (gaanswer_any 0 (wrap64 (q + 10)) _).mono ?_
  rintro e x4 ⟨A4, c4, rfl, hO4, hg4⟩
  have HL3 := Lib.hid (lit_gr hg4 [(15, 0, 16, -1, 0)] 1 rfl rfl (by decide))
  have hh4 := gr_al hg4
  have HO1''' := Lib.hid (own_gr HO1''.out hh4)
  have HL1'' := Lib.hid (HL1'.out.gr hh4)
  have HO2'' := Lib.hid (own_gr HO2'.out hh4)
  have G4 := Lib.hid (gr_then G3.out hh4)
  have HO4 := Lib.hid hO4
  clear hg4 hh4 HO1'' HL1' HO2' G3 hO4
  go_wp2_with fail
  refine (gatell_any 2 _).mono ?_
  rintro e x5 ⟨rfl, hg5⟩
  have HO1'''' := Lib.hid (own_gr HO1'''.out hg5)
  have HL1''' := Lib.hid (HL1''.out.gr hg5)
  have HO2''' := Lib.hid (own_gr HO2''.out hg5)
  have HL3' := Lib.hid (HL3.out.gr hg5)
  have HO4' := Lib.hid (own_gr HO4.out hg5)
  have G5 := Lib.hid (gr_then G4.out hg5)
  clear hg5 HO1''' HL1'' HO2'' HL3 HO4 G4
  have hga := World.grownBy_alloc x5 (.cells #[.int .i64 1, .int .i64 2, .int .i64 (-1), .int .i64 0, .int .i64 0, .int .i64 16, .int .i64 3, .int .i64 2, .int .i64 0, .int .i64 0] 88) none
  have HW := Lib.hid (inss_lit (w := x5) (cs := #[.int .i64 1, .int .i64 2, .int .i64 (-1), .int .i64 0, .int .i64 0, .int .i64 16, .int .i64 3, .int .i64 2, .int .i64 0, .int .i64 0]) (l := [(1, 2, -1, 0, 0), (16, 3, 2, 0, 0)]) (n := 2) rfl rfl (by decide))
  have H1000 := Lib.hid (show (closeR q).flatten.length ≤ 1000 from Nat.le_of_ble_eq_true rfl)
  have HX := Lib.hid (show ∀ (vs : Array Value), (∃ c, vs[0]? = some (.slice A1 (lookP (wrap64 (q + 9))).length c)) → (∃ c, vs[1]? = some (.slice (some ⟨x1.heap.size, 0, none⟩) 1 c)) → (∃ c, vs[2]? = some (.slice A2 (changeP q).length c)) → (∃ c, vs[3]? = some (.slice (some ⟨x3.heap.size, 0, none⟩) 1 c)) → (∃ c, vs[4]? = some (.slice A4 (answerP 0 (wrap64 (q + 10))).length c)) → (∃ c, vs[5]? = some (.slice (some ⟨x5.heap.size, 0, none⟩) 2 c)) → ∀ i, i < (closeR q).length → ∃ A c, vs[i]? = some (.slice A ((closeR q).getD i []).length c) ∧ Inss (x5.alloc (.cells #[.int .i64 1, .int .i64 2, .int .i64 (-1), .int .i64 0, .int .i64 0, .int .i64 16, .int .i64 3, .int .i64 2, .int .i64 0, .int .i64 0] 88)) (x5.alloc (.cells #[.int .i64 1, .int .i64 2, .int .i64 (-1), .int .i64 0, .int .i64 0, .int .i64 16, .int .i64 3, .int .i64 2, .int .i64 0, .int .i64 0] 88)).heap.size A ((closeR q).getD i []).length ((closeR q).getD i []) from fun vs ⟨d0, v0⟩ ⟨d1, v1⟩ ⟨d2, v2⟩ ⟨d3, v3⟩ ⟨d4, v4⟩ ⟨d5, v5⟩ i hi => by
    match i, hi with
    | 0, _ => exact ⟨_, _, v0, ((Inss.of_own HO1''''.out rfl)).gr hga⟩
    | 1, _ => exact ⟨_, _, v1, (HL1'''.out).gr hga⟩
    | 2, _ => exact ⟨_, _, v2, ((Inss.of_own HO2'''.out rfl)).gr hga⟩
    | 3, _ => exact ⟨_, _, v3, (HL3'.out).gr hga⟩
    | 4, _ => exact ⟨_, _, v4, ((Inss.of_own HO4'.out rfl)).gr hga⟩
    | 5, _ => exact ⟨_, _, v5, HW.out⟩
    | i + 6, h => exact absurd h (by simp [closeR]))
  have HGW := Lib.hid (gr_then G5.out hga)
  clear hga G5 HO1'''' HL1''' HO2''' HL3' HO4' HW
  go_wp2_with fail
  refine (concat_of (W := (x5.alloc (.cells #[.int .i64 1, .int .i64 2, .int .i64 (-1), .int .i64 0, .int .i64 0, .int .i64 16, .int .i64 3, .int .i64 2, .int .i64 0, .int .i64 0] 88))) (b := x5.heap.size + 1) (World.size_alloc _ _) (closeR q) 6 rfl rfl (HX.out _ ⟨_, rfl⟩ ⟨_, rfl⟩ ⟨_, rfl⟩ ⟨_, rfl⟩ ⟨_, rfl⟩ ⟨_, rfl⟩) (by decide) H1000.out).mono ?_
  rintro e y ⟨A, c, rfl, hO, hg⟩
  have HR := Lib.hid (And.intro (own_low hO HGW.out.size) (gr_then HGW.out hg))
  clear hO hg HX HGW H1000
  generalize (closeR q).flatten = L at *
  go_wp2
  go_ret
  exact ⟨_, _, rfl, HR.out.1, HR.out.2⟩
end Go.Proofs.YtdhlmgoodpepeaaGreatDoor

namespace Go.Proofs.YtdhlmgoodpepeaaGreatDoor
set_option maxRecDepth 100000
open Go.RowKit Go.Shelf Go.Sort
set_option linter.unusedVariables false
set_option linter.unusedSimpArgs false

def comeR (q : Int) (m : Int) (t : Int) : List (List In5) := [lookP (wrap64 (q + 25)), [(5, 2, 1, 0, 16), (11, 2, 0, wrap64 (q + 27), 0), (3, 4, 1, m, 0), (11, 2, 1, wrap64 (q + 8), 0), (10, wrap64 (q + 18), 0, 0, 0)], goOnP (wrap64 (q + 8)) (wrap64 (q + 18)), changeP q, [(5, 5, 1, 32, 31), (11, 2, 1, wrap64 (q + 23), 0), (10, wrap64 (q + 29), 0, 0, 0), (15, 0, 16, -1, 0), (10, wrap64 (q + 29), 0, 0, 0)], answerP (-1) t, answerP (-2) t]

set_option maxHeartbeats 2000000 in
theorem gacome_any (q : Int) (m : Int) (t : Int) (w : World) : Calls Tryz.prog 130 #[.int .i64 q, .int .i64 m, .int .i64 t] w (OwnOf (comeR q m t).flatten w) := by
  go_enter Tryz.func130, Tryz.ntmps130
  go_wp2_with fail
  refine (galook_any (wrap64 (q + 25)) _).mono ?_
  rintro e x1 ⟨A1, c1, rfl, hO1, hg1⟩
  have G1 := Lib.hid hg1
  have HO1 := Lib.hid hO1
  clear hg1 hO1
  go_wp2_with fail
  refine (gawait_any _).mono ?_
  rintro e x2 ⟨rfl, hg2⟩
  have HO1' := Lib.hid (own_gr HO1.out hg2)
  have G2 := Lib.hid (gr_then G1.out hg2)
  clear hg2 HO1 G1
  go_wp2_with fail
  refine (gagoon_any (wrap64 (q + 8)) (wrap64 (q + 18)) _).mono ?_
  rintro e x3 ⟨A3, c3, rfl, hO3, hg3⟩
  have HL1 := Lib.hid (lit_gr hg3 [(5, 2, 1, 0, 16), (11, 2, 0, wrap64 (q + 27), 0), (3, 4, 1, m, 0), (11, 2, 1, wrap64 (q + 8), 0), (10, wrap64 (q + 18), 0, 0, 0)] 5 rfl rfl (by decide))
  have hh3 := gr_al hg3
  have HO1'' := Lib.hid (own_gr HO1'.out hh3)
  have G3 := Lib.hid (gr_then G2.out hh3)
  have HO3 := Lib.hid hO3
  clear hg3 hh3 HO1' G2 hO3
  go_wp2_with fail
  refine (gachange_any q _).mono ?_
  rintro e x4 ⟨A4, c4, rfl, hO4, hg4⟩
  have HO1''' := Lib.hid (own_gr HO1''.out hg4)
  have HL1' := Lib.hid (HL1.out.gr hg4)
  have HO3' := Lib.hid (own_gr HO3.out hg4)
  have G4 := Lib.hid (gr_then G3.out hg4)
  have HO4 := Lib.hid hO4
  clear hg4 HO1'' HL1 HO3 G3 hO4
  go_wp2_with fail
  refine (gaphase_any 5 _).mono ?_
  rintro e x5 ⟨rfl, hg5⟩
  have HO1'''' := Lib.hid (own_gr HO1'''.out hg5)
  have HL1'' := Lib.hid (HL1'.out.gr hg5)
  have HO3'' := Lib.hid (own_gr HO3'.out hg5)
  have HO4' := Lib.hid (own_gr HO4.out hg5)
  have G5 := Lib.hid (gr_then G4.out hg5)
  clear hg5 HO1''' HL1' HO3' HO4 G4
  go_wp2_with fail
  refine (gawake_any _).mono ?_
  rintro e x6 ⟨rfl, hg6⟩
  have HO1''''' := Lib.hid (own_gr HO1''''.out hg6)
  have HL1''' := Lib.hid (HL1''.out.gr hg6)
  have HO3''' := Lib.hid (own_gr HO3''.out hg6)
  have HO4'' := Lib.hid (own_gr HO4'.out hg6)
  have G6 := Lib.hid (gr_then G5.out hg6)
  clear hg6 HO1'''' HL1'' HO3'' HO4' G5
  go_wp2_with fail
  refine (gaanswer_any (-1) t _).mono ?_
  rintro e x7 ⟨A7, c7, rfl, hO7, hg7⟩
  have HL4 := Lib.hid (lit_gr hg7 [(5, 5, 1, 32, 31), (11, 2, 1, wrap64 (q + 23), 0), (10, wrap64 (q + 29), 0, 0, 0), (15, 0, 16, -1, 0), (10, wrap64 (q + 29), 0, 0, 0)] 5 rfl rfl (by decide))
  have hh7 := gr_al hg7
  have HO1'''''' := Lib.hid (own_gr HO1'''''.out hh7)
  have HL1'''' := Lib.hid (HL1'''.out.gr hh7)
  have HO3'''' := Lib.hid (own_gr HO3'''.out hh7)
  have HO4''' := Lib.hid (own_gr HO4''.out hh7)
  have G7 := Lib.hid (gr_then G6.out hh7)
  have HO7 := Lib.hid hO7
  clear hg7 hh7 HO1''''' HL1''' HO3''' HO4'' G6 hO7
  go_wp2_with fail
  refine (gaanswer_any (-2) t _).mono ?_
  rintro e x8 ⟨A8, c8, rfl, hO8, hg8⟩
  have HO1''''''' := Lib.hid (own_gr HO1''''''.out hg8)
  have HL1''''' := Lib.hid (HL1''''.out.gr hg8)
  have HO3''''' := Lib.hid (own_gr HO3''''.out hg8)
  have HO4'''' := Lib.hid (own_gr HO4'''.out hg8)
  have HL4' := Lib.hid (HL4.out.gr hg8)
  have HO7' := Lib.hid (own_gr HO7.out hg8)
  have G8 := Lib.hid (gr_then G7.out hg8)
  have HO8 := Lib.hid hO8
  clear hg8 HO1'''''' HL1'''' HO3'''' HO4''' HL4 HO7 G7 hO8
  have H1000 := Lib.hid (show (comeR q m t).flatten.length ≤ 1000 from Nat.le_of_ble_eq_true rfl)
  have HX := Lib.hid (show ∀ (vs : Array Value), (∃ c, vs[0]? = some (.slice A1 (lookP (wrap64 (q + 25))).length c)) → (∃ c, vs[1]? = some (.slice (some ⟨x2.heap.size, 0, none⟩) 5 c)) → (∃ c, vs[2]? = some (.slice A3 (goOnP (wrap64 (q + 8)) (wrap64 (q + 18))).length c)) → (∃ c, vs[3]? = some (.slice A4 (changeP q).length c)) → (∃ c, vs[4]? = some (.slice (some ⟨x6.heap.size, 0, none⟩) 5 c)) → (∃ c, vs[5]? = some (.slice A7 (answerP (-1) t).length c)) → (∃ c, vs[6]? = some (.slice A8 (answerP (-2) t).length c)) → ∀ i, i < (comeR q m t).length → ∃ A c, vs[i]? = some (.slice A ((comeR q m t).getD i []).length c) ∧ Inss x8 x8.heap.size A ((comeR q m t).getD i []).length ((comeR q m t).getD i []) from fun vs ⟨d0, v0⟩ ⟨d1, v1⟩ ⟨d2, v2⟩ ⟨d3, v3⟩ ⟨d4, v4⟩ ⟨d5, v5⟩ ⟨d6, v6⟩ i hi => by
    match i, hi with
    | 0, _ => exact ⟨_, _, v0, (Inss.of_own HO1'''''''.out rfl)⟩
    | 1, _ => exact ⟨_, _, v1, HL1'''''.out⟩
    | 2, _ => exact ⟨_, _, v2, (Inss.of_own HO3'''''.out rfl)⟩
    | 3, _ => exact ⟨_, _, v3, (Inss.of_own HO4''''.out rfl)⟩
    | 4, _ => exact ⟨_, _, v4, HL4'.out⟩
    | 5, _ => exact ⟨_, _, v5, (Inss.of_own HO7'.out rfl)⟩
    | 6, _ => exact ⟨_, _, v6, (Inss.of_own HO8.out rfl)⟩
    | i + 7, h => exact absurd h (by simp [comeR]))
  clear HO1''''''' HL1''''' HO3''''' HO4'''' HL4' HO7' HO8
  go_wp2_with fail
  refine (concat_of (W := x8) (b := x8.heap.size) rfl (comeR q m t) 7 rfl rfl (HX.out _ ⟨_, rfl⟩ ⟨_, rfl⟩ ⟨_, rfl⟩ ⟨_, rfl⟩ ⟨_, rfl⟩ ⟨_, rfl⟩ ⟨_, rfl⟩) (by decide) H1000.out).mono ?_
  rintro e y ⟨A, c, rfl, hO, hg⟩
  have HR := Lib.hid (And.intro (own_low hO G8.out.size) (gr_then G8.out hg))
  clear hO hg HX G8 H1000
  generalize (comeR q m t).flatten = L at *
  go_wp2
  go_ret
  exact ⟨_, _, rfl, HR.out.1, HR.out.2⟩
end Go.Proofs.YtdhlmgoodpepeaaGreatDoor

namespace Go.Proofs.YtdhlmgoodpepeaaGreatDoor
set_option maxRecDepth 100000
open Go.RowKit Go.Shelf Go.Sort
set_option linter.unusedVariables false
set_option linter.unusedSimpArgs false

def arriveP (q : Int) (m : Int) : List In5 := (comeR q m (wrap64 (q + 30))).flatten ++ [(2, 2, 5, 0, 0), (16, 3, 2, 0, 0)]

set_option maxHeartbeats 2000000 in
theorem gaarr_any (q : Int) (m : Int) (w : World) : Calls Tryz.prog 98 #[.int .i64 q, .int .i64 m] w (OwnOf (arriveP q m) w) := by
  go_enter Tryz.func98, Tryz.ntmps98
  go_wp2_with fail
  refine (gacome_any q m (wrap64 (q + 30)) _).mono ?_
  rintro e x1 ⟨A1, c1, rfl, hO1, hg1⟩
  have G1 := Lib.hid hg1
  have HO1 := Lib.hid hO1
  clear hg1 hO1
  go_wp2_with fail
  refine (gatell_any 2 _).mono ?_
  rintro e x2 ⟨rfl, hg2⟩
  have HO1' := Lib.hid (own_gr HO1.out hg2)
  have G2 := Lib.hid (gr_then G1.out hg2)
  clear hg2 HO1 G1
  have hga := World.grownBy_alloc x2 (.cells #[.int .i64 2, .int .i64 2, .int .i64 5, .int .i64 0, .int .i64 0, .int .i64 16, .int .i64 3, .int .i64 2, .int .i64 0, .int .i64 0] 88) none
  have hI := inss_lit (w := x2) (cs := #[.int .i64 2, .int .i64 2, .int .i64 5, .int .i64 0, .int .i64 0, .int .i64 16, .int .i64 3, .int .i64 2, .int .i64 0, .int .i64 0]) (l := [(2, 2, 5, 0, 0), (16, 3, 2, 0, 0)]) (n := 2) rfl rfl (by decide)
  have ho := own_low (own_gr HO1'.out hga) (show w.heap.size ≤ _ from Nat.le_refl _)
  obtain ⟨v3, y, hr, hO, hg⟩ := run_appendP (c := 2) ho hI (Nat.le_of_ble_eq_true rfl) (by rw [World.size_alloc]; have := G2.out.size; omega) 82
  have hgg := (gr_then G2.out hga).andThen hg (fun k hk => .inl (ho.lt k hk).1)
  obtain ⟨A, c, rfl⟩ := slice_of_own hO
  have HRn := Lib.hid hr
  have HR := Lib.hid (And.intro hO hgg)
  clear hr hO hg hgg ho hI hga G2 HO1'
  go_wp2_with (at_builtin; refine Lib.wpList_append_run _ rfl _ _ _ _ rfl _ _ rfl rfl _ _ HRn.out ?_; clear HRn)
  go_ret
  exact ⟨_, _, rfl, HR.out.1, HR.out.2⟩
end Go.Proofs.YtdhlmgoodpepeaaGreatDoor
