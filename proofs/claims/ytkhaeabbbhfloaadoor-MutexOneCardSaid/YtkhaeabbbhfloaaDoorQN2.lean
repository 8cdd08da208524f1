/-
  Programs that ask for calls without a number: ask.Bare. Programs of locks: the pieces of mutex and ticket.
-/
import Derived.Test.YtkhaeabbbhfloaaDoorQN
namespace Go.Proofs.YtkhaeabbbhfloaaDoor
set_option maxRecDepth 100000
open Go.RowKit Go.Shelf Go.Sort
set_option linter.unusedVariables false
set_option linter.unusedSimpArgs false

set_option maxHeartbeats 1000000 in
theorem bare1_any {l : List In5} (a : Int) (ha : (Lit.int .i64 a).wf = true) (c : Nat) (eg : ∀ args W, (callFunc c args).run Tryd.prog W = .ok (.enter c args) W) (p : Nat) {w : World} (pb mb m : Nat) (f : Int → Option Nat) (hp : pb < w.heap.size) (hc : w.cell? ⟨pb, 0, none⟩ = some (.map (some mb))) (hm : FM w mb m f) (hf : f a = some c)
    (HP : ∀ w, Calls Tryd.prog c #[.int .i64 (p : Nat)] w (OwnOf l w)) :
    Calls Tryd.prog 63 #[.agg #[.int .i64 a, .int .i64 0], .int .i64 (p : Nat), .pointer (some ⟨pb, 0, none⟩)] w (CallOf l w) := by
  have hb := World.grownBy_alloc w (.cells #[.int .i64 a, .int .i64 0] 55) none
  have HG := Lib.hid hb
  have hpc : (w.alloc (.cells #[.int .i64 a, .int .i64 0] 55)).cell? ⟨pb, 0, none⟩ = some (.map (some mb)) := (World.cell?_of_block (a := ⟨pb, 0, none⟩) (hb.block pb hp (by simp))).trans hc
  have hlk := (hm.block (hb.block mb hm.lt (by simp))).look a ha c hf
  clear hm hb hc hp
  go_enter Tryd.func63, Tryd.ntmps63
  go_wp2_with fail
  --MA
  refine (HP _).mono ?_
  rintro e w1 ⟨A, c1, rfl, hO, hg⟩
  have HI := Lib.hid (And.intro (Inss.of_own hO rfl) (gr_then HG.out hg))
  clear hO hg HG hpc hlk
  go_wp2
  go_ret2
  exact ⟨A, c1, rfl, HI.out.1, HI.out.2⟩

set_option maxHeartbeats 1000000 in
/-- What is put together of calls that have pieces. -/
theorem bare_any {κ : Type} (F : Fam κ) (enc : κ → Int × Int) (fs : κ → Nat) (eg : ∀ c args W, (callFunc (fs c) args).run Tryd.prog W = .ok (.enter (fs c) args) W) (hwf : ∀ c, (Lit.int .i64 (enc c).1).wf = true) (h0 : ∀ c, (enc c).2 = 0)
    (HP : ∀ (c : κ) (p : Nat), p ≤ 1000 → ∀ w, Calls Tryd.prog (fs c) #[.int .i64 (p : Nat)] w (OwnOf (F.code c p) w))
    (hF : ∀ c, F.len c ≤ 40) (L : List κ) (hL : L.length ≤ 12) {w : World} (A : Option Addr) (n cap : Nat) (hR : CRow w w.heap.size A n (L.map enc)) (mb m : Nat) (f : Int → Option Nat) (hm : FM w mb m f) (hf : ∀ c, f (enc c).1 = some (fs c)) :
    Calls Tryd.prog 43 #[.slice A n cap, .map (some mb)] w (WholeOf F L w) := by
  have hb := (Below.refl w.heap.size w).alloc (Nat.le_refl _) (.cells #[.map (some mb)] 92)
  have HB := Lib.hid hb
  have HA := Lib.hid (acodeB_any F enc 63 #[.pointer (some ⟨w.heap.size, 0, none⟩)] (enter_ask Tryd.func63 (by kernel_rfl) (by kernel_rfl)) hF L hL (w := w.alloc (.cells #[.map (some mb)] 92)) A n cap ((hR.below hb).wide hb.size) fun c hc p hp w1 hb1 => by
    rw [h0 c]
    have hat := heap_alloc_new w (.cells #[.map (some mb)] 92)
    have hsz : w.heap.size < (w.alloc (.cells #[.map (some mb)] 92)).heap.size := by rw [World.size_alloc]; omega
    refine bare1_any (l := F.code c p) (enc c).1 (hwf c) (fs c) (eg c) p w.heap.size mb m f (Nat.lt_of_lt_of_le hsz hb1.size) ?_ (hm.block ((hb1.block mb (Nat.lt_trans hm.lt hsz)).trans (hb.block mb hm.lt))) (hf c) (HP c p hp)
    exact (World.cell?_of_block (a := ⟨w.heap.size, 0, none⟩) (hb1.block w.heap.size hsz)).trans ((cell_of_row _ _ 0 _ _ _ hat).trans rfl))
  clear hb hR hm
  go_enter Tryd.func43, Tryd.ntmps43
  go_wp2_with fail
  --MB
  refine HA.out.mono ?_
  rintro e w1 ⟨A', c', rfl, ho, hb1⟩
  have HO := Lib.hid (And.intro (own_low ho HB.out.size) (HB.out.trans (hb1.mono HB.out.size)))
  clear ho hb1 HA HB
  go_wp2
  go_ret2
  exact ⟨A', c', rfl, HO.out⟩
end Go.Proofs.YtkhaeabbbhfloaaDoor

namespace Go.Proofs.YtkhaeabbbhfloaaDoor
set_option maxRecDepth 100000
open Go.RowKit Go.Shelf Go.Sort
set_option linter.unusedVariables false
set_option linter.unusedSimpArgs false

theorem aktell_any (r : Int) (w : World) : Calls Tryd.prog 66 #[.int .i64 r] w (OneOf (16, 3, r, 0, 0) w) := atell_any r w

set_option maxHeartbeats 400000 in
theorem akwake_any (k : Int) (w : World) : Calls Tryd.prog 75 #[.int .i64 k] w (OneOf (15, k, 16, -1, 0) w) := by
  have HG := Lib.hid (World.grownBy_alloc w (.cells #[.int .i64 15, .int .i64 k, .int .i64 16, .int .i64 (-1), .int .i64 0] 89) none)
  show Calls Tryd.prog 75 _ w fun e w' => e = .returned (.agg #[.int .i64 15, .int .i64 k, .int .i64 16, .int .i64 (-1), .int .i64 0]) ∧ w.grownBy w' none
  go_enter Tryd.func75, Tryd.ntmps75
  go_wp2
  refine bodyPost_ret (v := .agg #[.int .i64 15, .int .i64 k, .int .i64 16, .int .i64 (-1), .int .i64 0]) ?_ rfl ⟨rfl, HG.out⟩
  exact results_cell_row (fn := Tryd.f75) (p := 2) (ty := 89) (g := w.heap.size) (t := 89) (cs := #[.int .i64 15, .int .i64 k, .int .i64 16, .int .i64 (-1), .int .i64 0]) (fr := (0, 0)) (by kernel_rfl) _ _ (d := _) (by rfl) (heap_alloc_new w _) Tryd.underlying89 rfl (by kernel_rfl)

def chgP (k : Int) (f : Int) (t : Int) (q : Int) : List In5 := [(9, 3, k, f, t), (11, 3, 0, q, 0)]

set_option maxHeartbeats 2000000 in
theorem akchange_any (k : Int) (f : Int) (t : Int) (q : Int) (w : World) : Calls Tryd.prog 67 #[.int .i64 k, .int .i64 f, .int .i64 t, .int .i64 q] w (OwnOf (chgP k f t q) w) := by
  go_enter Tryd.func67, Tryd.ntmps67
  have HO := Lib.hid (own_lit (w := w) (cs := #[.int .i64 9, .int .i64 3, .int .i64 k, .int .i64 f, .int .i64 t, .int .i64 11, .int .i64 3, .int .i64 0, .int .i64 q, .int .i64 0]) (l := [(9, 3, k, f, t), (11, 3, 0, q, 0)]) (n := 2) rfl rfl (by decide) w.heap.size (Nat.le_refl _))
  have HG := Lib.hid (World.grownBy_alloc w (.cells #[.int .i64 9, .int .i64 3, .int .i64 k, .int .i64 f, .int .i64 t, .int .i64 11, .int .i64 3, .int .i64 0, .int .i64 q, .int .i64 0] 89) none)
  go_wp2
  go_ret
  exact ⟨_, _, rfl, HO.out, HG.out⟩

def mxAwaitR (q : Int) : List (List In5) := [[(6, 1, 0, 0, 0), (11, 1, 0, wrap64 (q + 7), 0), (11, 1, 2, wrap64 (q + 5), 0)], chgP 0 6 4 q, [(14, 0, 4, 0, 0), (10, q, 0, 0, 0)], chgP 0 5 4 q]

set_option maxHeartbeats 2000000 in
theorem mxawait_any (q : Int) (w : World) : Calls Tryd.prog 65 #[.int .i64 q] w (OwnOf (mxAwaitR q).flatten w) := by
  go_enter Tryd.func65, Tryd.ntmps65
  go_wp2_with fail
  refine (akchange_any 0 6 4 q _).mono ?_
  rintro e x1 ⟨A1, c1, rfl, hO1, hg1⟩
  have HL0 := Lib.hid (lit_gr hg1 [(6, 1, 0, 0, 0), (11, 1, 0, wrap64 (q + 7), 0), (11, 1, 2, wrap64 (q + 5), 0)] 3 rfl rfl (by decide))
  have hh1 := gr_al hg1
  have G1 := Lib.hid hh1
  have HO1 := Lib.hid hO1
  clear hg1 hh1 hO1
  go_wp2_with fail
  refine (akchange_any 0 5 4 q _).mono ?_
  rintro e x2 ⟨A2, c2, rfl, hO2, hg2⟩
  have HL2 := Lib.hid (lit_gr hg2 [(14, 0, 4, 0, 0), (10, q, 0, 0, 0)] 2 rfl rfl (by decide))
  have hh2 := gr_al hg2
  have HL0' := Lib.hid (HL0.out.gr hh2)
  have HO1' := Lib.hid (own_gr HO1.out hh2)
  have G2 := Lib.hid (gr_then G1.out hh2)
  have HO2 := Lib.hid hO2
  clear hg2 hh2 HL0 HO1 G1 hO2
  have H1000 := Lib.hid (show (mxAwaitR q).flatten.length ≤ 1000 from Nat.le_of_ble_eq_true rfl)
  have HX := Lib.hid (show ∀ (vs : Array Value), (∃ c, vs[0]? = some (.slice (some ⟨w.heap.size, 0, none⟩) 3 c)) → (∃ c, vs[1]? = some (.slice A1 (chgP 0 6 4 q).length c)) → (∃ c, vs[2]? = some (.slice (some ⟨x1.heap.size, 0, none⟩) 2 c)) → (∃ c, vs[3]? = some (.slice A2 (chgP 0 5 4 q).length c)) → ∀ i, i < (mxAwaitR q).length → ∃ A c, vs[i]? = some (.slice A ((mxAwaitR q).getD i []).length c) ∧ Inss x2 x2.heap.size A ((mxAwaitR q).getD i []).length ((mxAwaitR q).getD i []) from fun vs ⟨d0, v0⟩ ⟨d1, v1⟩ ⟨d2, v2⟩ ⟨d3, v3⟩ i hi => by
    match i, hi with
    | 0, _ => exact ⟨_, _, v0, HL0'.out⟩
    | 1, _ => exact ⟨_, _, v1, (Inss.of_own HO1'.out rfl)⟩
    | 2, _ => exact ⟨_, _, v2, HL2.out⟩
    | 3, _ => exact ⟨_, _, v3, (Inss.of_own HO2.out rfl)⟩
    | i + 4, h => exact absurd h (by simp [mxAwaitR]))
  clear HL0' HO1' HL2 HO2
  go_wp2_with fail
  refine (concat_of (W := x2) (b := x2.heap.size) rfl (mxAwaitR q) 4 rfl rfl (HX.out _ ⟨_, rfl⟩ ⟨_, rfl⟩ ⟨_, rfl⟩ ⟨_, rfl⟩) (by decide) H1000.out).mono ?_
  rintro e y ⟨A, c, rfl, hO, hg⟩
  have HR := Lib.hid (And.intro (own_low hO G2.out.size) (gr_then G2.out hg))
  clear hO hg HX G2 H1000
  generalize (mxAwaitR q).flatten = L at *
  go_wp2
  go_ret
  exact ⟨_, _, rfl, HR.out.1, HR.out.2⟩

def mxLockR (q : Int) : List (List In5) := [[(1, 5, 0, 0, 0), (1, 6, 1, 0, 0), (1, 4, 2, 0, 0), (9, 3, 0, 5, 6), (11, 3, 1, wrap64 (q + 14), 0)], (mxAwaitR (wrap64 (q + 5))).flatten, [(16, 3, 5, 0, 0)]]

set_option maxHeartbeats 2000000 in
theorem mxlock_any (q : Int) (w : World) : Calls Tryd.prog 44 #[.int .i64 q] w (OwnOf (mxLockR q).flatten w) := by
  go_enter Tryd.func44, Tryd.ntmps44
  go_wp2_with fail
  refine (mxawait_any (wrap64 (q + 5)) _).mono ?_
  rintro e x1 ⟨A1, c1, rfl, hO1, hg1⟩
  have HL0 := Lib.hid (lit_gr hg1 [(1, 5, 0, 0, 0), (1, 6, 1, 0, 0), (1, 4, 2, 0, 0), (9, 3, 0, 5, 6), (11, 3, 1, wrap64 (q + 14), 0)] 5 rfl rfl (by decide))
  have hh1 := gr_al hg1
  have G1 := Lib.hid hh1
  have HO1 := Lib.hid hO1
  clear hg1 hh1 hO1
  go_wp2_with fail
  refine (aktell_any 5 _).mono ?_
  rintro e x2 ⟨rfl, hg2⟩
  have HL0' := Lib.hid (HL0.out.gr hg2)
  have HO1' := Lib.hid (own_gr HO1.out hg2)
  have G2 := Lib.hid (gr_then G1.out hg2)
  clear hg2 HL0 HO1 G1
  have hga := World.grownBy_alloc x2 (.cells #[.int .i64 16, .int .i64 3, .int .i64 5, .int .i64 0, .int .i64 0] 89) none
  have HW := Lib.hid (inss_lit (w := x2) (cs := #[.int .i64 16, .int .i64 3, .int .i64 5, .int .i64 0, .int .i64 0]) (l := [(16, 3, 5, 0, 0)]) (n := 1) rfl rfl (by decide))
  have H1000 := Lib.hid (show (mxLockR q).flatten.length ≤ 1000 from Nat.le_of_ble_eq_true rfl)
  have HX := Lib.hid (show ∀ (vs : Array Value), (∃ c, vs[0]? = some (.slice (some ⟨w.heap.size, 0, none⟩) 5 c)) → (∃ c, vs[1]? = some (.slice A1 ((mxAwaitR (wrap64 (q + 5))).flatten).length c)) → (∃ c, vs[2]? = some (.slice (some ⟨x2.heap.size, 0, none⟩) 1 c)) → ∀ i, i < (mxLockR q).length → ∃ A c, vs[i]? = some (.slice A ((mxLockR q).getD i []).length c) ∧ Inss (x2.alloc (.cells #[.int .i64 16, .int .i64 3, .int .i64 5, .int .i64 0, .int .i64 0] 89)) (x2.alloc (.cells #[.int .i64 16, .int .i64 3, .int .i64 5, .int .i64 0, .int .i64 0] 89)).heap.size A ((mxLockR q).getD i []).length ((mxLockR q).getD i []) from fun vs ⟨d0, v0⟩ ⟨d1, v1⟩ ⟨d2, v2⟩ i hi => by
    match i, hi with
    | 0, _ => exact ⟨_, _, v0, (HL0'.out).gr hga⟩
    | 1, _ => exact ⟨_, _, v1, ((Inss.of_own HO1'.out rfl)).gr hga⟩
    | 2, _ => exact ⟨_, _, v2, HW.out⟩
    | i + 3, h => exact absurd h (by simp [mxLockR]))
  have HGW := Lib.hid (gr_then G2.out hga)
  clear hga G2 HL0' HO1' HW
  go_wp2_with fail
  refine (concat_of (W := (x2.alloc (.cells #[.int .i64 16, .int .i64 3, .int .i64 5, .int .i64 0, .int .i64 0] 89))) (b := x2.heap.size + 1) (World.size_alloc _ _) (mxLockR q) 3 rfl rfl (HX.out _ ⟨_, rfl⟩ ⟨_, rfl⟩ ⟨_, rfl⟩) (by decide) H1000.out).mono ?_
  rintro e y ⟨A, c, rfl, hO, hg⟩
  have HR := Lib.hid (And.intro (own_low hO HGW.out.size) (gr_then HGW.out hg))
  clear hO hg HX HGW H1000
  generalize (mxLockR q).flatten = L at *
  go_wp2
  go_ret
  exact ⟨_, _, rfl, HR.out.1, HR.out.2⟩

def mxUnlockR (q : Int) : List (List In5) := [[(1, 5, 0, 0, 0), (6, 1, 0, 0, 0)], chgP 0 1 5 (wrap64 (q + 1)), [(11, 1, 2, wrap64 (q + 6), 0), (10, wrap64 (q + 7), 0, 0, 0), (15, 0, 1, -1, 0), (16, 3, 1, 0, 0)]]

set_option maxHeartbeats 2000000 in
theorem mxunlock_any (q : Int) (w : World) : Calls Tryd.prog 45 #[.int .i64 q] w (OwnOf (mxUnlockR q).flatten w) := by
  go_enter Tryd.func45, Tryd.ntmps45
  go_wp2_with fail
  refine (akchange_any 0 1 5 (wrap64 (q + 1)) _).mono ?_
  rintro e x1 ⟨A1, c1, rfl, hO1, hg1⟩
  have HL0 := Lib.hid (lit_gr hg1 [(1, 5, 0, 0, 0), (6, 1, 0, 0, 0)] 2 rfl rfl (by decide))
  have hh1 := gr_al hg1
  have G1 := Lib.hid hh1
  have HO1 := Lib.hid hO1
  clear hg1 hh1 hO1
  go_wp2_with fail
  refine (aktell_any 1 _).mono ?_
  rintro e x2 ⟨rfl, hg2⟩
  have HL0' := Lib.hid (HL0.out.gr hg2)
  have HO1' := Lib.hid (own_gr HO1.out hg2)
  have G2 := Lib.hid (gr_then G1.out hg2)
  clear hg2 HL0 HO1 G1
  have hga := World.grownBy_alloc x2 (.cells #[.int .i64 11, .int .i64 1, .int .i64 2, .int .i64 (wrap64 (q + 6)), .int .i64 0, .int .i64 10, .int .i64 (wrap64 (q + 7)), .int .i64 0, .int .i64 0, .int .i64 0, .int .i64 15, .int .i64 0, .int .i64 1, .int .i64 (-1), .int .i64 0, .int .i64 16, .int .i64 3, .int .i64 1, .int .i64 0, .int .i64 0] 89) none
  have HW := Lib.hid (inss_lit (w := x2) (cs := #[.int .i64 11, .int .i64 1, .int .i64 2, .int .i64 (wrap64 (q + 6)), .int .i64 0, .int .i64 10, .int .i64 (wrap64 (q + 7)), .int .i64 0, .int .i64 0, .int .i64 0, .int .i64 15, .int .i64 0, .int .i64 1, .int .i64 (-1), .int .i64 0, .int .i64 16, .int .i64 3, .int .i64 1, .int .i64 0, .int .i64 0]) (l := [(11, 1, 2, wrap64 (q + 6), 0), (10, wrap64 (q + 7), 0, 0, 0), (15, 0, 1, -1, 0), (16, 3, 1, 0, 0)]) (n := 4) rfl rfl (by decide))
  have H1000 := Lib.hid (show (mxUnlockR q).flatten.length ≤ 1000 from Nat.le_of_ble_eq_true rfl)
  have HX := Lib.hid (show ∀ (vs : Array Value), (∃ c, vs[0]? = some (.slice (some ⟨w.heap.size, 0, none⟩) 2 c)) → (∃ c, vs[1]? = some (.slice A1 (chgP 0 1 5 (wrap64 (q + 1))).length c)) → (∃ c, vs[2]? = some (.slice (some ⟨x2.heap.size, 0, none⟩) 4 c)) → ∀ i, i < (mxUnlockR q).length → ∃ A c, vs[i]? = some (.slice A ((mxUnlockR q).getD i []).length c) ∧ Inss (x2.alloc (.cells #[.int .i64 11, .int .i64 1, .int .i64 2, .int .i64 (wrap64 (q + 6)), .int .i64 0, .int .i64 10, .int .i64 (wrap64 (q + 7)), .int .i64 0, .int .i64 0, .int .i64 0, .int .i64 15, .int .i64 0, .int .i64 1, .int .i64 (-1), .int .i64 0, .int .i64 16, .int .i64 3, .int .i64 1, .int .i64 0, .int .i64 0] 89)) (x2.alloc (.cells #[.int .i64 11, .int .i64 1, .int .i64 2, .int .i64 (wrap64 (q + 6)), .int .i64 0, .int .i64 10, .int .i64 (wrap64 (q + 7)), .int .i64 0, .int .i64 0, .int .i64 0, .int .i64 15, .int .i64 0, .int .i64 1, .int .i64 (-1), .int .i64 0, .int .i64 16, .int .i64 3, .int .i64 1, .int .i64 0, .int .i64 0] 89)).heap.size A ((mxUnlockR q).getD i []).length ((mxUnlockR q).getD i []) from fun vs ⟨d0, v0⟩ ⟨d1, v1⟩ ⟨d2, v2⟩ i hi => by
    match i, hi with
    | 0, _ => exact ⟨_, _, v0, (HL0'.out).gr hga⟩
    | 1, _ => exact ⟨_, _, v1, ((Inss.of_own HO1'.out rfl)).gr hga⟩
    | 2, _ => exact ⟨_, _, v2, HW.out⟩
    | i + 3, h => exact absurd h (by simp [mxUnlockR]))
  have HGW := Lib.hid (gr_then G2.out hga)
  clear hga G2 HL0' HO1' HW
  go_wp2_with fail
  refine (concat_of (W := (x2.alloc (.cells #[.int .i64 11, .int .i64 1, .int .i64 2, .int .i64 (wrap64 (q + 6)), .int .i64 0, .int .i64 10, .int .i64 (wrap64 (q + 7)), .int .i64 0, .int .i64 0, .int .i64 0, .int .i64 15, .int .i64 0, .int .i64 1, .int .i64 (-1), .int .i64 0, .int .i64 16, .int .i64 3, .int .i64 1, .int .i64 0, .int .i64 0] 89))) (b := x2.heap.size + 1) (World.size_alloc _ _) (mxUnlockR q) 3 rfl rfl (HX.out _ ⟨_, rfl⟩ ⟨_, rfl⟩ ⟨_, rfl⟩) (by decide) H1000.out).mono ?_
  rintro e y ⟨A, c, rfl, hO, hg⟩
  have HR := Lib.hid (And.intro (own_low hO HGW.out.size) (gr_then HGW.out hg))
  clear hO hg HX HGW H1000
  generalize (mxUnlockR q).flatten = L at *
  go_wp2
  go_ret
  exact ⟨_, _, rfl, HR.out.1, HR.out.2⟩

def tkLockP (q : Int) : List In5 := [(8, 1, 0, 1, 0), (6, 2, 1, 0, 0), (13, 2, 1, wrap64 (q + 5), 0), (14, 1, 2, 0, 0), (10, wrap64 (q + 1), 0, 0, 0), (16, 3, 1, 0, 0)]

set_option maxHeartbeats 2000000 in
theorem tklock_any (q : Int) (w : World) : Calls Tryd.prog 54 #[.int .i64 q] w (OwnOf (tkLockP q) w) := by
  go_enter Tryd.func54, Tryd.ntmps54
  go_wp2_with fail
  refine (aktell_any 1 _).mono ?_
  rintro e x1 ⟨rfl, hg1⟩
  have G1 := Lib.hid hg1
  clear hg1
  have HO := Lib.hid (own_lit (w := x1) (cs := #[.int .i64 8, .int .i64 1, .int .i64 0, .int .i64 1, .int .i64 0, .int .i64 6, .int .i64 2, .int .i64 1, .int .i64 0, .int .i64 0, .int .i64 13, .int .i64 2, .int .i64 1, .int .i64 (wrap64 (q + 5)), .int .i64 0, .int .i64 14, .int .i64 1, .int .i64 2, .int .i64 0, .int .i64 0, .int .i64 10, .int .i64 (wrap64 (q + 1)), .int .i64 0, .int .i64 0, .int .i64 0, .int .i64 16, .int .i64 3, .int .i64 1, .int .i64 0, .int .i64 0]) (l := [(8, 1, 0, 1, 0), (6, 2, 1, 0, 0), (13, 2, 1, wrap64 (q + 5), 0), (14, 1, 2, 0, 0), (10, wrap64 (q + 1), 0, 0, 0), (16, 3, 1, 0, 0)]) (n := 6) rfl rfl (by decide) w.heap.size G1.out.size)
  have HG := Lib.hid (gr_then G1.out (World.grownBy_alloc x1 (.cells #[.int .i64 8, .int .i64 1, .int .i64 0, .int .i64 1, .int .i64 0, .int .i64 6, .int .i64 2, .int .i64 1, .int .i64 0, .int .i64 0, .int .i64 13, .int .i64 2, .int .i64 1, .int .i64 (wrap64 (q + 5)), .int .i64 0, .int .i64 14, .int .i64 1, .int .i64 2, .int .i64 0, .int .i64 0, .int .i64 10, .int .i64 (wrap64 (q + 1)), .int .i64 0, .int .i64 0, .int .i64 0, .int .i64 16, .int .i64 3, .int .i64 1, .int .i64 0, .int .i64 0] 89) none))
  go_wp2
  go_ret
  exact ⟨_, _, rfl, HO.out, HG.out⟩

def tkUnlockP (q : Int) : List In5 := [(8, 1, 1, 1, 0), (15, 1, 16, -1, 0), (16, 3, 1, 0, 0)]

set_option maxHeartbeats 2000000 in
theorem tkunlock_any (q : Int) (w : World) : Calls Tryd.prog 55 #[.int .i64 q] w (OwnOf (tkUnlockP q) w) := by
  go_enter Tryd.func55, Tryd.ntmps55
  go_wp2_with fail
  refine (akwake_any 1 _).mono ?_
  rintro e x1 ⟨rfl, hg1⟩
  have G1 := Lib.hid hg1
  clear hg1
  go_wp2_with fail
  refine (aktell_any 1 _).mono ?_
  rintro e x2 ⟨rfl, hg2⟩
  have G2 := Lib.hid (gr_then G1.out hg2)
  clear hg2 G1
  have HO := Lib.hid (own_lit (w := x2) (cs := #[.int .i64 8, .int .i64 1, .int .i64 1, .int .i64 1, .int .i64 0, .int .i64 15, .int .i64 1, .int .i64 16, .int .i64 (-1), .int .i64 0, .int .i64 16, .int .i64 3, .int .i64 1, .int .i64 0, .int .i64 0]) (l := [(8, 1, 1, 1, 0), (15, 1, 16, -1, 0), (16, 3, 1, 0, 0)]) (n := 3) rfl rfl (by decide) w.heap.size G2.out.size)
  have HG := Lib.hid (gr_then G2.out (World.grownBy_alloc x2 (.cells #[.int .i64 8, .int .i64 1, .int .i64 1, .int .i64 1, .int .i64 0, .int .i64 15, .int .i64 1, .int .i64 16, .int .i64 (-1), .int .i64 0, .int .i64 16, .int .i64 3, .int .i64 1, .int .i64 0, .int .i64 0] 89) none))
  go_wp2
  go_ret
  exact ⟨_, _, rfl, HO.out, HG.out⟩
end Go.Proofs.YtkhaeabbbhfloaaDoor
