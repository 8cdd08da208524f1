/-
  Programs that ask for calls of a semaphore: sema.Code.
-/
import Derived.Test.YtdfljhechmanlaaDoorQL
import Derived.Test.YtdfljhechmanlaaDoorQK
namespace Go.Proofs.YtdfljhechmanlaaDoor
set_option maxRecDepth 100000
open Go.RowKit Go.Shelf Go.Sort
set_option linter.unusedVariables false
set_option linter.unusedSimpArgs false

def takeT (place tl : Int) : List In5 := [(10, tl, 0, 0, 0), (14, 0, 1, 0, 0), (10, place, 0, 0, 0), (16, 3, 2, 0, 0)]
def takeC (place tl : Int) : Array Value := #[.int .i64 10, .int .i64 tl, .int .i64 0, .int .i64 0, .int .i64 0, .int .i64 14, .int .i64 0, .int .i64 1, .int .i64 0, .int .i64 0, .int .i64 10, .int .i64 place, .int .i64 0, .int .i64 0, .int .i64 0, .int .i64 16, .int .i64 3, .int .i64 2, .int .i64 0, .int .i64 0]
def giveP : List In5 := [(8, 1, 0, 1, 0), (3, 2, 1, 1, 0), (15, 0, 1, -1, 0), (16, 3, 2, 0, 0)]
def giveC : Array Value := #[.int .i64 8, .int .i64 1, .int .i64 0, .int .i64 1, .int .i64 0, .int .i64 3, .int .i64 2, .int .i64 1, .int .i64 1, .int .i64 0, .int .i64 15, .int .i64 0, .int .i64 1, .int .i64 (-1), .int .i64 0, .int .i64 16, .int .i64 3, .int .i64 2, .int .i64 0, .int .i64 0]
set_option maxHeartbeats 400000 in
theorem segive_any (p : Nat) (w : World) : Calls Tryd.prog 87 #[] w (PieceOf (semaI true p) w) := by
  have HT := Lib.hid (fun w => atell_any 2 w)
  have hL : semaI true p = giveP := rfl
  rw [hL]
  clear hL
  go_enter Tryd.func87, Tryd.ntmps87
  go_wp2_with fail
  refine (HT.out _).mono ?_
  rintro e w1 ⟨rfl, hg1⟩
  have HI := Lib.hid (inss_lit (w := w1) (cs := giveC) (l := giveP) (n := 4) rfl rfl (by decide))
  have HG := Lib.hid (hg1.andThen (World.grownBy_alloc w1 (.cells giveC 64) none) (fun k hk => by cases hk))
  clear hg1
  go_wp2
  go_ret
  exact ⟨_, _, rfl, HI.out, HG.out⟩
set_option maxHeartbeats 400000 in
theorem setake_any (p : Nat) (hp : p ≤ 1000) (w : World) : Calls Tryd.prog 86 #[.int .i64 (p : Nat)] w (PieceOf (semaI false p) w) := by
  have HT := Lib.hid (fun w => atell_any 2 w)
  have hL : semaI false p = lessP (p : Int) 0 (wrap64 ((p : Int) + 6)) ++ takeT (p : Int) (wrap64 ((p : Int) + 8)) := by
    rw [show wrap64 ((p : Int) + 6) = (p : Int) + 6 by unfold wrap64; omega, show wrap64 ((p : Int) + 8) = (p : Int) + 8 by unfold wrap64; omega]
    rfl
  rw [hL]
  clear hL hp
  generalize (p : Int) = q at *
  have HLs := Lib.hid (alessen_any q 0 (wrap64 (q + 6)) w)
  go_enter Tryd.func86, Tryd.ntmps86
  go_wp2_with fail
  refine HLs.out.mono ?_
  rintro e w1 ⟨rfl, rfl⟩
  have ho := own_lit (w := w) (cs := lessC q 0 (wrap64 (q + 6))) (l := lessP q 0 (wrap64 (q + 6))) (n := 5) rfl rfl (by decide) w.heap.size (Nat.le_refl _)
  have hg0 := World.grownBy_alloc w (.cells (lessC q 0 (wrap64 (q + 6))) 64) none
  have hz : w.heap.size ≤ (w.alloc (.cells (lessC q 0 (wrap64 (q + 6))) 64)).heap.size := by rw [World.size_alloc]; omega
  have HO := Lib.hid ho
  have HG0 := Lib.hid hg0
  have HZ := Lib.hid hz
  clear ho hg0 hz HLs
  generalize w.alloc (.cells (lessC q 0 (wrap64 (q + 6))) 64) = w1 at *
  go_wp2_with fail
  refine (HT.out _).mono ?_
  rintro e w2 ⟨rfl, hg2⟩
  have ho2 := (HO.out.kept hg2 (.inr (by simp [Value.ownBlock]))).alloc (.cells (takeC q (wrap64 (q + 8))) 64)
  have hI2 := inss_lit (w := w2) (cs := takeC q (wrap64 (q + 8))) (l := takeT q (wrap64 (q + 8))) (n := 4) rfl rfl (by decide)
  obtain ⟨v3, w3, hr3, ho3, hg3⟩ := run_appendP (c := 4) ho2 hI2 (by omega) (by rw [World.size_alloc]; have := HZ.out; have := hg2.size; omega) 55
  obtain ⟨A3, c3, rfl⟩ := slice_of_own ho3
  have HI := Lib.hid (Inss.of_own ho3 rfl)
  have HG := Lib.hid (((HG0.out.andThen hg2 (fun k hk => by cases hk)).andThen (World.grownBy_alloc w2 (.cells (takeC q (wrap64 (q + 8))) 64) none) (fun k hk => by cases hk)).andThen hg3 (fun k hk => .inl (HO.out.lt k hk).1))
  unfold takeC at hr3
  have HR3 := Lib.hid hr3
  clear ho2 hI2 hr3 ho3 hg3 hg2 HO HG0 HZ
  go_wp2_with (at_builtin; refine Lib.wpList_append_run _ rfl _ _ _ _ rfl _ _ rfl rfl _ _ HR3.out ?_; clear HR3)
  go_ret
  exact ⟨_, _, rfl, HI.out, HG.out⟩
def encS : Bool → Int × Int
  | false => (3, 0)
  | true => (4, 0)
set_option maxHeartbeats 400000 in
theorem secall_any (b : Bool) (p : Nat) (hp : p ≤ 1000) (w : World) : Calls Tryd.prog 70 #[.agg #[.int .i64 (encS b).1, .int .i64 (encS b).2], .int .i64 (p : Nat)] w (CallOf (semaI b p) w) := by
  cases b
  · have HD := Lib.hid (fun w => setake_any p hp w)
    generalize semaI false p = l at *
    have HG := Lib.hid (World.grownBy_alloc w (.cells #[.int .i64 3, .int .i64 0] 43) none)
    show Calls Tryd.prog 70 #[.agg #[.int .i64 3, .int .i64 0], .int .i64 (p : Nat)] w _
    go_enter Tryd.func70, Tryd.ntmps70
    go_wp2_with fail
    refine (HD.out _).mono ?_
    rintro e w1 ⟨A, c, rfl, hI, hg⟩
    have HI := Lib.hid hI
    have HG1 := Lib.hid (HG.out.andThen hg (fun k hk => by cases hk))
    clear hI hg
    go_wp2
    go_ret2
    exact ⟨A, c, rfl, HI.out, HG1.out⟩
  · have HD := Lib.hid (fun w => segive_any p w)
    generalize semaI true p = l at *
    have HG := Lib.hid (World.grownBy_alloc w (.cells #[.int .i64 4, .int .i64 0] 43) none)
    show Calls Tryd.prog 70 #[.agg #[.int .i64 4, .int .i64 0], .int .i64 (p : Nat)] w _
    go_enter Tryd.func70, Tryd.ntmps70
    go_wp2_with fail
    refine (HD.out _).mono ?_
    rintro e w1 ⟨A, c, rfl, hI, hg⟩
    have HI := Lib.hid hI
    have HG1 := Lib.hid (HG.out.andThen hg (fun k hk => by cases hk))
    clear hI hg
    go_wp2
    go_ret2
    exact ⟨A, c, rfl, HI.out, HG1.out⟩
set_option maxHeartbeats 1000000 in
theorem secode_in (L : List Bool) (hL : L.length ≤ 12) {w : World} (A : Option Addr) (n cap : Nat) (hR : CRow w w.heap.size A n (L.map encS)) :
    Calls Tryd.prog 46 #[.slice A n cap] w (WholeOf semaF L w) := by
  have HA := Lib.hid (acode_any semaF encS 70 (enter_ask Tryd.func70 (by kernel_rfl) (by kernel_rfl)) secall_any (fun c => by cases c <;> decide) L hL A n cap hR)
  clear hR
  go_enter Tryd.func46, Tryd.ntmps46
  go_wp2_with fail
  refine HA.out.mono ?_
  rintro e w1 ⟨A', c', rfl, ho, hb⟩
  have HO := Lib.hid (And.intro ho hb)
  clear ho hb HA
  go_wp2
  go_ret2
  exact ⟨A', c', rfl, HO.out⟩
set_option maxHeartbeats 1000000 in
theorem secode_any (L : List Bool) (hL : L.length ≤ 12) {w : World} (A : Option Addr) (n cap : Nat) (hR : CRow w w.heap.size A n (L.map encS)) (i : Int) :
    Calls Tryd.prog 29 #[.int .i64 i, .slice A n cap] w (WholeOf semaF L w) := by
  have HC := Lib.hid (secode_in L hL A n cap hR)
  clear hR
  go_enter Tryd.func29, Tryd.ntmps29
  go_wp2_with fail
  refine HC.out.mono ?_
  rintro e w1 ⟨A', c', rfl, ho, hb⟩
  have HO := Lib.hid (And.intro ho hb)
  clear ho hb HC
  go_wp2
  go_ret2
  exact ⟨A', c', rfl, HO.out⟩
theorem sema_good : ∀ (c : Bool) (p N : Nat), p + semaLen c < N → ∀ x ∈ semaI c p, goodX N (1 : Nat) x := fun c p N h x hx => by
  cases c
  · have h' : p + 9 < N := h
    simp only [semaI, List.mem_cons, List.not_mem_nil, or_false] at hx
    rcases hx with rfl | rfl | rfl | rfl | rfl | rfl | rfl | rfl | rfl
    all_goals (simp [goodX, kindsOf, kinds, nums, fitsL, boundsL]; try omega)
  · have h' : p + 4 < N := h
    simp only [semaI, List.mem_cons, List.not_mem_nil, or_false] at hx
    rcases hx with rfl | rfl | rfl | rfl
    all_goals (simp [goodX, kindsOf, kinds, nums, fitsL, boundsL]; try omega)
end Go.Proofs.YtdfljhechmanlaaDoor
