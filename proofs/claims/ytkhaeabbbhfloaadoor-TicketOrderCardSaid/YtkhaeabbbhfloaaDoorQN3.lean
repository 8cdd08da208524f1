/-
  Programs of locks: mutex.Code, ticket.Code. Locks where the laws have them: lockers, and what is made of them.
-/
import Derived.Test.YtkhaeabbbhfloaaDoorQN2
import Derived.Test.YtkhaeabbbhfloaaDoorQM4
import Derived.Test.YtkhaeabbbhfloaaDoorQL3
namespace Go.Proofs.YtkhaeabbbhfloaaDoor
set_option maxRecDepth 100000
open Go.RowKit Go.Shelf Go.Sort
set_option linter.unusedVariables false
set_option linter.unusedSimpArgs false

theorem wk_add (p k : Nat) (hp : p ≤ 1000) (hk : k ≤ 100) : wrap64 ((p : Int) + (k : Int)) = (p : Int) + (k : Int) := by unfold wrap64; omega
theorem wk_add2 (p a b c : Nat) (hp : p ≤ 1000) (hk : c ≤ 100) (h : a + b = c) : wrap64 ((p : Int) + (a : Int) + (b : Int)) = (p : Int) + (c : Int) := by subst h; unfold wrap64; omega
theorem mx_lock (p : Nat) (hp : p ≤ 1000) : mutexF.code false p = (mxLockR (p : Int)).flatten := by
  have e0 : wrap64 ((p : Int) + 14) = (p : Int) + 14 := wk_add p 14 hp (by decide)
  have e1 : wrap64 ((p : Int) + 5) = (p : Int) + 5 := wk_add p 5 hp (by decide)
  have e2 : wrap64 ((p : Int) + 5 + 7) = (p : Int) + 12 := wk_add2 p 5 7 12 hp (by decide) rfl
  have e3 : wrap64 ((p : Int) + 5 + 5) = (p : Int) + 10 := wk_add2 p 5 5 10 hp (by decide) rfl
  simp only [mxLockR, mxAwaitR, chgP, e0, e1, e2, e3]
  rfl
theorem mx_unlock (p : Nat) (hp : p ≤ 1000) : mutexF.code true p = (mxUnlockR (p : Int)).flatten := by
  have e0 : wrap64 ((p : Int) + 1) = (p : Int) + 1 := wk_add p 1 hp (by decide)
  have e1 : wrap64 ((p : Int) + 6) = (p : Int) + 6 := wk_add p 6 hp (by decide)
  have e2 : wrap64 ((p : Int) + 7) = (p : Int) + 7 := wk_add p 7 hp (by decide)
  simp only [mxUnlockR, chgP, e0, e1, e2]
  rfl
theorem tk_lock (p : Nat) (hp : p ≤ 1000) : tickF.code false p = tkLockP (p : Int) := by
  have e0 : wrap64 ((p : Int) + 1) = (p : Int) + 1 := wk_add p 1 hp (by decide)
  have e1 : wrap64 ((p : Int) + 5) = (p : Int) + 5 := wk_add p 5 hp (by decide)
  simp only [tkLockP, e0, e1]
  rfl
theorem tk_unlock (p : Nat) : tickF.code true p = tkUnlockP (p : Int) := rfl
def encM : Bool → Int × Int
  | false => (12, 0)
  | true => (13, 0)
/-- A map of two pieces, as it is made. -/
theorem two_pieces (w : World) (a b : Int) (f g : Nat) (ha : (Lit.int .i64 a).wf = true) (hb : (Lit.int .i64 b).wf = true) : ∃ w1 w2,
    (Instr.mapUpdate 92 (.map (some w.heap.size)) (.int .i64 a) (.func (.func f) #[] #[])).run Tryd.prog (w.alloc (.map #[] 0)) = .ok () w1 ∧
    (Instr.mapUpdate 92 (.map (some w.heap.size)) (.int .i64 b) (.func (.func g) #[] #[])).run Tryd.prog w1 = .ok () w2 ∧
    FM w2 w.heap.size 2 (putF (putF (fun _ => none) a f) b g) ∧ Below w.heap.size w w2 := by
  obtain ⟨w1, r1, h1, g1⟩ := (FM.made w).put (by decide) a f ha
  obtain ⟨w2, r2, h2, g2⟩ := h1.put (by decide) b g hb
  have hz : w.heap.size ≤ (w.alloc (.map #[] 0)).heap.size := by rw [World.size_alloc]; omega
  have hb0 := (Below.refl w.heap.size w).alloc (Nat.le_refl _) (.map #[] 0)
  have hb1 := hb0.grown g1 hz (fun g hg => by injection hg with hg; omega)
  exact ⟨w1, w2, r1, r2, h2, hb1.grown g2 hb1.size (fun g hg => by injection hg with hg; omega)⟩
theorem WholeOf.low {κ : Type} {F : Fam κ} {L : List κ} {w w2 : World} (hb : Below w.heap.size w w2) {e : Ending} {w' : World} (h : WholeOf F L w2 e w') : WholeOf F L w e w' := by
  obtain ⟨A', c', he, ho, hb1⟩ := h
  exact ⟨A', c', he, own_low ho hb.size, hb.trans (hb1.mono hb.size)⟩
set_option maxHeartbeats 1000000 in
theorem mxcode_in (L : List Bool) (hL : L.length ≤ 12) {w : World} (A : Option Addr) (n cap : Nat) (hR : CRow w w.heap.size A n (L.map encM)) :
    Calls Tryd.prog 27 #[.slice A n cap] w (WholeOf mutexF L w) := by
  obtain ⟨w1, w2, r1, r2, hm, hb⟩ := two_pieces w 12 13 44 45 (by decide) (by decide)
  have HA := Lib.hid (bare_any mutexF encM (fun c => if c then 45 else 44) (fun c => by cases c; exact enter_ask Tryd.func44 (by kernel_rfl) (by kernel_rfl); exact enter_ask Tryd.func45 (by kernel_rfl) (by kernel_rfl)) (fun c => by cases c <;> decide) (fun c => by cases c <;> rfl)
    (fun c p hp w => by
      cases c
      · rw [mx_lock p hp]; exact mxlock_any (p : Nat) w
      · rw [mx_unlock p hp]; exact mxunlock_any (p : Nat) w) (fun c => by cases c <;> decide) L hL A n cap ((hR.below hb).wide hb.size) w.heap.size 2 _ hm (fun c => by cases c <;> rfl))
  have HB := Lib.hid hb
  have hmk : ∀ W : World, (Instr.makeMap 92 none).run Tryd.prog W = .ok (.map (some W.heap.size)) (W.alloc (.map #[] 0)) := fun W => run_makeMap 92 W
  clear hm hb hR
  go_enter Tryd.func27, Tryd.ntmps27
  go_wp2_with fail
  --MA
  refine HA.out.mono ?_
  rintro e w3 ⟨A', c', rfl, ho, hb1⟩
  have HO := Lib.hid (And.intro (own_low ho HB.out.size) (HB.out.trans (hb1.mono HB.out.size)))
  clear ho hb1 HA HB
  go_wp2
  go_ret2
  exact ⟨A', c', rfl, HO.out⟩
set_option maxHeartbeats 1000000 in
theorem mxcode_any (L : List Bool) (hL : L.length ≤ 12) {w : World} (A : Option Addr) (n cap : Nat) (hR : CRow w w.heap.size A n (L.map encM)) (i : Int) :
    Calls Tryd.prog 12 #[.int .i64 i, .slice A n cap] w (WholeOf mutexF L w) := by
  have HC := Lib.hid (mxcode_in L hL A n cap hR)
  clear hR
  go_enter Tryd.func12, Tryd.ntmps12
  go_wp2_with fail
  refine HC.out.mono ?_
  rintro e w1 ⟨A', c', rfl, ho, hb⟩
  have HO := Lib.hid (And.intro ho hb)
  clear ho hb HC
  go_wp2
  go_ret2
  exact ⟨A', c', rfl, HO.out⟩
set_option maxHeartbeats 1000000 in
theorem tkcode_in (L : List Bool) (hL : L.length ≤ 12) {w : World} (A : Option Addr) (n cap : Nat) (hR : CRow w w.heap.size A n (L.map encM)) :
    Calls Tryd.prog 36 #[.slice A n cap] w (WholeOf tickF L w) := by
  obtain ⟨w1, w2, r1, r2, hm, hb⟩ := two_pieces w 12 13 54 55 (by decide) (by decide)
  have HA := Lib.hid (bare_any tickF encM (fun c => if c then 55 else 54) (fun c => by cases c; exact enter_ask Tryd.func54 (by kernel_rfl) (by kernel_rfl); exact enter_ask Tryd.func55 (by kernel_rfl) (by kernel_rfl)) (fun c => by cases c <;> decide) (fun c => by cases c <;> rfl)
    (fun c p hp w => by
      cases c
      · rw [tk_lock p hp]; exact tklock_any (p : Nat) w
      · rw [tk_unlock p]; exact tkunlock_any (p : Nat) w) (fun c => by cases c <;> decide) L hL A n cap ((hR.below hb).wide hb.size) w.heap.size 2 _ hm (fun c => by cases c <;> rfl))
  have HB := Lib.hid hb
  have hmk : ∀ W : World, (Instr.makeMap 92 none).run Tryd.prog W = .ok (.map (some W.heap.size)) (W.alloc (.map #[] 0)) := fun W => run_makeMap 92 W
  clear hm hb hR
  go_enter Tryd.func36, Tryd.ntmps36
  go_wp2_with fail
  refine HA.out.mono ?_
  rintro e w3 ⟨A', c', rfl, ho, hb1⟩
  have HO := Lib.hid (And.intro (own_low ho HB.out.size) (HB.out.trans (hb1.mono HB.out.size)))
  clear ho hb1 HA HB
  go_wp2
  go_ret2
  exact ⟨A', c', rfl, HO.out⟩
set_option maxHeartbeats 1000000 in
theorem tkcode_any (L : List Bool) (hL : L.length ≤ 12) {w : World} (A : Option Addr) (n cap : Nat) (hR : CRow w w.heap.size A n (L.map encM)) (i : Int) :
    Calls Tryd.prog 21 #[.int .i64 i, .slice A n cap] w (WholeOf tickF L w) := by
  have HC := Lib.hid (tkcode_in L hL A n cap hR)
  clear hR
  go_enter Tryd.func21, Tryd.ntmps21
  go_wp2_with fail
  refine HC.out.mono ?_
  rintro e w1 ⟨A', c', rfl, ho, hb⟩
  have HO := Lib.hid (And.intro ho hb)
  clear ho hb HC
  go_wp2
  go_ret2
  exact ⟨A', c', rfl, HO.out⟩
end Go.Proofs.YtkhaeabbbhfloaaDoor

namespace Go.Proofs.YtkhaeabbbhfloaaDoor
set_option maxRecDepth 100000
open Go.RowKit Go.Shelf Go.Sort
set_option linter.unusedVariables false
set_option linter.unusedSimpArgs false

theorem mutex_good : ∀ (c : Bool) (p N : Nat), p + mutexF.len c < N → ∀ x ∈ mutexF.code c p, goodX N (1 : Nat) x := fun c p N h x hx => by
  obtain ⟨y, hy, rfl⟩ := List.mem_map.1 (show x ∈ (mutex0 c).map (shiftI p) from hx)
  cases c
  · have h' : p + 15 < N := h
    simp only [mutex0, List.mem_cons, List.not_mem_nil, or_false] at hy
    rcases hy with rfl | rfl | rfl | rfl | rfl | rfl | rfl | rfl | rfl | rfl | rfl | rfl | rfl | rfl | rfl
    all_goals (simp [shiftI, goodX, kindsOf, kinds, nums, fitsL, boundsL]; try omega)
  · have h' : p + 8 < N := h
    simp only [mutex0, List.mem_cons, List.not_mem_nil, or_false] at hy
    rcases hy with rfl | rfl | rfl | rfl | rfl | rfl | rfl | rfl
    all_goals (simp [shiftI, goodX, kindsOf, kinds, nums, fitsL, boundsL]; try omega)
theorem tick_good : ∀ (c : Bool) (p N : Nat), p + tickF.len c < N → ∀ x ∈ tickF.code c p, goodX N (2 : Nat) x := fun c p N h x hx => by
  obtain ⟨y, hy, rfl⟩ := List.mem_map.1 (show x ∈ (tick0 c).map (shiftI p) from hx)
  cases c
  · have h' : p + 6 < N := h
    simp only [tick0, List.mem_cons, List.not_mem_nil, or_false] at hy
    rcases hy with rfl | rfl | rfl | rfl | rfl | rfl
    all_goals (simp [shiftI, goodX, kindsOf, kinds, nums, fitsL, boundsL]; try omega)
  · have h' : p + 3 < N := h
    simp only [tick0, List.mem_cons, List.not_mem_nil, or_false] at hy
    rcases hy with rfl | rfl | rfl
    all_goals (simp [shiftI, goodX, kindsOf, kinds, nums, fitsL, boundsL]; try omega)
theorem mu_right (L : List Bool) (hL : L.length ≤ 12) : RightL (wholeK mutexF L) mutexF.nc := whole_right mutexF (fun c => by cases c <;> decide) (by decide) mutex_good L hL
theorem ti_right (L : List Bool) (hL : L.length ≤ 12) : RightL (wholeK tickF L) tickF.nc := whole_right tickF (fun c => by cases c <;> decide) (by decide) tick_good L hL
theorem lock_big {F : Fam Bool} (hr : ∀ L : List Bool, L.length ≤ 12 → RightL (wholeK F L) F.nc) (Ls : List (List Bool)) (h16 : Ls.length ≤ 16) (h12 : ∀ L ∈ Ls, L.length ≤ 12) (cells : List Int) (hc : cells.length = F.nc) (h100 : F.nc ≤ 100) (hu : ∀ v ∈ cells, okU v) : MBig cells (newM (Ls.map (wholeK F)) cells) := by
  refine newM_big ⟨by rw [List.length_map]; exact h16, by rw [hc]; exact h100, fun i hi => ?_⟩ hu
  have hi' : i < Ls.length := by rwa [List.length_map] at hi
  have e : (Ls.map (wholeK F)).getD i [] = wholeK F (Ls.getD i []) := by rw [List.getD_eq_getElem?_getD, List.getElem?_map, List.getElem?_eq_getElem hi', List.getD_eq_getElem?_getD, List.getElem?_eq_getElem hi']; rfl
  rw [e, hc]
  exact hr _ (h12 _ (by rw [List.getD_eq_getElem?_getD, List.getElem?_eq_getElem hi']; exact List.getElem_mem hi'))
/-- A machine that was made, behind moves. -/
structure LoAt (w : World) (c : Nat) (cells : List Int) (m : Mach) (wr : World) : Prop where
  at_ : At w c m wr
  big : MBig cells m
theorem row_of_lit {w : World} (v : List Int) (cs : Array Value) (hcs : cs.toList = v.map (Value.int .u64)) (n : Nat) (hn : v.length = n) : Ints .u64 (w.alloc (.cells cs 30)) (w.alloc (.cells cs 30)).heap.size (some ⟨w.heap.size, 0, none⟩) n v :=
  ⟨hn, fun _ => ⟨_, 0, rfl, by simp, fun i hi => by
    have hz : cs[i]? = some (.int .u64 (v.getD i 0)) := by
      rw [← Array.getElem?_toList, hcs, List.getElem?_map, List.getD_eq_getElem?_getD, List.getElem?_eq_getElem (by omega)]
      rfl
    rw [Nat.zero_add]
    exact (cell_of_row _ _ i _ _ _ (heap_alloc_new w (.cells cs 30))).trans hz⟩⟩
theorem mumade_any {w : World} (hw : CW w) (Ls : List (List Bool)) (h16 : Ls.length ≤ 16) (h12 : ∀ L ∈ Ls, L.length ≤ 12) (A C D : Option Addr) (n cap cc nm cm : Nat) (hA : CRows w w.heap.size A n (Ls.map (List.map encM))) (hc : Ints .u64 w w.heap.size C 1 [0]) (l : List (Int × Bool)) (hl : Moves w w.heap.size D nm l) (hnm : nm ≤ 1000) :
    Calls Tryd.prog 10 #[.slice A n cap, .func (.func 12) #[] #[], .slice C 1 cc, .slice D nm cm] w fun e w' => ∃ c, e = .returned (.pointer (some ⟨c, 0, none⟩)) ∧ LoAt w c [0] (behindM 20000 (newM (Ls.map (wholeK mutexF)) [0]) l) w' := by
  refine (made_any mutexF encM 12 (enter_ask Tryd.func12 (by kernel_rfl) (by kernel_rfl)) hw (fun w1 hb L hL A n cap i hR => mxcode_any L hL A n cap hR i) mu_right (by decide) (by decide) Ls h16 h12 A C D n cap 1 cc nm cm hA [0] hc rfl l hl (fun v hv => by rw [List.mem_singleton.1 hv]; exact ⟨by decide, by decide⟩) (by omega)).mono ?_
  rintro e w' ⟨c, rfl, hAt⟩
  exact ⟨c, rfl, hAt, (lock_big mu_right Ls h16 h12 [0] rfl (by decide) (fun v hv => by rw [List.mem_singleton.1 hv]; exact ⟨by decide, by decide⟩)).behind l⟩
theorem mumade3 {w w2 : World} (hw : CW w) (hb : Below w.heap.size w w2) (Ls : List (List Bool)) (h16 : Ls.length ≤ 16) (h12 : ∀ L ∈ Ls, L.length ≤ 12) (A D : Option Addr) (n cap nm cm : Nat) (hA : CRows w2 w2.heap.size A n (Ls.map (List.map encM))) (l : List (Int × Bool)) (hl : Moves w w.heap.size D nm l) (hnm : nm ≤ 1000) :
    Calls Tryd.prog 10 #[.slice A n cap, .func (.func 12) #[] #[], .slice (some ⟨w2.heap.size, 0, none⟩) 1 1, .slice D nm cm] (w2.alloc (.cells #[.int .u64 0] 30)) fun e w' => ∃ c, e = .returned (.pointer (some ⟨c, 0, none⟩)) ∧ LoAt w2 c [0] (behindM 20000 (newM (Ls.map (wholeK mutexF)) [0]) l) w' := by
  have hb2 := (Below.refl w2.heap.size w2).alloc (Nat.le_refl _) (.cells #[.int .u64 0] 30)
  have hb3 := hb.alloc hb.size (.cells #[.int .u64 0] 30)
  refine (mumade_any (hw.old hb3) Ls h16 h12 A _ D n cap 1 nm cm (hA.old hb2) (row_of_lit [0] #[.int .u64 0] rfl 1 rfl) l (hl.old hb3) hnm).mono ?_
  rintro e w' ⟨c, he, hAt⟩
  exact ⟨c, he, hAt.at_.old hb2, hAt.big⟩
theorem timade_any {w : World} (hw : CW w) (Ls : List (List Bool)) (h16 : Ls.length ≤ 16) (h12 : ∀ L ∈ Ls, L.length ≤ 12) (A C D : Option Addr) (n cap cc nm cm : Nat) (hA : CRows w w.heap.size A n (Ls.map (List.map encM))) (hc : Ints .u64 w w.heap.size C 2 [0, 0]) (l : List (Int × Bool)) (hl : Moves w w.heap.size D nm l) (hnm : nm ≤ 1000) :
    Calls Tryd.prog 10 #[.slice A n cap, .func (.func 21) #[] #[], .slice C 2 cc, .slice D nm cm] w fun e w' => ∃ c, e = .returned (.pointer (some ⟨c, 0, none⟩)) ∧ LoAt w c [0, 0] (behindM 20000 (newM (Ls.map (wholeK tickF)) [0, 0]) l) w' := by
  have h00 : ∀ v ∈ ([0, 0] : List Int), okU v := fun v hv => by
    have : v = 0 := by simpa using hv
    rw [this]; exact ⟨by decide, by decide⟩
  refine (made_any tickF encM 21 (enter_ask Tryd.func21 (by kernel_rfl) (by kernel_rfl)) hw (fun w1 hb L hL A n cap i hR => tkcode_any L hL A n cap hR i) ti_right (by decide) (by decide) Ls h16 h12 A C D n cap 2 cc nm cm hA [0, 0] hc rfl l hl h00 (by omega)).mono ?_
  rintro e w' ⟨c, rfl, hAt⟩
  exact ⟨c, rfl, hAt, (lock_big ti_right Ls h16 h12 [0, 0] rfl (by decide) h00).behind l⟩
theorem timade3 {w w2 : World} (hw : CW w) (hb : Below w.heap.size w w2) (Ls : List (List Bool)) (h16 : Ls.length ≤ 16) (h12 : ∀ L ∈ Ls, L.length ≤ 12) (A D : Option Addr) (n cap nm cm : Nat) (hA : CRows w2 w2.heap.size A n (Ls.map (List.map encM))) (l : List (Int × Bool)) (hl : Moves w w.heap.size D nm l) (hnm : nm ≤ 1000) :
    Calls Tryd.prog 10 #[.slice A n cap, .func (.func 21) #[] #[], .slice (some ⟨w2.heap.size, 0, none⟩) 2 2, .slice D nm cm] (w2.alloc (.cells #[.int .u64 0, .int .u64 0] 30)) fun e w' => ∃ c, e = .returned (.pointer (some ⟨c, 0, none⟩)) ∧ LoAt w2 c [0, 0] (behindM 20000 (newM (Ls.map (wholeK tickF)) [0, 0]) l) w' := by
  have hb2 := (Below.refl w2.heap.size w2).alloc (Nat.le_refl _) (.cells #[.int .u64 0, .int .u64 0] 30)
  have hb3 := hb.alloc hb.size (.cells #[.int .u64 0, .int .u64 0] 30)
  refine (timade_any (hw.old hb3) Ls h16 h12 A _ D n cap 2 nm cm (hA.old hb2) (row_of_lit [0, 0] #[.int .u64 0, .int .u64 0] rfl 2 rfl) l (hl.old hb3) hnm).mono ?_
  rintro e w' ⟨c, he, hAt⟩
  exact ⟨c, he, hAt.at_.old hb2, hAt.big⟩

theorem loLs_few {n t : Nat} (ht : t ≤ 5) : ∀ L ∈ loLs n t, L.length ≤ 12 := fun L hL => by
  rw [(List.mem_replicate.1 hL).2, lockL_len]; omega
abbrev LoNest (w : World) (A : Option Addr) (k c : Nat) (Ls : List (List Bool)) (wr : World) : Prop := Nest 56 55 2 w A k c ((Ls.map (List.map encM)).map fun (l : List (Int × Int)) => (l.length, cellsC l)) wr
set_option maxHeartbeats 2000000 in
theorem lockers_any (n t : Nat) (hn : n ≤ 8) (ht : t ≤ 5) (w : World) :
    Calls Tryd.prog 11 #[.int .i64 (n : Nat), .int .i64 (t : Nat)] w fun e w' => ∃ A c, e = .returned (.slice A n c) ∧ LoNest w A n c (loLs n t) w' := by
  have HNT := Lib.hid (And.intro hn ht)
  clear hn ht
  go_enter Tryd.func11, Tryd.ntmps11
  go_wp2
  --MARKA
  go_loopw [5, 8] (fun v j wr => ∃ k : Nat, k ≤ n ∧ j = .int .i64 k ∧ ∃ A c, v = .slice A k c ∧ LoNest w A k c (loLs k t) wr) (fun _ j _ => n - (intOf j).toNat)
  case atStart => exact ⟨0, Nat.zero_le _, rfl, none, 0, rfl, Nest.nil _ _ _ w⟩
  case round =>
    obtain ⟨k, hk, rfl, Av, cv, rfl, hNs⟩ := hrel
    by_cases hlt : k < n
    · have hkn : (k : Int) < (n : Int) := by omega
      have HNs := Lib.hid hNs
      have hk8 : k < 8 := by have := HNT.out; omega
      clear hNs
      go_wp2
      --MARKB
      go_loopw [6, 11] (fun v j w2 => ∃ i : Nat, i ≤ t ∧ j = .int .i64 i ∧ ∃ A c, v = .slice A (2 * i) c ∧ RowC wr A (2 * i) c ((lockL i).map encM) w2) (fun _ j _ => t - (intOf j).toNat)
      case atStart => exact ⟨0, Nat.zero_le _, rfl, none, 0, rfl, RowC.nil _⟩
      case round =>
        obtain ⟨i, hi, rfl, Ac, cc, rfl, hRow⟩ := hrel
        by_cases hlt2 : i < t
        · have hin : (i : Int) < (t : Int) := by omega
          obtain ⟨A4, c4, w4, hr4, hR4⟩ := hRow.add #[.int .i64 12, .int .i64 0, .int .i64 13, .int .i64 0] 2 (r := [(12, 0), (13, 0)]) rfl rfl (by have := HNT.out; omega) (by decide)
          have e4 : (lockL i).map encM ++ [(12, 0), (13, 0)] = (lockL (i + 1)).map encM := by rw [lockL_succ, List.map_append]; rfl
          rw [e4, show 2 * i + 2 = 2 * (i + 1) by omega] at hR4
          rw [show 2 * i + 2 = 2 * (i + 1) by omega] at hr4
          have HR4 := Lib.hid hR4
          have HRun := Lib.hid hr4
          have hi20 : i < 20 := by have := HNT.out; omega
          clear hRow hr4 hR4 e4
          go_wp2_with (at_builtin; refine Lib.wpList_append_run _ rfl _ _ _ _ rfl _ _ rfl rfl _ _ HRun.out ?_; clear HRun)
          go_roundw
          case rel => exact ⟨i + 1, by omega, by go_num, A4, c4, rfl, HR4.out⟩
          case measure => simp [intOf]; omega
        · have hin : ¬ (i : Int) < (t : Int) := by omega
          obtain rfl : i = t := by omega
          obtain ⟨A4, c4, w4, hr4, hN4⟩ := (HNs.out.grow hRow.bel).add (tS := 27) Tryd.underlying27 infoSCallM (by decide) hRow.own HNs.out.bel.size (by omega)
          have hN5 : LoNest w A4 (k + 1) c4 (loLs (k + 1) i) w4 := by
            unfold LoNest
            have e : ((loLs (k + 1) i).map (List.map encM)).map (fun (l : List (Int × Int)) => (l.length, cellsC l)) = ((loLs k i).map (List.map encM)).map (fun (l : List (Int × Int)) => (l.length, cellsC l)) ++ [(2 * i, cellsC ((lockL i).map encM))] := by
              unfold loLs
              rw [List.replicate_succ', List.map_append, List.map_append]
              simp [lockL_len]
            rw [e]
            exact hN4
          have HN5' := Lib.hid hN5
          have HRun := Lib.hid hr4
          clear hRow hr4 hN4 hN5 HNs
          go_wp2_with (at_builtin; refine Lib.wpList_append_run _ rfl _ _ _ _ rfl _ _ rfl rfl _ _ HRun.out ?_; clear HRun)
          go_roundw
          case rel => exact ⟨k + 1, by omega, by go_num, A4, c4, rfl, HN5'.out⟩
          case measure => simp [intOf]; omega
    · have hkn : ¬ (k : Int) < (n : Int) := by omega
      obtain rfl : k = n := by omega
      have HNs := Lib.hid hNs
      clear hNs
      go_wp2
      go_ret
      exact ⟨Av, cv, rfl, HNs.out⟩
end Go.Proofs.YtkhaeabbbhfloaaDoor
