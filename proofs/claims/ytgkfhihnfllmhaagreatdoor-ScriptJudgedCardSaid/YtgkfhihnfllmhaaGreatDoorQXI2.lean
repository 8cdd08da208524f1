/-
  What the laws on barriers ask first: kind, ball, floor. What dance.New, dance.Code, dance.Cells, fair.Finish come to is told by DanceOK. Who can go on, and who is at its end; danced: the fact that the laws on barriers ask first; left: what cells have in the end. A barrier behind moves, and at its end, where the laws have it.
-/
import Derived.Test.YtgkfhihnfllmhaaGreatDoorQXE2
import Derived.Test.YtgkfhihnfllmhaaGreatDoorQXH6
import Derived.Test.YtgkfhihnfllmhaaGreatDoorQXI
import Derived.Test.YtgkfhihnfllmhaaGreatDoorQXG5
namespace Go.Proofs.YtgkfhihnfllmhaaGreatDoor
set_option maxRecDepth 100000
open Go.RowKit Go.Shelf Go.Sort
set_option linter.unusedVariables false
set_option linter.unusedSimpArgs false

theorem at_threads {w wr : World} {c : Nat} {m : Mach} (h : At w c m wr) :
    Calls Tryz.prog 59 #[.pointer (some ⟨c, 0, none⟩)] wr fun e w' => e = .returned (.int .i64 (m.progs.length : Int)) ∧ wr = w' := by
  obtain ⟨S, X, rfl, hC, hB⟩ := h
  obtain ⟨_, _, c2, _, _, _⟩ := hC.cells
  obtain ⟨xs, hT, _⟩ := hC.thr
  obtain ⟨A, cap, e⟩ := slice_of_own hT
  rw [e] at c2
  clear hC hB hT
  go_enter Tryz.func59, Tryz.ntmps59
  go_wp2
  go_ret
  exact ⟨rfl, rfl⟩

/-- The number of a kind. -/
theorem kind_is (k : Int) (w : World) : Calls Tryz.prog 58 #[.int .i64 k] w fun e w' => e = .returned (.int .i64 (1 + pickI k 6)) ∧ w = w' := by
  have h1 := pickI_lo k 6
  have h2 := pickI_hi k 6 (by decide)
  have HP := Lib.hid (pick_det k 6 6 w rfl (by decide) (by decide))
  have H := Lib.hid (And.intro h1 h2)
  clear h1 h2
  generalize pickI k 6 = z at *
  go_enter Tryz.func58, Tryz.ntmps58
  go_wp2_with fail
  refine HP.out.mono ?_
  rintro e w1 ⟨rfl, rfl⟩
  go_wp2
  go_ret
  refine ⟨ret_int ?_, rfl⟩
  obtain ⟨h1, h2⟩ := H.out
  unfold wrap64
  omega

/-- Numbers that a barrier may have: its kind, how many, how often. -/
def ballK (k : Int) : Nat := (1 + pickI k 6).toNat
def ballN (n : Int) : Nat := (1 + pickI n 16).toNat
def ballR (r : Int) : Nat := (pickI r 7).toNat
theorem ball_dims (k n r : Int) : Dims (ballK k) (ballN n) (ballR r) := by
  have a1 := pickI_lo k 6
  have a2 := pickI_hi k 6 (by decide)
  have b1 := pickI_lo n 16
  have b2 := pickI_hi n 16 (by decide)
  have c1 := pickI_lo r 7
  have c2 := pickI_hi r 7 (by decide)
  unfold ballK ballN ballR
  exact ⟨by omega, by omega, by omega, by omega, by omega⟩
theorem ball_is (k n r : Int) (w : World) : Calls Tryz.prog 23 #[.int .i64 k, .int .i64 n, .int .i64 r] w fun e w' => e = .returned (.tuple #[.int .i64 (ballK k : Nat), .int .i64 (ballN n : Nat), .int .i64 (ballR r : Nat)]) ∧ w = w' := by
  have a1 := pickI_lo k 6
  have a2 := pickI_hi k 6 (by decide)
  have b1 := pickI_lo n 16
  have b2 := pickI_hi n 16 (by decide)
  have c1 := pickI_lo r 7
  have c2 := pickI_hi r 7 (by decide)
  have HK := Lib.hid (kind_is k w)
  have HN := Lib.hid (pick_det n 16 16 w rfl (by decide) (by decide))
  have HR := Lib.hid (pick_det r 7 7 w rfl (by decide) (by decide))
  have ek : ((ballK k : Nat) : Int) = 1 + pickI k 6 := by unfold ballK; omega
  have en : ((ballN n : Nat) : Int) = 1 + pickI n 16 := by unfold ballN; omega
  have er : ((ballR r : Nat) : Int) = pickI r 7 := by unfold ballR; omega
  rw [ek, en, er]
  have H := Lib.hid (show wrap64 (1 + pickI n 16) = 1 + pickI n 16 by unfold wrap64; omega)
  clear ek en er a1 a2 b1 b2 c1 c2
  generalize 1 + pickI k 6 = x at *
  generalize pickI n 16 = y at *
  generalize pickI r 7 = z at *
  go_enter Tryz.func23, Tryz.ntmps23
  go_wp2_with fail
  refine HK.out.mono ?_
  rintro e w1 ⟨rfl, rfl⟩
  go_wp2_with fail
  refine HN.out.mono ?_
  rintro e w1 ⟨rfl, rfl⟩
  go_wp2_with fail
  refine HR.out.mono ?_
  rintro e w1 ⟨rfl, rfl⟩
  go_wp2
  go_ret3
  have h := H.out
  generalize wrap64 (1 + y) = q at *
  subst h
  exact ⟨rfl, rfl⟩

/-- What the laws' world must be. -/
structure DW (w : World) : Prop where
  cw : CW w
  ev : ErrVar w
  tz : TzVar w
theorem DW.old {w w' : World} (h : DW w) (hb : Below w.heap.size w w') : DW w' := ⟨h.cw.old hb, errVar_old2 h.ev hb, h.tz.old hb⟩

/-- What the barriers' functions come to: proved where the code is (DOk). -/
structure DanceOK : Prop where
  new : ∀ {w : World}, DW w → ∀ {k n rounds : Nat}, Dims k n rounds → Calls Tryz.prog 47 #[.int .i64 (k : Nat), .int .i64 (n : Nat), .int .i64 (rounds : Nat)] w fun e w' => ∃ c, e = .returned (.tuple #[.pointer (some ⟨c, 0, none⟩), .nilIface]) ∧ At w c (kM k n rounds) w'
  fin : ∀ {w : World} {B : Nat} {S : Nat → Prop} {X : KB} {cells0 : List Int} {m : Mach}, Core w B S X m → B ≤ w.heap.size → MBig cells0 m → Calls Tryz.prog 15 #[.pointer (some ⟨X.c, 0, none⟩)] w fun e w' => ∃ m', Fin m m' ∧ e = .returned (.int .i64 ((m'.steps : Int) - (m.steps : Int))) ∧ Moved w B S X m' w' ∧ MBig cells0 m'
  judge : ∀ {w : World} {n : Nat} {A : Option Addr} {cap : Nat} {l : List Ev4}, 1 ≤ n → n ≤ 16 → l.length ≤ 20000 → EvRow w A l.length l → judgeP n [] l = none → Calls Tryz.prog 13 #[.slice A l.length cap, .int .i64 (n : Nat)] w fun e w' => e = .returned (.tuple #[.int .i64 (jAll n l : Nat), .int .i64 (jAny n l : Nat), .nilIface]) ∧ Below w.heap.size w w'

theorem at_fin {w wr : World} {c : Nat} {cells0 : List Int} {m : Mach} (H : DanceOK) (h : At w c m wr) (hb : MBig cells0 m) :
    Calls Tryz.prog 15 #[.pointer (some ⟨c, 0, none⟩)] wr fun e w' => ∃ m', Fin m m' ∧ e = .returned (.int .i64 ((m'.steps : Int) - (m.steps : Int))) ∧ At w c m' w' ∧ MBig cells0 m' := by
  obtain ⟨S, X, rfl, hC, hB⟩ := h
  exact (H.fin hC hB.size hb).mono fun e w' ⟨m', hf, he, hm, hbig⟩ => ⟨m', hf, he, At.moved rfl hC hB hm, hbig⟩

theorem kM_big {k n rounds : Nat} (d : Dims k n rounds) : MBig (List.replicate (kCells k n) 0) (kM k n rounds) := by
  obtain ⟨h1, h2, _⟩ := kind_right (rounds := rounds) d.k1 d.k6 d.n1 d.n16 (by have := d.r6; omega)
  refine ⟨newM_ok _ _ (fun v hv => by rw [(List.mem_replicate.1 hv).2]; exact ⟨by decide, by decide⟩) (fun i hi => ?_), by show ((List.range n).map _).length ≤ 16; simp; exact d.n16, Nat.zero_le _, Nat.zero_le _, Nat.zero_le _⟩
  have hi' : i < n := by simpa using hi
  have e : ((List.range n).map fun t => barP rounds (kOps k n t)).getD i [] = barP rounds (kOps k n i) := by
    rw [List.getD_eq_getElem?_getD, List.getElem?_map, List.getElem?_range hi']
    rfl
  rw [e, List.length_replicate]
  exact h2 i hi'

/-- Moves of threads that there are. -/
def pickL (n : Nat) (l : List (Int × Bool)) : List (Int × Bool) := l.map fun v => (pickI v.1 n, v.2)
theorem pickL_lt {n : Nat} (n1 : 0 < n) (l : List (Int × Bool)) : ∀ v ∈ pickL n l, ∃ t : Nat, t < n ∧ v.1 = t := fun v hv => by
  obtain ⟨u, _, rfl⟩ := List.mem_map.1 hv
  have h1 := pickI_lo u.1 n
  have h2 := pickI_hi u.1 n n1
  exact ⟨(pickI u.1 n).toNat, by omega, by show pickI u.1 n = _; omega⟩

set_option maxHeartbeats 2000000 in
theorem floor_any {w : World} (H : DanceOK) (hw : DW w) {k n rounds : Nat} (d : Dims k n rounds) (D : Option Addr) (nm cm : Nat) (l : List (Int × Bool)) (hl : Moves w w.heap.size D nm l) (hnm : nm ≤ 1000000) :
    Calls Tryz.prog 24 #[.int .i64 (k : Nat), .int .i64 (n : Nat), .int .i64 (rounds : Nat), .slice D nm cm] w fun e w' => ∃ c, e = .returned (.pointer (some ⟨c, 0, none⟩)) ∧ At w c (behindM 20000 (kM k n rounds) (pickL n l)) w' := by
  have HN := Lib.hid (H.new hw d)
  have HBig := Lib.hid (fun j => MBig.behind ((pickL n l).take j) (kM_big d))
  have HP := Lib.hid (fun a w => pick_det a n n w rfl (by have := d.n1; omega) (by have := d.n16; omega))
  have hpl : (kM k n rounds).progs.length = n := by show ((List.range n).map _).length = n; simp
  have HPl := Lib.hid hpl
  have HL := Lib.hid hl
  have HLen := Lib.hid hl.len
  clear hw hl hpl
  go_enter Tryz.func24, Tryz.ntmps24
  go_wp2_with fail
  refine HN.out.mono ?_
  rintro e w1 ⟨c, rfl, hA⟩
  have HA := Lib.hid (show At w c (behindM 20000 (kM k n rounds) ((pickL n l).take 0)) w1 from hA)
  have HTh := Lib.hid (at_threads hA)
  rw [HPl.out] at HTh
  clear hA HN
  go_wp2_with fail
  refine HTh.out.mono ?_
  rintro e w2 ⟨rfl, rfl⟩
  have hnn : ((n : Int) != (n : Int)) = false := by simp
  go_wp2
  go_loopw [34] (fun j wr => ∃ i : Nat, i ≤ nm ∧ j = .int .i64 i ∧ At w c (behindM 20000 (kM k n rounds) ((pickL n l).take i)) wr) (fun j _ => nm - (intOf j).toNat)
  case atStart => exact ⟨0, Nat.zero_le _, rfl, HA.out⟩
  case round =>
    obtain ⟨i, hi, rfl, hm⟩ := hrel
    by_cases hlt : i < nm
    · have hkn : (i : Int) < (nm : Int) := by omega
      obtain ⟨g, off, hD, hcell⟩ := moves_at HL.out hm hlt
      subst hD
      have HTk := Lib.hid (behind_take (pickL n l) (kM k n rounds) i (by unfold pickL; rw [List.length_map, HLen.out]; exact hlt))
      have hat : (pickL n l).getD i default = (pickI (l.getD i default).1 n, (l.getD i default).2) := by
        have hil : i < l.length := by rw [HLen.out]; exact hlt
        unfold pickL
        rw [List.getD_eq_getElem?_getD, List.getElem?_map, List.getElem?_eq_getElem hil, List.getD_eq_getElem?_getD, List.getElem?_eq_getElem hil]
        rfl
      rw [hat] at HTk
      have HM := Lib.hid (fun w' (hg : wr.grownBy w' none) => kmove_any (hm.grow hg) (HBig.out i) (pickI (l.getD i default).1 n, (l.getD i default).2))
      rw [← HTk.out] at HM
      clear HTk hm hat
      obtain ⟨hc0, hc1⟩ := hcell
      generalize l.getD i default = v at *
      obtain ⟨t, p⟩ := v
      dsimp only at hc0 hc1 HM
      have HPt := Lib.hid (HP.out t)
      generalize pickI t n = z at *
      cases p
      · simp only [Bool.false_eq_true, ↓reduceIte] at HM
        go_wp2_with fail
        refine (HPt.out _).mono ?_
        rintro e w2 ⟨rfl, rfl⟩
        go_wp2_with fail
        refine (HM.out _ (grown_a (World.grownBy.refl _ none) _)).mono ?_
        rintro e w2 ⟨rfl, hm2⟩
        have H2 := Lib.hid hm2
        generalize (errV (stepM 20000 (behindM 20000 (kM k n rounds) (List.take i (pickL n l))) z).1) = RV
        clear hm2 HM hc0 hc1
        go_wp2
        go_roundw
        case rel => exact ⟨i + 1, by omega, by go_num, H2.out⟩
        case measure => simp [intOf]; omega
      · simp only [↓reduceIte] at HM
        go_wp2_with fail
        refine (HPt.out _).mono ?_
        rintro e w2 ⟨rfl, rfl⟩
        go_wp2_with fail
        refine (HM.out _ (grown_a (World.grownBy.refl _ none) _)).mono ?_
        rintro e w2 ⟨rfl, hm2⟩
        have H2 := Lib.hid hm2
        generalize (errV (pokeM (behindM 20000 (kM k n rounds) (List.take i (pickL n l))) z).1) = RV
        clear hm2 HM hc0 hc1
        go_wp2
        go_roundw
        case rel => exact ⟨i + 1, by omega, by go_num, H2.out⟩
        case measure => simp [intOf]; omega
    · have hkk : i = (pickL n l).length := by unfold pickL; rw [List.length_map, HLen.out]; omega
      have hkn : ¬ (i : Int) < (nm : Int) := by omega
      rw [hkk, List.take_length] at hm
      have HM := Lib.hid hm
      clear hm hkk
      go_wp2
      go_ret
      exact ⟨c, rfl, HM.out⟩
end Go.Proofs.YtgkfhihnfllmhaaGreatDoor

namespace Go.Proofs.YtgkfhihnfllmhaaGreatDoor
set_option maxRecDepth 100000
open Go.RowKit Go.Shelf Go.Sort
set_option linter.unusedVariables false
set_option linter.unusedSimpArgs false

theorem allTo_iff (m : Mach) : ∀ k, allTo m k = true ↔ ∀ t, t < k → m.ended.getD t false = true
  | 0 => ⟨fun _ t h => absurd h (by omega), fun _ => rfl⟩
  | k + 1 => by
    rw [allTo_succ, Bool.and_eq_true, allTo_iff m k]
    exact ⟨fun h t ht => (by
      by_cases e : t = k
      · subst e; exact h.2
      · exact h.1 t (by omega)), fun h => ⟨fun t ht => h t (by omega), h k (by omega)⟩⟩
theorem ends_done {m : Mach} (h : ∀ t, t < m.progs.length → m.ended.getD t false = true) : endsM m = (true, false) := by
  unfold endsM
  rw [(allTo_iff m _).2 h]
  simp
theorem DnE.ends {k n rounds p : Nat} {m : Mach} (h : DnE k n rounds p m) : endsM m = (true, false) := ends_done fun t ht => h.ended (by rw [← h.dn.plen]; exact ht)

set_option maxHeartbeats 2000000 in
theorem danced_any {w : World} (H : DanceOK) (hw : DW w) : Calls Tryz.prog 22 #[] w fun e w' => e = .returned (.bool true) ∧ Below w.heap.size w w' := by
  have d : Dims 1 2 1 := ⟨by decide, by decide, by decide, by decide, by decide⟩
  have HN := Lib.hid (H.new hw d)
  have HB := Lib.hid (kM_big d)
  go_enter Tryz.func22, Tryz.ntmps22
  go_wp2_with fail
  refine HN.out.mono ?_
  rintro e w1 ⟨c, rfl, hA⟩
  have HF := Lib.hid (at_fin H hA HB.out)
  clear hA HN
  go_wp2_with fail
  refine HF.out.mono ?_
  rintro e w2 ⟨m, hf, rfl, hA2, hb2⟩
  have hD := dn_fin d (dn_new d) (by decide) hf
  have hs := danced_fin hf
  rw [danced_steps.1] at hs
  have hs0 : (kM 1 2 1).steps = 0 := rfl
  rw [hs, hs0]
  have HA2 := Lib.hid hA2
  have HEnds := Lib.hid (at_ends hA2 (by rw [hD.dn.plen]; decide))
  rw [hD.ends] at HEnds
  have HOk := Lib.hid (judge_ok.2 hD.dn.ok)
  have HBoth := Lib.hid (hD.both (by decide))
  have HLen := Lib.hid hD.len
  clear hA2 hb2 hf hD hs hs0 HF HB
  go_wp2_with fail
  refine HEnds.out.mono ?_
  rintro e w3 ⟨rfl, hg3⟩
  have HA3 := Lib.hid (HA2.out.grow hg3)
  clear hg3 HA2 HEnds
  go_wp2_with fail
  refine (at_events HA3.out (by have := HLen.out; omega)).mono ?_
  rintro e w4 ⟨A4, c4, rfl, ho4, hg4⟩
  have HA4 := Lib.hid (HA3.out.grow hg4)
  have HJ := Lib.hid (H.judge (cap := c4) (n := 2) (by decide) (by decide) (by have := HLen.out; omega) (evRow_own ho4 rfl) HOk.out)
  rw [HBoth.out.1, HBoth.out.2] at HJ
  clear hg4 HA3 ho4
  go_wp2_with fail
  refine HJ.out.mono ?_
  rintro e w5 ⟨rfl, hb5⟩
  have HB5 := Lib.hid (HA4.out.keepB hb5).bel
  clear hb5
  go_wp2
  go_ret
  exact ⟨rfl, HB5.out⟩
end Go.Proofs.YtgkfhihnfllmhaaGreatDoor

namespace Go.Proofs.YtgkfhihnfllmhaaGreatDoor
set_option maxRecDepth 100000
open Go.RowKit Go.Shelf Go.Sort
set_option linter.unusedVariables false
set_option linter.unusedSimpArgs false

/-- A barrier's machine at a place. -/
structure Flo (w : World) (c k n rounds p : Nat) (m : Mach) (wr : World) : Prop where
  at_ : At w c m wr
  big : MBig (List.replicate (kCells k n) 0) m
  dn : Dn k n rounds p m
section
variable {w wr w' : World} {c k n rounds p : Nat} {m : Mach}
theorem Flo.grow (h : Flo w c k n rounds p m wr) (hg : wr.grownBy w' none) : Flo w c k n rounds p m w' := ⟨h.at_.grow hg, h.big, h.dn⟩
theorem Flo.keep (h : Flo w c k n rounds p m wr) (hb : Below wr.heap.size wr w') : Flo w c k n rounds p m w' := ⟨h.at_.keepB hb, h.big, h.dn⟩
theorem Flo.bel (h : Flo w c k n rounds p m wr) : Below w.heap.size w wr := h.at_.bel
theorem Flo.few (h : Flo w c k n rounds p m wr) : m.events.length ≤ 20000 ∧ m.acts.length ≤ 20000 := by
  have a := h.big.events
  have b := h.big.acts
  have c := h.big.most
  omega

theorem floor_flo {w w1 : World} (H : DanceOK) (hw : DW w) (hb : Below w.heap.size w w1) (d : Dims k n rounds) {D : Option Addr} {nm cm : Nat} {l : List (Int × Bool)} (hl : Moves w w.heap.size D nm l) (hnm : nm ≤ 900) :
    Calls Tryz.prog 24 #[.int .i64 (k : Nat), .int .i64 (n : Nat), .int .i64 (rounds : Nat), .slice D nm cm] w1 fun e w' => ∃ c m, e = .returned (.pointer (some ⟨c, 0, none⟩)) ∧ Flo w c k n rounds (pokesM (pickL n l)) m w' ∧ pokesM (pickL n l) ≤ 900 := by
  have hp : pokesM (pickL n l) ≤ 900 := by
    have h1 := pokesM_le (pickL n l)
    have h2 : (pickL n l).length = nm := by unfold pickL; rw [List.length_map, hl.len]
    omega
  refine (floor_any H (hw.old hb) d D nm cm l (hl.old hb) (by omega)).mono ?_
  rintro e w' ⟨c, rfl, hA⟩
  have hD := dn_moves d (pickL_lt (by have := d.n1; omega) l) (dn_new d) (by omega)
  rw [Nat.zero_add] at hD
  exact ⟨c, _, rfl, ⟨hA.old hb, (kM_big d).behind _, hD⟩, hp⟩
theorem flo_fin (H : DanceOK) (d : Dims k n rounds) (h : Flo w c k n rounds p m wr) (hp : p ≤ 900) :
    Calls Tryz.prog 15 #[.pointer (some ⟨c, 0, none⟩)] wr fun e w' => ∃ m', e = .returned (.int .i64 ((m'.steps : Int) - (m.steps : Int))) ∧ Flo w c k n rounds p m' w' ∧ DnE k n rounds p m' ∧ Fin m m' := by
  refine (at_fin H h.at_ h.big).mono ?_
  rintro e w' ⟨m', hf, rfl, hA, hb⟩
  have hD := dn_fin d h.dn hp hf
  exact ⟨m', rfl, ⟨hA, hb, hD.dn⟩, hD, hf⟩
theorem flo_step (d : Dims k n rounds) (h : Flo w c k n rounds p m wr) (hp : p ≤ 900) {t : Nat} (ht : t < n) :
    Calls Tryz.prog 61 #[.pointer (some ⟨c, 0, none⟩), .int .i64 (t : Nat)] wr fun e w' => e = .returned (errV (stepM 20000 m (t : Nat)).1) ∧ Flo w c k n rounds p (stepM 20000 m (t : Nat)).2 w' :=
  (at_step h.at_ h.big t).mono fun e w' ⟨he, hA⟩ => ⟨he, hA, h.big.step _, dn_step d h.dn hp ht⟩
theorem flo_ends (d : Dims k n rounds) (h : Flo w c k n rounds p m wr) :
    Calls Tryz.prog 16 #[.pointer (some ⟨c, 0, none⟩)] wr fun e w' => e = .returned (.tuple #[.bool (endsM m).1, .bool (endsM m).2]) ∧ wr.grownBy w' none := at_ends h.at_ (by rw [h.dn.plen]; exact d.n16)
theorem flo_events (h : Flo w c k n rounds p m wr) :
    Calls Tryz.prog 14 #[.pointer (some ⟨c, 0, none⟩)] wr fun e w' => ∃ A cap, e = .returned (.slice A m.events.length cap) ∧ w'.ownsRow wr.heap.size 48 4 (.slice A m.events.length cap) m.events.length (cellsE m.events) ∧ wr.grownBy w' none := at_events h.at_ h.few.1
theorem flo_judge {w1 : World} {A : Option Addr} {cap B : Nat} (H : DanceOK) (d : Dims k n rounds) (h : Flo w c k n rounds p m wr) (ho : w1.ownsRow B 48 4 (.slice A m.events.length cap) m.events.length (cellsE m.events)) :
    Calls Tryz.prog 13 #[.slice A m.events.length cap, .int .i64 (n : Nat)] w1 fun e w' => e = .returned (.tuple #[.int .i64 (jAll n m.events : Nat), .int .i64 (jAny n m.events : Nat), .nilIface]) ∧ Below w1.heap.size w1 w' :=
  H.judge d.n1 d.n16 h.few.1 (evRow_own ho rfl) (judge_ok.2 h.dn.ok)
end

end Go.Proofs.YtgkfhihnfllmhaaGreatDoor

namespace Go.Proofs.YtgkfhihnfllmhaaGreatDoor
set_option maxRecDepth 100000
open Go.RowKit Go.Shelf Go.Sort
set_option linter.unusedVariables false
set_option linter.unusedSimpArgs false

end Go.Proofs.YtgkfhihnfllmhaaGreatDoor

namespace Go.Proofs.YtgkfhihnfllmhaaGreatDoor
set_option maxRecDepth 100000
open Go.RowKit Go.Shelf Go.Sort
set_option linter.unusedVariables false
set_option linter.unusedSimpArgs false

theorem EvRow.old {w w' : World} {A : Option Addr} {n : Nat} {l : List Ev4} (h : EvRow w A n l) (hb : Below w.heap.size w w') : EvRow w' A n l := fun i hi => by
  obtain ⟨b, off, e, x1, x2, x3, x4⟩ := h i hi
  have hlt := World.block_lt_of_cell? w ⟨b, off + i * 4, none⟩ x1
  have k := fun j => World.cell?_of_block (a := ⟨b, j, none⟩) (hb.block b hlt)
  exact ⟨b, off, e, (k _).trans x1, (k _).trans x2, (k _).trans x3, (k _).trans x4⟩
theorem ActRow.old {w w' : World} {A : Option Addr} {n : Nat} {l : List Act6} (h : ActRow w A n l) (hb : Below w.heap.size w w') : ActRow w' A n l := fun i hi => by
  obtain ⟨b, off, e, x1, x2, x3, x4, x5, x6⟩ := h i hi
  have hlt := World.block_lt_of_cell? w ⟨b, off + i * 6, none⟩ x1
  have k := fun j => World.cell?_of_block (a := ⟨b, j, none⟩) (hb.block b hlt)
  exact ⟨b, off, e, (k _).trans x1, (k _).trans x2, (k _).trans x3, (k _).trans x4, (k _).trans x5, (k _).trans x6⟩
theorem Flo.old {w w1 wr : World} {c k n rounds p : Nat} {m : Mach} (h : Flo w1 c k n rounds p m wr) (hb : Below w.heap.size w w1) : Flo w c k n rounds p m wr := ⟨h.at_.old hb, h.big, h.dn⟩
end Go.Proofs.YtgkfhihnfllmhaaGreatDoor
