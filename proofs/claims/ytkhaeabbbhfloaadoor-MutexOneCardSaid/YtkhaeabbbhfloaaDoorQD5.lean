/-
  Step: a thread goes on by an instruction. Poke, and Run: pick by pick.
-/
import Derived.Test.YtkhaeabbbhfloaaDoorQD2
import Derived.Test.YtkhaeabbbhfloaaDoorQD3
import Derived.Test.YtkhaeabbbhfloaaDoorQD4
namespace Go.Proofs.YtkhaeabbbhfloaaDoor
set_option maxRecDepth 100000
open Go.RowKit Go.Shelf Go.Sort
set_option linter.unusedVariables false
set_option linter.unusedSimpArgs false

theorem errEff_op {x : Ins5} {r c : List Int} (h7 : x.1 ≠ 7) (h15 : x.1 ≠ 15) : errEff (eff x r c) = 0 := by
  obtain ⟨op, a, b, cc, d⟩ := x
  dsimp only at h7 h15
  unfold eff
  dsimp only
  rw [if_neg h7, if_neg h15]
  simp only [apply_ite errEff]
  simp only [errEff, ite_self]

theorem do_any {w : World} {B : Nat} {S : Nat → Prop} {X : KB} {m : Mach} {k i : Nat} {x : Ins5} (h : Core w B S X m) (hB : B ≤ w.heap.size) (hd : DoAt m k i x) (hf : Fits (at1 m k i) k x) :
    Calls Tryd.prog 35 #[.pointer (some ⟨X.c, 0, none⟩), .int .i64 k] w fun e w' => e = .returned (errV (errEff (eff x (m.regs.getD k []) m.cells))) ∧ Moved w B S X (after (at1 m k i) k x.1 (eff x (m.regs.getD k []) m.cells)) w' := by
  have lo := hf.fit.lo
  have hi := hf.fit.hi
  obtain ⟨op, a, b, c, d⟩ := x
  dsimp only at lo hi
  obtain ⟨o, rfl⟩ : ∃ o : Nat, op = o := ⟨op.toNat, by omega⟩
  have ho : o < 17 := by omega
  have E : ∀ {P : World → Prop}, (o : Int) ≠ 7 → (o : Int) ≠ 15 → Calls Tryd.prog 35 #[.pointer (some ⟨X.c, 0, none⟩), .int .i64 k] w (fun e w' => e = .returned .nilIface ∧ P w') → Calls Tryd.prog 35 #[.pointer (some ⟨X.c, 0, none⟩), .int .i64 k] w fun e w' => e = .returned (errV (errEff (eff ((o : Int), a, b, c, d) (m.regs.getD k []) m.cells))) ∧ P w' := by
    intro P h7 h15 hc
    rw [errEff_op (x := ((o : Int), a, b, c, d)) h7 h15]
    exact hc
  match o, ho with
  | 0, _ => exact E (by decide) (by decide) (do_0 h hB hd hf)
  | 1, _ => exact E (by decide) (by decide) (do_1 h hB hd hf)
  | 2, _ => exact E (by decide) (by decide) (do_2 h hB hd hf)
  | 3, _ => exact E (by decide) (by decide) (do_3 h hB hd hf)
  | 4, _ => exact E (by decide) (by decide) (do_4 h hB hd hf)
  | 5, _ => exact E (by decide) (by decide) (do_5 h hB hd hf)
  | 6, _ => exact E (by decide) (by decide) (do_6 h hB hd hf)
  | 7, _ => exact do_7 h hB hd hf
  | 8, _ => exact E (by decide) (by decide) (do_8 h hB hd hf)
  | 9, _ => exact E (by decide) (by decide) (do_9 h hB hd hf)
  | 10, _ => exact E (by decide) (by decide) (do_10 h hB hd hf)
  | 11, _ => exact E (by decide) (by decide) (do_11 h hB hd hf)
  | 12, _ => exact E (by decide) (by decide) (do_12 h hB hd hf)
  | 13, _ => exact E (by decide) (by decide) (do_13 h hB hd hf)
  | 14, _ => exact E (by decide) (by decide) (do_14 h hB hd hf)
  | 15, _ => exact do_15 h hB hd hf
  | 16, _ => exact E (by decide) (by decide) (do_16 h hB hd hf)

/-- What is kept by all moves, and how much of all there is. -/
structure MBig (cells0 : List Int) (m : Mach) : Prop where
  ok : MOk cells0 m
  few : m.progs.length ≤ 16
  acts : m.acts.length ≤ m.steps
  events : m.events.length ≤ m.steps
  most : m.steps ≤ 20000

theorem MBig.step {cells0 : List Int} {m : Mach} (h : MBig cells0 m) (t : Int) : MBig cells0 (stepM 20000 m t).2 := by
  refine ⟨stepM_ok 20000 h.ok t, by rw [stepM_progs]; exact h.few, ?_, ?_, ?_⟩
  all_goals (rcases stepM_cases 20000 m t with ⟨c, e, _⟩ | ⟨_, _, _, _, hs, e⟩)
  all_goals rw [e]
  · exact h.acts
  · have := h.acts
    rw [doEff_steps]
    cases effAt m t.toNat with
    | mem c now r =>
      cases r with
      | none => show (m.acts ++ [_]).length ≤ _; simp; omega
      | some rv => show (m.acts ++ [_]).length ≤ _; simp; omega
    | _ => show m.acts.length ≤ _; omega
  · exact h.events
  · have := h.events
    rw [doEff_steps]
    cases effAt m t.toNat with
    | mem c now r =>
      cases r with
      | none => show m.events.length ≤ _; omega
      | some rv => show m.events.length ≤ _; omega
    | say a v => show (m.events ++ [_]).length ≤ _; simp; omega
    | _ => show m.events.length ≤ _; omega
  · exact h.most
  · rw [doEff_steps]; omega
theorem MBig.poke {cells0 : List Int} {m : Mach} (h : MBig cells0 m) (t : Int) : MBig cells0 (pokeM m t).2 := by
  have e : (pokeM m t).2.progs = m.progs ∧ (pokeM m t).2.acts = m.acts ∧ (pokeM m t).2.events = m.events ∧ (pokeM m t).2.steps = m.steps := by
    unfold pokeM
    repeat' split
    all_goals exact ⟨rfl, rfl, rfl, rfl⟩
  obtain ⟨e1, e2, e3, e4⟩ := e
  exact ⟨pokeM_ok h.ok t, by rw [e1]; exact h.few, by rw [e2, e4]; exact h.acts, by rw [e3, e4]; exact h.events, by rw [e4]; exact h.most⟩

/-- Asleep: at a cell. -/
theorem asleep_cell {cells0 : List Int} {m : Mach} (h : MOk cells0 m) (t : Int) : asleepM m t = true ↔ 0 ≤ cellM m t := by
  unfold asleepM cellM
  cases hf : m.lot.find? (fun s => s.1 == t) with
  | none =>
    rw [List.find?_eq_none] at hf
    constructor
    · intro ha
      rw [List.any_eq_true] at ha
      obtain ⟨s, hs, e⟩ := ha
      exact absurd e (hf s hs)
    · intro h0
      simp at h0
  | some s =>
    have hs := List.mem_of_find?_eq_some hf
    have he := List.find?_some hf
    obtain ⟨k, e, h1, _, h3, h4, h5⟩ := h.lot s hs
    constructor
    · intro _
      obtain ⟨a0, a1⟩ := h.at_ k h1
      obtain ⟨_, _, _, _, hg, _⟩ := h.right k h1
      have hx := fitX_of _ _ _ (hg (m.at_.getD k 0 - 1).toNat (by omega))
      have hc := hx.ca (by rw [h4]; decide)
      rw [h5] at hc
      exact hc.1
    · intro _
      rw [List.any_eq_true]
      exact ⟨s, hs, he⟩

theorem step_ready {cells0 : List Int} {m : Mach} (h : MOk cells0 m) (t : Int) (hr : readyE m t ≠ 0) : stepM 20000 m t = (readyE m t, m) := by
  unfold readyE stepM at *
  by_cases h1 : t < 0 ∨ (m.progs.length : Int) ≤ t
  · rw [if_pos h1, if_pos h1]
  rw [if_neg h1] at hr
  rw [if_neg h1, if_neg h1]
  by_cases h2 : m.ended.getD t.toNat false = true
  · rw [if_pos h2, if_pos h2]
  rw [if_neg h2] at hr
  rw [if_neg h2, if_neg h2]
  by_cases h3 : 0 ≤ cellM m t
  · rw [if_pos h3, if_pos ((asleep_cell h t).2 h3)]
  · rw [if_neg h3] at hr
    exact absurd rfl hr
theorem ready_zero {cells0 : List Int} {m : Mach} (h : MOk cells0 m) {t : Int} (hr : readyE m t = 0) : 0 ≤ t ∧ t < m.progs.length ∧ m.ended.getD t.toNat false = false ∧ asleepM m t = false := by
  unfold readyE at hr
  by_cases h1 : t < 0 ∨ (m.progs.length : Int) ≤ t
  · rw [if_pos h1] at hr; exact absurd hr (by decide)
  rw [if_neg h1] at hr
  by_cases h2 : m.ended.getD t.toNat false = true
  · rw [if_pos h2] at hr; exact absurd hr (by decide)
  rw [if_neg h2] at hr
  by_cases h3 : 0 ≤ cellM m t
  · rw [if_pos h3] at hr; exact absurd hr (by decide)
  exact ⟨by omega, by omega, by simpa using h2, by
    cases ha : asleepM m t with
    | false => rfl
    | true => exact absurd ((asleep_cell h t).1 ha) h3⟩
theorem step_most {cells0 : List Int} {m : Mach} (h : MOk cells0 m) {t : Int} (hr : readyE m t = 0) (hs : 20000 ≤ m.steps) : stepM 20000 m t = (4, m) := by
  obtain ⟨h0, h1, h2, h3⟩ := ready_zero h hr
  unfold stepM
  rw [if_neg (by omega), if_neg (by rw [h2]; decide), if_neg (by rw [h3]; decide), if_pos hs]
theorem step_does {cells0 : List Int} {m : Mach} (h : MOk cells0 m) {k : Nat} (hr : readyE m k = 0) (hs : m.steps < 20000) : stepM 20000 m k = (errEff (effAt m k), doEff m k (insOf m k).1 (effAt m k)) := by
  obtain ⟨h0, h1, h2, h3⟩ := ready_zero h hr
  unfold stepM
  rw [if_neg (by omega), if_neg (by rw [h2]; decide), if_neg (by rw [h3]; decide), if_neg (by omega)]
  rfl

/-- Behind the count of the step: what do asks. -/
theorem does_at {cells0 : List Int} {m : Mach} (h : MBig cells0 m) {k : Nat} (hr : readyE m k = 0) : DoAt { m with steps := m.steps + 1 } k (m.at_.getD k 0).toNat (insOf m k) ∧ Fits (at1 { m with steps := m.steps + 1 } k (m.at_.getD k 0).toNat) k (insOf m k) := by
  obtain ⟨h0, h1, h2, h3⟩ := ready_zero h.ok hr
  have hk : k < m.progs.length := by omega
  obtain ⟨a0, a1⟩ := h.ok.at_ k hk
  obtain ⟨r0, r1, r2, r3, _, _⟩ := h.ok.right k hk
  obtain ⟨g8, gu⟩ := h.ok.regs k hk
  have hl := h.ok.lotLen
  have hf := h.few
  have ha := h.acts
  have he := h.events
  have hm := h.most
  refine ⟨⟨hk, h.ok.la, h.ok.le, h.ok.lr, g8, gu, by simpa using h2, by show m.at_.getD k 0 = _; omega, by show _ < (m.progs.getD k []).length; omega, rfl, by omega⟩, ⟨hk, ?_, h.ok.le, h.ok.lr, g8, gu, by show m.cells.length ≤ 300; rw [h.ok.lc]; omega, h.ok.fit hk, by show m.lot.length ≤ 16; omega, h.ok.once, h3, by show m.acts.length ≤ _; omega, by show m.events.length ≤ _; omega⟩⟩
  show (m.at_.set k _).length = _
  rw [List.length_set]
  exact h.ok.la

theorem Moved.core {w w' : World} {B : Nat} {S : Nat → Prop} {X : KB} {m' m'' : Mach} (h : Moved w B S X m' w') (h2 : ∀ S' X', Core w' B S' X' m' → Core w' B S' X' m'') : Moved w B S X m'' w' := by
  obtain ⟨S', X', e1, e2, hC, hS, hK⟩ := h
  exact ⟨S', X', e1, e2, h2 _ _ hC, hS, hK⟩

theorem moved_does {w w' : World} {B : Nat} {S : Nat → Prop} {X : KB} {cells0 : List Int} {m : Mach} (hb : MBig cells0 m) {k : Nat} (hk : k < m.progs.length) {op : Int} {e : Eff} (h : Moved w B S X (after (at1 { m with steps := m.steps + 1 } k (m.at_.getD k 0).toNat) k op e) w') : Moved w B S X (doEff m k op e) w' := by
  obtain ⟨a0, a1⟩ := hb.ok.at_ k hk
  have ea : ((m.at_.getD k 0).toNat : Int) + 1 = m.at_.getD k 0 + 1 := by omega
  have la := hb.ok.la
  have le := hb.ok.le
  have hset : ∀ z : Int, (m.at_.set k z).set k (m.at_.getD k 0) = m.at_ := by
    intro z
    rw [List.set_set]
    exact set_getD_self (by omega)
  have hend : Moved w B S X { m with steps := m.steps + 1, at_ := m.at_.set k (((m.at_.getD k 0).toNat : Int) + 1), ended := m.ended.set k true } w' → Moved w B S X { m with steps := m.steps + 1, ended := m.ended.set k true } w' := fun h => h.core fun S' X' hC => by
    have := hC.atAny (k := k) (by dsimp only; exact getD_set_eq _ _ _ _ (by omega)) (by dsimp only; rw [List.length_set]; exact la) (m.at_.getD k 0)
    dsimp only at this
    rw [hset] at this
    exact this
  cases e with
  | halt => exact hend h
  | lost => exact hend h
  | mem c now r =>
    cases r with
    | none => simp only [after, at1, doEff, ea] at h ⊢; exact h
    | some rv => simp only [after, at1, doEff, ea] at h ⊢; exact h
  | goto p => simp only [after, at1, doEff, List.set_set] at h ⊢; exact h
  | set r v => simp only [after, at1, doEff, ea] at h ⊢; exact h
  | next => simp only [after, at1, doEff, ea] at h ⊢; exact h
  | sleep c => simp only [after, at1, doEff, ea] at h ⊢; exact h
  | wake c n => simp only [after, at1, doEff, ea] at h ⊢; exact h
  | say a v => simp only [after, at1, doEff, ea] at h ⊢; exact h

set_option maxHeartbeats 2000000 in
theorem kstep_any {w : World} {B : Nat} {S : Nat → Prop} {X : KB} {cells0 : List Int} {m : Mach} (h : Core w B S X m) (hB : B ≤ w.heap.size) (hb : MBig cells0 m) (t : Int) :
    Calls Tryd.prog 19 #[.pointer (some ⟨X.c, 0, none⟩), .int .i64 t] w fun e w' => e = .returned (errV (stepM 20000 m t).1) ∧ Moved w B S X (stepM 20000 m t).2 w' := by
  have HR := Lib.hid (ready_any h t)
  obtain ⟨_, _, _, _, _, c5⟩ := h.cells
  have hcl : X.c < w.heap.size := lt_of_block h.at_
  by_cases hr : readyE m t = 0
  · rw [hr, errV_zero] at HR
    by_cases hs : 20000 ≤ m.steps
    · rw [step_most hb.ok hr hs]
      have HC := Lib.hid h
      have hsz : (20000 : Int) ≤ (m.steps : Int) := by omega
      show Calls _ _ _ _ fun e w' => e = .returned (errV 4) ∧ Moved w B S X m w'
      generalize (m.steps : Int) = s at *
      clear h hb hr hB
      go_enter Tryd.func19, Tryd.ntmps19
      go_wp2_with fail
      refine HR.out.mono ?_
      rintro e w1 ⟨rfl, hg⟩
      have c5' := (World.cell?_of_block (a := ⟨X.c, 5, none⟩) (hg.block _ hcl (by intro e; cases e))).trans c5
      have HM := Lib.hid ((Moved.of HC.out (Keeps.refl _ _)).grow hg)
      clear HR HC hg c5
      go_wp2
      go_ret
      exact ⟨rfl, HM.out⟩
    · obtain ⟨h0, h1, h2, h3⟩ := ready_zero hb.ok hr
      obtain ⟨k, rfl⟩ := nat_of h0
      have hk : k < m.progs.length := by omega
      rw [step_does hb.ok hr (by omega)]
      have hs2 : m.steps < 20000 := by omega
      have HD := Lib.hid (fun (w1 w2 : World) (hg : w.grownBy w1 none) (hg2 : (w1.setCell ⟨X.c, 5, none⟩ (.int .i64 ((m.steps : Int) + 1))).grownBy w2 none) => by
        obtain ⟨hd, hf⟩ := does_at hb hr
        obtain ⟨hC, hK⟩ := (h.grow hg).tick (m.steps + 1)
        rw [show ((m.steps + 1 : Nat) : Int) = (m.steps : Int) + 1 by omega] at hC hK
        have hC2 := hC.grow hg2
        have hK2 : Keeps S w w2 := ((Keeps.of_grown hg (by intro k hk; cases hk)).trans hK).trans (Keeps.of_grown hg2 (by intro k hk; cases hk))
        have hsz := hK2.size
        exact (do_any hC2 (by omega) hd hf).mono (R' := fun e w' => e = .returned (errV (errEff (effAt m k))) ∧ Moved w B S X (doEff m k (insOf m k).1 (effAt m k)) w') fun e w' ⟨he, hm⟩ => ⟨he, (moved_does hb hk hm).from hK2⟩)
      have hsz : (m.steps : Int) < 20000 := by omega
      have hs0 : 0 ≤ (m.steps : Int) := by omega
      have hfz := h.loose 5
      generalize (m.steps : Int) = s at *
      obtain ⟨RV, hRV⟩ : ∃ v, v = errV (errEff (effAt m k)) := ⟨_, rfl⟩
      obtain ⟨M, hM⟩ : ∃ M : World → Prop, M = Moved w B S X (doEff m k (insOf m k).1 (effAt m k)) := ⟨_, rfl⟩
      rw [← hRV, ← hM] at HD ⊢
      clear h hb hr hB hRV hM hk h0 h1 h2 h3 hs hs2
      have hw1 : wrap64 (s + 1) = s + 1 := by unfold wrap64; omega
      go_enter Tryd.func19, Tryd.ntmps19
      go_wp2_with fail
      refine HR.out.mono ?_
      rintro e w1 ⟨rfl, hg⟩
      have hb5 := hg.block _ hcl (by intro e; cases e)
      have c5' := (World.cell?_of_block (a := ⟨X.c, 5, none⟩) hb5).trans c5
      have f5' := (World.frozen?_of_block (a := ⟨X.c, 5, none⟩) hb5).trans hfz
      have HG := Lib.hid hg
      clear HR hg c5 hb5 hfz hcl
      go_wp2_with fail
      refine (HD.out _ _ HG.out (World.grownBy.refl _ none)).mono ?_
      rintro e w3 ⟨rfl, hm⟩
      have HMM := Lib.hid hm
      clear hm HD HG
      go_wp2
      go_ret
      exact ⟨rfl, HMM.out⟩
  · rw [step_ready hb.ok t hr]
    have HC := Lib.hid h
    show Calls _ _ _ _ fun e w' => e = .returned (errV (readyE m t)) ∧ Moved w B S X m w'
    have he := errV_pos hr
    rw [he] at HR ⊢
    generalize (readyE m t : Int) = z at *
    clear h hb hr hB he
    go_enter Tryd.func19, Tryd.ntmps19
    go_wp2_with fail
    refine HR.out.mono ?_
    rintro e w1 ⟨rfl, hg⟩
    have HM := Lib.hid ((Moved.of HC.out (Keeps.refl _ _)).grow hg)
    clear HR HC hg
    go_wp2
    go_ret
    exact ⟨rfl, HM.out⟩
end Go.Proofs.YtkhaeabbbhfloaaDoor

namespace Go.Proofs.YtkhaeabbbhfloaaDoor
set_option maxRecDepth 100000
open Go.RowKit Go.Shelf Go.Sort
set_option linter.unusedVariables false
set_option linter.unusedSimpArgs false

theorem poke_inner {w : World} {B : Nat} {S : Nat → Prop} {X : KB} {cells0 : List Int} {m : Mach} (h : Core w B S X m) (hB : B ≤ w.heap.size) (hb : MBig cells0 m) (t : Int) :
    Calls Tryd.prog 42 #[.pointer (some ⟨X.lb, 0, none⟩), .int .i64 t] w fun e w' => e = .returned (errV (pokeM m t).1) ∧ Moved w B S X (pokeM m t).2 w' := by
  by_cases h1 : t < 0 ∨ (m.progs.length : Int) ≤ t
  · have e : pokeM m t = (2, m) := by unfold pokeM; rw [if_pos h1]
    rw [e]
    exact (poke_range h.lot t h1).mono fun e w' ⟨he, hg⟩ => ⟨he, (Moved.of h (Keeps.refl _ _)).grow hg⟩
  · by_cases h2 : asleepM m t = true
    · have e : pokeM m t = (0, { m with lot := m.lot.eraseP fun s => s.1 == t }) := by unfold pokeM; rw [if_neg h1, if_pos h2]
      rw [e]
      exact mpoke h hB t (by omega) (by omega) h2
    · have e : pokeM m t = (6, m) := by unfold pokeM; rw [if_neg h1, if_neg h2]
      rw [e]
      exact (poke_none h.lot t (by omega) (by omega) (awake_all (by simpa using h2))).mono fun e w' ⟨he, hg⟩ => ⟨he, (Moved.of h (Keeps.refl _ _)).grow hg⟩

theorem kpoke_any {w : World} {B : Nat} {S : Nat → Prop} {X : KB} {cells0 : List Int} {m : Mach} (h : Core w B S X m) (hB : B ≤ w.heap.size) (hb : MBig cells0 m) (t : Int) :
    Calls Tryd.prog 26 #[.pointer (some ⟨X.c, 0, none⟩), .int .i64 t] w fun e w' => e = .returned (errV (pokeM m t).1) ∧ Moved w B S X (pokeM m t).2 w' := by
  have HP := Lib.hid (poke_inner h hB hb t)
  obtain ⟨_, c1, _⟩ := h.cells
  obtain ⟨RV, hRV⟩ : ∃ v, v = errV (pokeM m t).1 := ⟨_, rfl⟩
  obtain ⟨M, hM⟩ : ∃ M : World → Prop, M = Moved w B S X (pokeM m t).2 := ⟨_, rfl⟩
  rw [← hRV, ← hM] at HP ⊢
  clear h hb hRV hM
  go_enter Tryd.func26, Tryd.ntmps26
  go_wp2_with fail
  refine HP.out.mono ?_
  rintro e w1 ⟨rfl, hm⟩
  have HM := Lib.hid hm
  clear hm HP
  go_wp2
  go_ret
  exact ⟨rfl, HM.out⟩

/-- A row of picks, in a block that is none of the machine's. -/
def Picks (w : World) (S : Nat → Prop) (A : Option Addr) (l : List Int) : Prop :=
  ∀ i, i < l.length → ∃ rb ro, A = some ⟨rb, ro, none⟩ ∧ rb < w.heap.size ∧ ¬ S rb ∧ w.cell? ⟨rb, ro + i, none⟩ = some (.int .i64 (l.getD i 0))
theorem Picks.keep {w w' : World} {A : Option Addr} {l : List Int} {S S' : Nat → Prop} (h : Picks w S A l) (hk : Keeps S w w') (hs : Since S S' w) : Picks w' S' A l := by
  intro i hi
  obtain ⟨rb, ro, e, h1, h2, h3⟩ := h i hi
  refine ⟨rb, ro, e, Nat.lt_of_lt_of_le h1 hk.size, fun h4 => ?_, (World.cell?_of_block (a := ⟨rb, ro + i, none⟩) (hk.block rb h1 h2)).trans h3⟩
  rcases hs rb h4 with h5 | h5
  · exact h2 h5
  · omega

theorem MBig.run {cells0 : List Int} : ∀ (l : List Int) {m : Mach}, MBig cells0 m → MBig cells0 (runM 20000 l m).2
  | [], m, h => h
  | t :: l, m, h => MBig.run l (h.step t)
theorem moved_on {w w' w'' : World} {B : Nat} {S S' : Nat → Prop} {X X' : KB} {m' m'' : Mach} (h : Core w' B S' X' m' ∧ Since S S' w ∧ Keeps S w w' ∧ X'.c = X.c ∧ X'.tv = X.tv) (h2 : Moved w' B S' X' m'' w'') : Moved w B S X m'' w'' := by
  obtain ⟨hC, hS, hK, e1, e2⟩ := h
  obtain ⟨S'', X'', e3, e4, hC2, hS2, hK2⟩ := h2
  exact ⟨S'', X'', e3.trans e1, e4.trans e2, hC2, hS.trans hS2 hK.size, hK.on hS hK2⟩

end Go.Proofs.YtkhaeabbbhfloaaDoor
