/-
  n threads that all do one straight program on one cell: what is fetched, lost, won.
-/
import Derived.Test.YtdfljhechmanlaaDoorQH3
namespace Go.Proofs.YtdfljhechmanlaaDoor
set_option maxRecDepth 100000
set_option linter.unusedVariables false
set_option linter.unusedSimpArgs false

/-- What an instruction of a straight program does. -/
def easy : Eff → Bool
  | .set _ _ => true
  | .mem c _ _ => c == 0
  | .next => true
  | .say _ _ => true
  | _ => false
/-- One line behind the other, and Halt at last; one cell. -/
structure Straight (p : List Ins5) : Prop where
  pos : 0 < p.length
  few : p.length ≤ 100
  easy : ∀ k regs cells, k + 1 < p.length → cells.length = 1 → easy (eff (p.getD k default) regs cells) = true
  halt : ∀ regs cells, eff (p.getD (p.length - 1) default) regs cells = .halt

def atN (m : Mach) (t : Nat) : Nat := (m.at_.getD t 0).toNat
structure RBase (p : List Ins5) (n : Nat) (m : Mach) : Prop where
  progs : m.progs = List.replicate n p
  la : m.at_.length = n
  le : m.ended.length = n
  lr : m.regs.length = n
  lc : m.cells.length = 1
  lot : m.lot = []
  at_ : ∀ t, t < n → m.at_.getD t 0 = atN m t ∧ atN m t < p.length ∧ (m.ended.getD t false = true → atN m t + 1 = p.length)
  regs : ∀ t, t < n → (m.regs.getD t []).length = 8
  steps : m.steps = sumN n fun t => atN m t + if m.ended.getD t false = true then 1 else 0

section
variable {p : List Ins5} {n : Nat} {m : Mach} {t : Nat}

theorem RBase.prog (h : RBase p n m) (ht : t < n) : m.progs.getD t [] = p := by
  rw [h.progs, List.getD_eq_getElem?_getD, List.getElem?_replicate, if_pos ht]
  rfl
theorem RBase.ins (h : RBase p n m) (ht : t < n) : insOf m t = p.getD (atN m t) default := by
  unfold insOf
  rw [h.prog ht]
  rfl
theorem RBase.few (h : RBase p n m) (hp : Straight p) (hn : n ≤ 16) : m.steps < 20000 := by
  rw [h.steps]
  have : sumN n (fun t => atN m t + if m.ended.getD t false = true then 1 else 0) ≤ sumN n fun _ => 100 := sumN_le fun u hu => by
    have := (h.at_ u hu).2
    have := hp.few
    split <;> omega
  rw [sumN_const] at this
  have : n * 100 ≤ 16 * 100 := Nat.mul_le_mul_right _ hn
  omega
theorem RBase.step_is (h : RBase p n m) (hp : Straight p) (hn : n ≤ 16) (ht : t < n) (he : m.ended.getD t false = false) : (stepM 20000 m t).2 = doEff m t (insOf m t).1 (effAt m t) := by
  unfold stepM
  rw [if_neg (by rw [h.progs]; simp; omega), if_neg (by rw [Int.toNat_natCast, he]; decide), if_neg (by unfold asleepM; rw [h.lot]; simp), if_neg (by have := h.few hp hn; omega)]
  rfl
theorem RBase.ended_is (h : RBase p n m) (ht : t < n) (he : m.ended.getD t false = true) : (stepM 20000 m t).2 = m := by
  unfold stepM
  rw [if_neg (by rw [h.progs]; simp; omega), if_pos (by rw [Int.toNat_natCast]; exact he)]

theorem getD_set_self {α : Type} {l : List α} {i : Nat} {a d : α} (h : i < l.length) : (l.set i a).getD i d = a := by
  rw [List.getD_eq_getElem?_getD, List.getElem?_set_self h]
  rfl
theorem getD_set_otherK {α : Type} {l : List α} {i j : Nat} {a d : α} (h : i ≠ j) : (l.set i a).getD j d = l.getD j d := by
  rw [List.getD_eq_getElem?_getD, List.getD_eq_getElem?_getD, List.getElem?_set_ne h]

/-- A step of who isn't at its end: one line on, or the end. -/
theorem RBase.step (h : RBase p n m) (hp : Straight p) (hn : n ≤ 16) (ht : t < n) (he : m.ended.getD t false = false) :
    RBase p n (stepM 20000 m t).2 ∧ (stepM 20000 m t).2.steps = m.steps + 1 ∧ (∀ u, u ≠ t → atN (stepM 20000 m t).2 u = atN m u ∧ (stepM 20000 m t).2.ended.getD u false = m.ended.getD u false ∧ (stepM 20000 m t).2.regs.getD u [] = m.regs.getD u []) ∧
    ((atN m t + 1 < p.length ∧ atN (stepM 20000 m t).2 t = atN m t + 1 ∧ (stepM 20000 m t).2.ended.getD t false = false) ∨ (atN m t + 1 = p.length ∧ atN (stepM 20000 m t).2 t = atN m t ∧ (stepM 20000 m t).2.ended.getD t false = true)) := by
  rw [h.step_is hp hn ht he]
  obtain ⟨a1, a2, a3⟩ := h.at_ t ht
  have heff : effAt m t = eff (p.getD (atN m t) default) (m.regs.getD t []) m.cells := by unfold effAt; rw [h.ins ht]
  have hone : ∀ m' : Mach, m'.progs = m.progs → m'.at_ = m.at_.set t (m.at_.getD t 0 + 1) → m'.ended = m.ended → m'.regs.length = n → (∀ u, u < n → (m'.regs.getD u []).length = 8) → (∀ u, u ≠ t → m'.regs.getD u [] = m.regs.getD u []) → m'.cells.length = 1 → m'.lot = m.lot → m'.steps = m.steps + 1 → atN m t + 1 < p.length →
      RBase p n m' ∧ m'.steps = m.steps + 1 ∧ (∀ u, u ≠ t → atN m' u = atN m u ∧ m'.ended.getD u false = m.ended.getD u false ∧ m'.regs.getD u [] = m.regs.getD u []) ∧ ((atN m t + 1 < p.length ∧ atN m' t = atN m t + 1 ∧ m'.ended.getD t false = false) ∨ (atN m t + 1 = p.length ∧ atN m' t = atN m t ∧ m'.ended.getD t false = true)) := fun m' e1 e2 e3 e4 e5 e6 e7 e8 e9 hlt => by
    have hat : ∀ u, u ≠ t → atN m' u = atN m u := fun u hu => by unfold atN; rw [e2, getD_set_otherK (Ne.symm hu)]
    have hatt : atN m' t = atN m t + 1 := by unfold atN at a1 ⊢; rw [e2, getD_set_self (by rw [h.la]; exact ht)]; omega
    refine ⟨⟨e1.trans h.progs, by rw [e2, List.length_set]; exact h.la, by rw [e3]; exact h.le, e4, e7, e8.trans h.lot, fun u hu => ?_, e5, ?_⟩, e9, fun u hu => ⟨hat u hu, by rw [e3], e6 u hu⟩, .inl ⟨hlt, hatt, by rw [e3]; exact he⟩⟩
    · by_cases hut : u = t
      · subst hut
        refine ⟨?_, by rw [hatt]; exact hlt, fun e => ?_⟩
        · rw [hatt, e2, getD_set_self (by rw [h.la]; exact ht), a1]
          omega
        · rw [e3, he] at e
          cases e
      · obtain ⟨b1, b2, b3⟩ := h.at_ u hu
        refine ⟨?_, by rw [hat u hut]; exact b2, by rw [hat u hut, e3]; exact b3⟩
        rw [hat u hut, e2, getD_set_otherK (Ne.symm hut)]
        exact b1
    · rw [e9, h.steps]
      refine (sumN_at ht (fun u hu hne => ?_) ?_).symm
      · rw [hat u hne, e3]
      · rw [hatt, e3, he]
        simp
  by_cases hlt : atN m t + 1 < p.length
  · have hez := hp.easy (atN m t) (m.regs.getD t []) m.cells hlt h.lc
    rw [← heff] at hez
    cases hE : effAt m t with
    | set r v =>
      refine hone _ rfl rfl rfl (by show (m.regs.set t _).length = n; rw [List.length_set]; exact h.lr) (fun u hu => ?_) (fun u hu => getD_set_otherK (Ne.symm hu)) h.lc rfl rfl hlt
      show ((m.regs.set t ((m.regs.getD t []).set r v)).getD u []).length = 8
      by_cases e : u = t
      · subst e; rw [getD_set_self (by rw [h.lr]; exact ht), List.length_set]; exact h.regs u hu
      · rw [getD_set_otherK (Ne.symm e)]; exact h.regs u hu
    | mem c now r =>
      cases r with
      | none => exact hone _ rfl rfl rfl h.lr h.regs (fun _ _ => rfl) (by show (m.cells.set c now).length = 1; rw [List.length_set]; exact h.lc) rfl rfl hlt
      | some rv =>
        refine hone _ rfl rfl rfl (by show (m.regs.set t _).length = n; rw [List.length_set]; exact h.lr) (fun u hu => ?_) (fun u hu => getD_set_otherK (Ne.symm hu)) (by show (m.cells.set c now).length = 1; rw [List.length_set]; exact h.lc) rfl rfl hlt
        show ((m.regs.set t ((m.regs.getD t []).set rv.1 rv.2)).getD u []).length = 8
        by_cases e : u = t
        · subst e; rw [getD_set_self (by rw [h.lr]; exact ht), List.length_set]; exact h.regs u hu
        · rw [getD_set_otherK (Ne.symm e)]; exact h.regs u hu
    | next => exact hone _ rfl rfl rfl h.lr h.regs (fun _ _ => rfl) h.lc rfl rfl hlt
    | say w v => exact hone _ rfl rfl rfl h.lr h.regs (fun _ _ => rfl) h.lc rfl rfl hlt
    | _ => rw [hE] at hez; cases hez
  · have hlen : atN m t = p.length - 1 := by omega
    have hE : effAt m t = .halt := by rw [heff, hlen]; exact hp.halt _ _
    rw [hE]
    have hat : ∀ u, atN (doEff m t (insOf m t).1 .halt) u = atN m u := fun u => rfl
    have hen : ∀ u, u ≠ t → (doEff m t (insOf m t).1 .halt).ended.getD u false = m.ended.getD u false := fun u hu => getD_set_otherK (Ne.symm hu)
    have hent : (doEff m t (insOf m t).1 .halt).ended.getD t false = true := getD_set_self (by rw [h.le]; exact ht)
    refine ⟨⟨h.progs, h.la, by show (m.ended.set t true).length = n; rw [List.length_set]; exact h.le, h.lr, h.lc, h.lot, fun u hu => ?_, h.regs, ?_⟩, rfl, fun u hu => ⟨rfl, hen u hu, rfl⟩, .inr ⟨by omega, rfl, hent⟩⟩
    · obtain ⟨b1, b2, b3⟩ := h.at_ u hu
      refine ⟨b1, b2, fun e => ?_⟩
      by_cases hut : u = t
      · subst hut; rw [hat]; omega
      · rw [hen u hut] at e; exact b3 e
    · show m.steps + 1 = _
      rw [h.steps]
      refine (sumN_at ht (fun u hu hne => ?_) ?_).symm
      · rw [hen u hne, hat]
      · rw [hent, he, hat]
        simp

theorem rbase_new (hp : Straight p) : RBase p n (newM (List.replicate n p) [0]) := by
  have hl : (List.replicate n p).length = n := List.length_replicate
  have hz : ∀ t, t < n → atN (newM (List.replicate n p) [0]) t = 0 := fun t ht => by
    unfold atN newM
    dsimp only
    rw [getD_map_const _ _ _ _ (by rw [hl]; exact ht)]
    rfl
  have hf : ∀ t, t < n → (newM (List.replicate n p) [0]).ended.getD t false = false := fun t ht => getD_map_const _ _ _ _ (by rw [hl]; exact ht)
  refine ⟨rfl, by simp [newM], by simp [newM], by simp [newM], rfl, rfl, fun t ht => ⟨?_, by rw [hz t ht]; exact hp.pos, fun e => ?_⟩, fun t ht => ?_, ?_⟩
  · rw [hz t ht]
    exact getD_map_const _ _ _ _ (by rw [hl]; exact ht)
  · rw [hf t ht] at e; cases e
  · show (((List.replicate n p).map fun _ => List.replicate 8 (0 : Int)).getD t []).length = 8
    rw [getD_map_const _ _ _ _ (by rw [hl]; exact ht)]
    rfl
  · have : sumN n (fun t => atN (newM (List.replicate n p) [0]) t + if (newM (List.replicate n p) [0]).ended.getD t false = true then 1 else 0) = sumN n fun _ => 0 := Nat.le_antisymm (sumN_le fun u hu => by rw [hz u hu, hf u hu]; simp) (sumN_le fun u hu => Nat.zero_le _)
    rw [this, sumN_const]
    show 0 = n * 0
    omega

/-- All of them, over and over. -/
theorem race_sweep (hp : Straight p) (hn : n ≤ 16) {I : Mach → Prop} (hI : ∀ m t, I m → RBase p n m → t < n → m.ended.getD t false = false → I (stepM 20000 m t).2) : ∀ (l : List Nat) (m : Mach), RBase p n m → I m → (∀ t ∈ l, t < n) →
    RBase p n (sweepM l m) ∧ I (sweepM l m) ∧ m.steps ≤ (sweepM l m).steps ∧ ((sweepM l m).steps = m.steps → sweepM l m = m ∧ ∀ t ∈ l, m.ended.getD t false = true)
  | [], m, h, i, _ => ⟨h, i, Nat.le_refl _, fun _ => ⟨rfl, fun _ h => by cases h⟩⟩
  | t :: l, m, h, i, hl => by
    have ht := hl t (.head _)
    have e2 : sweepM (t :: l) m = sweepM l (stepM 20000 m t).2 := rfl
    cases he : m.ended.getD t false with
    | true =>
      rw [e2, h.ended_is ht he]
      obtain ⟨a, b, c, d⟩ := race_sweep hp hn hI l m h i (fun u hu => hl u (.tail _ hu))
      refine ⟨a, b, c, fun e => ⟨(d e).1, fun u hu => ?_⟩⟩
      rcases List.mem_cons.1 hu with hu | hu
      · subst hu; exact he
      · exact (d e).2 u hu
    | false =>
      obtain ⟨s1, s2, _, _⟩ := h.step hp hn ht he
      rw [e2]
      obtain ⟨a, b, c, d⟩ := race_sweep hp hn hI l _ s1 (hI m t i h ht he) (fun u hu => hl u (.tail _ hu))
      exact ⟨a, b, by omega, fun e => by omega⟩
end
end Go.Proofs.YtdfljhechmanlaaDoor

namespace Go.Proofs.YtdfljhechmanlaaDoor
set_option maxRecDepth 100000
set_option linter.unusedVariables false
set_option linter.unusedSimpArgs false

/-! Of all that fetch and add one each finds another number. -/

def fetP (times : Nat) : List Ins5 := (List.range times).flatMap (fun _ => [(8, 1, 0, 1, 0), (16, 3, 1, 0, 0)]) ++ [(0, 0, 0, 0, 0)]
theorem fetB_len : ∀ m, ((List.range m).flatMap (fun _ => [((8, 1, 0, 1, 0) : Ins5), (16, 3, 1, 0, 0)])).length = 2 * m
  | 0 => rfl
  | m + 1 => by rw [List.range_succ, List.flatMap_append, List.length_append, fetB_len m]; rfl
theorem fetP_len (times : Nat) : (fetP times).length = 2 * times + 1 := by
  unfold fetP
  rw [List.length_append, fetB_len]
  rfl
theorem fetP_at (times k : Nat) : (fetP times).getD k default = if k < 2 * times then (if k % 2 = 0 then (8, 1, 0, 1, 0) else (16, 3, 1, 0, 0)) else if k = 2 * times then (0, 0, 0, 0, 0) else default := by
  have hf := fetB_len
  have key : ∀ m k, k < 2 * m → ((List.range m).flatMap (fun _ => [((8, 1, 0, 1, 0) : Ins5), (16, 3, 1, 0, 0)])).getD k default = if k % 2 = 0 then (8, 1, 0, 1, 0) else (16, 3, 1, 0, 0) := fun m => by
    induction m with
    | zero => intro k hk; omega
    | succ m ih =>
      intro k hk
      rw [List.range_succ, List.flatMap_append]
      by_cases h : k < 2 * m
      · rw [getD_left (by rw [hf]; exact h)]
        exact ih k h
      · rw [List.getD_eq_getElem?_getD, List.getElem?_append_right (by rw [hf]; omega), hf]
        rcases (by omega : k = 2 * m ∨ k = 2 * m + 1) with rfl | rfl
        · rw [if_pos (by omega), Nat.sub_self]
          rfl
        · rw [if_neg (by omega), show 2 * m + 1 - 2 * m = 1 by omega]
          rfl
  unfold fetP
  by_cases h : k < 2 * times
  · rw [getD_left (by rw [hf]; exact h), if_pos h]
    exact key times k h
  · rw [if_neg h, List.getD_eq_getElem?_getD, List.getElem?_append_right (by rw [hf]; omega), hf]
    by_cases e : k = 2 * times
    · rw [if_pos e, e, Nat.sub_self]
      rfl
    · rw [if_neg e, List.getElem?_eq_none (by simp; omega)]
      rfl
theorem fetP_straight {times : Nat} (ht : times ≤ 8) : Straight (fetP times) := by
  refine ⟨by rw [fetP_len]; omega, by rw [fetP_len]; omega, fun k regs cells hk hc => ?_, fun regs cells => ?_⟩
  · rw [fetP_len] at hk
    rw [fetP_at, if_pos (by omega)]
    split
    · rfl
    · rfl
  · rw [fetP_at, fetP_len, if_neg (by omega), if_pos (by omega)]
    rfl
/-- What threads found, and told, or are to tell. -/
structure FetI (n : Nat) (m : Mach) : Prop where
  cell : m.cells.getD 0 0 = (sumN n fun t => (atN m t + 1) / 2 : Nat)
  said : ∀ e ∈ m.events, 0 ≤ e.2.2.2 ∧ e.2.2.2 < m.cells.getD 0 0
  nod : (m.events.map (·.2.2.2)).Nodup
  pend : ∀ t, t < n → atN m t % 2 = 1 → 0 ≤ (m.regs.getD t []).getD 1 0 ∧ (m.regs.getD t []).getD 1 0 < m.cells.getD 0 0 ∧ (∀ e ∈ m.events, e.2.2.2 ≠ (m.regs.getD t []).getD 1 0) ∧ ∀ u, u < n → u ≠ t → atN m u % 2 = 1 → (m.regs.getD u []).getD 1 0 ≠ (m.regs.getD t []).getD 1 0
  len : m.events.length = sumN n fun t => atN m t / 2

theorem fet_step {n times : Nat} (hti : times ≤ 8) (hn : n ≤ 16) {m : Mach} {t : Nat} (i : FetI n m) (h : RBase (fetP times) n m) (ht : t < n) (he : m.ended.getD t false = false) : FetI n (stepM 20000 m t).2 := by
  have hp := fetP_straight hti
  obtain ⟨s1, s2, s3, s4⟩ := h.step hp hn ht he
  have hins := h.ins ht
  have hst := h.step_is hp hn ht he
  rw [fetP_at] at hins
  have hlen := fetP_len times
  rcases s4 with ⟨hlt, hat, hen⟩ | ⟨heq, hat, hen⟩
  · rw [hlen] at hlt
    rw [if_pos (by omega)] at hins
    by_cases hpar : atN m t % 2 = 0
    · rw [if_pos hpar] at hins
      have heff : effAt m t = .mem 0 ((m.cells.getD 0 0 + 1) % m64) (some (1, m.cells.getD 0 0)) := by unfold effAt; rw [hins]; rfl
      have hc16 : m.cells.getD 0 0 ≤ 16 * 8 := by
        rw [i.cell]
        have : sumN n (fun t => (atN m t + 1) / 2) ≤ sumN n fun _ => 8 := sumN_le fun u hu => by
          have := (h.at_ u hu).2.1
          rw [hlen] at this
          omega
        rw [sumN_const] at this
        have : n * 8 ≤ 16 * 8 := Nat.mul_le_mul_right _ hn
        omega
      have hc0 : 0 ≤ m.cells.getD 0 0 := by rw [i.cell]; omega
      rw [small_mod (by omega) (by omega)] at heff
      rw [heff] at hst
      have hcell : (stepM 20000 m t).2.cells.getD 0 0 = m.cells.getD 0 0 + 1 := by
        rw [hst]
        show (m.cells.set 0 _).getD 0 0 = _
        exact getD_set_self (by rw [h.lc]; omega)
      have hev : (stepM 20000 m t).2.events = m.events := by rw [hst]; rfl
      have hreg : ((stepM 20000 m t).2.regs.getD t []).getD 1 0 = m.cells.getD 0 0 := by
        rw [hst]
        show ((m.regs.set t ((m.regs.getD t []).set 1 _)).getD t []).getD 1 0 = _
        rw [getD_set_self (by rw [h.lr]; exact ht), getD_set_self (by rw [h.regs t ht]; omega)]
      refine ⟨?_, ?_, by rw [hev]; exact i.nod, fun u hu hodd => ?_, ?_⟩
      · rw [hcell, i.cell]
        have := sumN_at (f := fun t_1 => (atN (stepM 20000 m t).2 t_1 + 1) / 2) (g := fun t => (atN m t + 1) / 2) (d := 1) ht (fun u hu hne => by rw [(s3 u hne).1]) (by rw [hat]; omega)
        rw [this]
        omega
      · rw [hev, hcell]
        intro e he
        have := i.said e he
        omega
      · rw [hev, hcell]
        by_cases hut : u = t
        · subst hut
          rw [hreg]
          refine ⟨hc0, by omega, fun e he e2 => ?_, fun w hw hne hodd' => ?_⟩
          · have := (i.said e he).2
            omega
          · rw [(s3 w hne).1] at hodd'
            rw [(s3 w hne).2.2]
            have := (i.pend w hw hodd').2.1
            omega
        · rw [(s3 u hut).1] at hodd
          rw [(s3 u hut).2.2]
          obtain ⟨b1, b2, b3, b4⟩ := i.pend u hu hodd
          refine ⟨b1, by omega, b3, fun w hw hne hodd' => ?_⟩
          by_cases hwt : w = t
          · subst hwt
            rw [hreg]
            omega
          · rw [(s3 w hwt).1] at hodd'
            rw [(s3 w hwt).2.2]
            exact b4 w hw hne hodd'
      · rw [hev, i.len]
        have := sumN_at (f := fun t_1 => atN (stepM 20000 m t).2 t_1 / 2) (g := fun t => atN m t / 2) (d := 0) ht (fun u hu hne => by rw [(s3 u hne).1]) (by rw [hat]; omega)
        rw [this]
        omega
    · rw [if_neg hpar] at hins
      obtain ⟨b1, b2, b3, b4⟩ := i.pend t ht (by omega)
      have hc16 : m.cells.getD 0 0 ≤ 16 * 8 := by
        rw [i.cell]
        have : sumN n (fun t => (atN m t + 1) / 2) ≤ sumN n fun _ => 8 := sumN_le fun u hu => by
          have := (h.at_ u hu).2.1
          rw [hlen] at this
          omega
        rw [sumN_const] at this
        have : n * 8 ≤ 16 * 8 := Nat.mul_le_mul_right _ hn
        omega
      have heff : effAt m t = .say 3 ((m.regs.getD t []).getD 1 0) := by
        have : effAt m t = .say 3 (signed ((m.regs.getD t []).getD 1 0)) := by unfold effAt; rw [hins]; rfl
        rw [this, small_signed (by omega)]
      rw [heff] at hst
      have hcell : (stepM 20000 m t).2.cells = m.cells := by rw [hst]; rfl
      have hev : (stepM 20000 m t).2.events = m.events ++ [((m.steps : Int) + 1, 3, (t : Int), (m.regs.getD t []).getD 1 0)] := by rw [hst]; rfl
      refine ⟨?_, ?_, ?_, fun u hu hodd => ?_, ?_⟩
      · rw [hcell, i.cell]
        have := sumN_at (f := fun t_1 => (atN (stepM 20000 m t).2 t_1 + 1) / 2) (g := fun t => (atN m t + 1) / 2) (d := 0) ht (fun u hu hne => by rw [(s3 u hne).1]) (by rw [hat]; omega)
        rw [this]
        omega
      · rw [hev, hcell]
        intro e he
        rcases List.mem_append.1 he with he | he
        · exact i.said e he
        · rw [List.mem_singleton] at he
          subst he
          exact ⟨b1, b2⟩
      · rw [hev, List.map_append]
        unfold List.Nodup
        refine List.pairwise_append.2 ⟨i.nod, List.pairwise_singleton _ _, fun a ha b hb => ?_⟩
        obtain ⟨e, he, e2⟩ := List.mem_map.1 ha
        rw [List.map_singleton, List.mem_singleton] at hb
        subst hb e2
        exact b3 e he
      · by_cases hut : u = t
        · subst hut
          rw [hat] at hodd
          omega
        · rw [(s3 u hut).1] at hodd
          rw [(s3 u hut).2.2, hcell, hev]
          obtain ⟨c1, c2, c3, c4⟩ := i.pend u hu hodd
          refine ⟨c1, c2, fun e he => ?_, fun w hw hne hodd' => ?_⟩
          · rcases List.mem_append.1 he with he | he
            · exact c3 e he
            · rw [List.mem_singleton] at he
              subst he
              exact c4 t ht (Ne.symm hut) (by omega)
          · by_cases hwt : w = t
            · subst hwt
              rw [hat] at hodd'
              omega
            · rw [(s3 w hwt).1] at hodd'
              rw [(s3 w hwt).2.2]
              exact c4 w hw hne hodd'
      · rw [hev, List.length_append, i.len]
        have := sumN_at (f := fun t_1 => atN (stepM 20000 m t).2 t_1 / 2) (g := fun t => atN m t / 2) (d := 1) ht (fun u hu hne => by rw [(s3 u hne).1]) (by rw [hat]; omega)
        rw [this]
        rfl
  · rw [hlen] at heq
    rw [if_neg (by omega), if_pos (by omega)] at hins
    have heff : effAt m t = .halt := by unfold effAt; rw [hins]; rfl
    rw [heff] at hst
    rw [hst]
    exact ⟨i.cell, i.said, i.nod, i.pend, i.len⟩
theorem fet_new {n times : Nat} : FetI n (newM (List.replicate n (fetP times)) [0]) := by
  have hl : (List.replicate n (fetP times)).length = n := List.length_replicate
  have hz : ∀ t, t < n → atN (newM (List.replicate n (fetP times)) [0]) t = 0 := fun t ht => by
    unfold atN newM
    dsimp only
    rw [getD_map_const _ _ _ _ (by rw [hl]; exact ht)]
    rfl
  have h0 : ∀ f : Nat → Nat, f 0 = 0 → sumN n (fun t => f (atN (newM (List.replicate n (fetP times)) [0]) t)) = 0 := fun f hf => by
    have : sumN n (fun t => f (atN (newM (List.replicate n (fetP times)) [0]) t)) ≤ sumN n fun _ => 0 := sumN_le fun u hu => by rw [hz u hu, hf]; exact Nat.le_refl _
    rw [sumN_const] at this
    omega
  refine ⟨?_, fun e h => (by cases h), List.Pairwise.nil, fun t ht e => ?_, ?_⟩
  · rw [h0 (fun x => (x + 1) / 2) rfl]
    rfl
  · rw [hz t ht] at e; omega
  · rw [h0 (fun x => x / 2) rfl]
    rfl
/-- NOTHING IS LOST. -/
theorem fet_end {n times : Nat} {m : Mach} (h : RBase (fetP times) n m) (i : FetI n m) (hd : ∀ t, t < n → m.ended.getD t false = true) : m.cells.getD 0 0 = ((n * times : Nat) : Int) ∧ (m.events.map (·.2.2.2)).Nodup ∧ m.events.length = n * times := by
  have hat : ∀ t, t < n → atN m t = 2 * times := fun t ht => by
    have := (h.at_ t ht).2.2 (hd t ht)
    rw [fetP_len] at this
    omega
  have hs : ∀ f : Nat → Nat, f (2 * times) = times → sumN n (fun t => f (atN m t)) = n * times := fun f hf => by
    have : sumN n (fun t => f (atN m t)) = sumN n fun _ => times := Nat.le_antisymm (sumN_le fun u hu => by rw [hat u hu, hf]; exact Nat.le_refl _) (sumN_le fun u hu => by rw [hat u hu, hf]; exact Nat.le_refl _)
    rw [this, sumN_const]
  refine ⟨?_, i.nod, ?_⟩
  · rw [i.cell, hs (fun x => (x + 1) / 2) (by omega)]
  · rw [i.len, hs (fun x => x / 2) (by omega)]
end Go.Proofs.YtdfljhechmanlaaDoor

namespace Go.Proofs.YtdfljhechmanlaaDoor
set_option maxRecDepth 100000
set_option linter.unusedVariables false
set_option linter.unusedSimpArgs false

theorem sumN_new {n : Nat} {p : List Ins5} (f : Nat → Nat) (hf : f 0 = 0) : sumN n (fun t => f (atN (newM (List.replicate n p) [0]) t)) = 0 := by
  have hl : (List.replicate n p).length = n := List.length_replicate
  have : sumN n (fun t => f (atN (newM (List.replicate n p) [0]) t)) ≤ sumN n fun _ => 0 := sumN_le fun u hu => by
    have : atN (newM (List.replicate n p) [0]) u = 0 := by
      unfold atN newM
      dsimp only
      rw [getD_map_const _ _ _ _ (by rw [hl]; exact hu)]
      rfl
    rw [this, hf]
    exact Nat.le_refl _
  rw [sumN_const] at this
  omega
theorem at_new {n : Nat} {p : List Ins5} {t : Nat} (ht : t < n) : atN (newM (List.replicate n p) [0]) t = 0 ∧ (newM (List.replicate n p) [0]).regs.getD t [] = List.replicate 8 0 := by
  have hl : (List.replicate n p).length = n := List.length_replicate
  constructor
  · unfold atN newM
    dsimp only
    rw [getD_map_const _ _ _ _ (by rw [hl]; exact ht)]
    rfl
  · exact getD_map_const _ _ _ _ (by rw [hl]; exact ht)
/-! What is loaded, and stored, may be lost. -/

def losP : List Ins5 := [(6, 1, 0, 0, 0), (3, 1, 1, 1, 0), (7, 0, 1, -1, 0), (0, 0, 0, 0, 0)]
theorem losP_straight : Straight losP := by
  refine ⟨by decide, by decide, fun k regs cells hk hc => ?_, fun regs cells => rfl⟩
  have hk3 : k + 1 < 4 := hk
  rcases (by omega : k = 0 ∨ k = 1 ∨ k = 2) with rfl | rfl | rfl
  · rfl
  · rfl
  · show easy (if placeOf 0 (-1) regs < cells.length then _ else _) = true
    rw [if_pos (by show (if (-1 : Int) = -1 then (0 : Int) else _) < _; rw [if_pos rfl]; omega)]
    rfl
structure LosI (n : Nat) (m : Mach) : Prop where
  cell : 0 ≤ m.cells.getD 0 0 ∧ m.cells.getD 0 0 ≤ (sumN n fun t => atN m t / 3 : Nat) ∧ (1 ≤ (sumN n fun t => atN m t / 3) → 1 ≤ m.cells.getD 0 0)
  one : ∀ t, t < n → atN m t = 1 → 0 ≤ (m.regs.getD t []).getD 1 0 ∧ (m.regs.getD t []).getD 1 0 ≤ (sumN n fun t => atN m t / 3 : Nat)
  two : ∀ t, t < n → atN m t = 2 → 1 ≤ (m.regs.getD t []).getD 1 0 ∧ (m.regs.getD t []).getD 1 0 ≤ (sumN n fun t => atN m t / 3 : Nat) + 1

theorem los_step {n : Nat} (hn : n ≤ 16) {m : Mach} {t : Nat} (i : LosI n m) (h : RBase losP n m) (ht : t < n) (he : m.ended.getD t false = false) : LosI n (stepM 20000 m t).2 := by
  have hp := losP_straight
  obtain ⟨s1, s2, s3, s4⟩ := h.step hp hn ht he
  have hins := h.ins ht
  have hst := h.step_is hp hn ht he
  have hlen : losP.length = 4 := rfl
  obtain ⟨c0, c1, c2⟩ := i.cell
  have hsn : (sumN n fun t => atN m t / 3) ≤ 16 := by
    have : sumN n (fun t => atN m t / 3) ≤ sumN n fun _ => 1 := sumN_le fun u hu => by
      have := (h.at_ u hu).2.1
      rw [hlen] at this
      omega
    rw [sumN_const] at this
    omega
  rcases s4 with ⟨hlt, hat, hen⟩ | ⟨heq, hat, hen⟩
  · rw [hlen] at hlt
    have hs := fun d hd => sumN_at (f := fun u => atN (stepM 20000 m t).2 u / 3) (g := fun u => atN m u / 3) (d := d) ht (fun u hu hne => by rw [(s3 u hne).1]) hd
    rcases (by omega : atN m t = 0 ∨ atN m t = 1 ∨ atN m t = 2) with h0 | h0 | h0
    · rw [h0] at hins
      have heff : effAt m t = .mem 0 (m.cells.getD 0 0) (some (1, m.cells.getD 0 0)) := by unfold effAt; rw [hins]; rfl
      rw [heff] at hst
      have hcell : (stepM 20000 m t).2.cells.getD 0 0 = m.cells.getD 0 0 := by
        rw [hst]
        show (m.cells.set 0 _).getD 0 0 = _
        exact getD_set_self (by rw [h.lc]; omega)
      have hreg : ((stepM 20000 m t).2.regs.getD t []).getD 1 0 = m.cells.getD 0 0 := by
        rw [hst]
        show ((m.regs.set t ((m.regs.getD t []).set 1 _)).getD t []).getD 1 0 = _
        rw [getD_set_self (by rw [h.lr]; exact ht), getD_set_self (by rw [h.regs t ht]; omega)]
      have hs0 := hs 0 (by rw [hat, h0])
      refine ⟨by rw [hcell, hs0]; exact ⟨c0, c1, c2⟩, fun u hu e => ?_, fun u hu e => ?_⟩
      · rw [hs0]
        by_cases hut : u = t
        · subst hut; rw [hreg]; exact ⟨c0, c1⟩
        · rw [(s3 u hut).1] at e; rw [(s3 u hut).2.2]; exact i.one u hu e
      · rw [hs0]
        by_cases hut : u = t
        · subst hut; omega
        · rw [(s3 u hut).1] at e; rw [(s3 u hut).2.2]; exact i.two u hu e
    · rw [h0] at hins
      obtain ⟨b1, b2⟩ := i.one t ht h0
      have heff : effAt m t = .set 1 ((m.regs.getD t []).getD 1 0 + 1) := by
        have : effAt m t = .set 1 (((m.regs.getD t []).getD 1 0 + 1) % m64) := by unfold effAt; rw [hins]; rfl
        rw [this, small_mod (by omega) (by omega)]
      rw [heff] at hst
      have hcell : (stepM 20000 m t).2.cells = m.cells := by rw [hst]; rfl
      have hreg : ((stepM 20000 m t).2.regs.getD t []).getD 1 0 = (m.regs.getD t []).getD 1 0 + 1 := by
        rw [hst]
        show ((m.regs.set t ((m.regs.getD t []).set 1 _)).getD t []).getD 1 0 = _
        rw [getD_set_self (by rw [h.lr]; exact ht), getD_set_self (by rw [h.regs t ht]; omega)]
      have hs0 := hs 0 (by rw [hat, h0])
      refine ⟨by rw [hcell, hs0]; exact ⟨c0, c1, c2⟩, fun u hu e => ?_, fun u hu e => ?_⟩
      · rw [hs0]
        by_cases hut : u = t
        · subst hut; omega
        · rw [(s3 u hut).1] at e; rw [(s3 u hut).2.2]; exact i.one u hu e
      · rw [hs0]
        by_cases hut : u = t
        · subst hut; rw [hreg]; exact ⟨by omega, by omega⟩
        · rw [(s3 u hut).1] at e; rw [(s3 u hut).2.2]; exact i.two u hu e
    · rw [h0] at hins
      obtain ⟨b1, b2⟩ := i.two t ht h0
      have heff : effAt m t = .mem 0 ((m.regs.getD t []).getD 1 0) none := by
        unfold effAt
        rw [hins]
        show (if placeOf 0 (-1) (m.regs.getD t []) < m.cells.length then Eff.mem (placeOf 0 (-1) (m.regs.getD t [])).toNat (regOf (m.regs.getD t []) 1) none else .lost) = _
        rw [if_pos (by show (if (-1 : Int) = -1 then (0 : Int) else _) < _; rw [if_pos rfl, h.lc]; omega)]
        rfl
      rw [heff] at hst
      have hcell : (stepM 20000 m t).2.cells.getD 0 0 = (m.regs.getD t []).getD 1 0 := by
        rw [hst]
        show (m.cells.set 0 _).getD 0 0 = _
        exact getD_set_self (by rw [h.lc]; omega)
      have hs1 := hs 1 (by rw [hat, h0])
      refine ⟨by rw [hcell, hs1]; exact ⟨by omega, by omega, fun _ => b1⟩, fun u hu e => ?_, fun u hu e => ?_⟩
      · rw [hs1]
        by_cases hut : u = t
        · subst hut; omega
        · rw [(s3 u hut).1] at e; rw [(s3 u hut).2.2]
          obtain ⟨a, b⟩ := i.one u hu e
          exact ⟨a, by omega⟩
      · rw [hs1]
        by_cases hut : u = t
        · subst hut; omega
        · rw [(s3 u hut).1] at e; rw [(s3 u hut).2.2]
          obtain ⟨a, b⟩ := i.two u hu e
          exact ⟨a, by omega⟩
  · rw [hlen] at heq
    rw [show atN m t = 3 by omega] at hins
    have heff : effAt m t = .halt := by unfold effAt; rw [hins]; rfl
    rw [heff] at hst
    rw [hst]
    exact ⟨i.cell, i.one, i.two⟩
theorem los_new {n : Nat} : LosI n (newM (List.replicate n losP) [0]) := by
  have h0 := sumN_new (n := n) (p := losP) (fun x => x / 3) rfl
  refine ⟨?_, fun t ht e => ?_, fun t ht e => ?_⟩
  · rw [h0]
    exact ⟨Int.le_refl _, Int.le_refl _, fun h => by omega⟩
  · rw [(at_new ht).1] at e; omega
  · rw [(at_new ht).1] at e; omega
theorem los_end {n : Nat} (n1 : 1 ≤ n) {m : Mach} (h : RBase losP n m) (i : LosI n m) (hd : ∀ t, t < n → m.ended.getD t false = true) : 1 ≤ m.cells.getD 0 0 ∧ m.cells.getD 0 0 ≤ n := by
  have hat : ∀ t, t < n → atN m t = 3 := fun t ht => by
    have h1 := (h.at_ t ht).2.2 (hd t ht)
    have h2 : losP.length = 4 := rfl
    omega
  have hs : (sumN n fun t => atN m t / 3) = n := by
    have : sumN n (fun t => atN m t / 3) = sumN n fun _ => 1 := Nat.le_antisymm (sumN_le fun u hu => by rw [hat u hu]; exact Nat.le_refl _) (sumN_le fun u hu => by rw [hat u hu]; exact Nat.le_refl _)
    rw [this, sumN_const]
    omega
  obtain ⟨c0, c1, c2⟩ := i.cell
  rw [hs] at c1 c2
  exact ⟨c2 n1, c1⟩
end Go.Proofs.YtdfljhechmanlaaDoor

namespace Go.Proofs.YtdfljhechmanlaaDoor
set_option maxRecDepth 100000
set_option linter.unusedVariables false
set_option linter.unusedSimpArgs false

/-! One wins. -/

def swaP : List Ins5 := [(1, 2, 5, 0, 0), (9, 3, 0, 1, 2), (16, 3, 3, 0, 0), (0, 0, 0, 0, 0)]
theorem swaP_straight : Straight swaP := by
  refine ⟨by decide, by decide, fun k regs cells hk hc => ?_, fun regs cells => rfl⟩
  have hk3 : k + 1 < 4 := hk
  rcases (by omega : k = 0 ∨ k = 1 ∨ k = 2) with rfl | rfl | rfl
  · rfl
  · show easy (if cells.getD 0 0 = regOf regs 1 then Eff.mem 0 _ _ else Eff.mem 0 _ _) = true
    split <;> rfl
  · rfl
/-- Who has won, and didn't tell yet. -/
def wonN (m : Mach) (t : Nat) : Nat := if atN m t = 2 ∧ (m.regs.getD t []).getD 3 0 = 1 then 1 else 0
def saidSum (l : List Ev4) : Int := (l.map (·.2.2.2)).sum
structure SwaI (n : Nat) (m : Mach) : Prop where
  cell : m.cells.getD 0 0 = 0 ∨ m.cells.getD 0 0 = 5
  r1 : ∀ t, t < n → (m.regs.getD t []).getD 1 0 = 0
  r2 : ∀ t, t < n → 1 ≤ atN m t → (m.regs.getD t []).getD 2 0 = 5
  r3 : ∀ t, t < n → atN m t = 2 → (m.regs.getD t []).getD 3 0 = 0 ∨ (m.regs.getD t []).getD 3 0 = 1
  some_ : ∀ t, t < n → 2 ≤ atN m t → m.cells.getD 0 0 = 5
  sum : saidSum m.events + (sumN n (wonN m) : Nat) = if m.cells.getD 0 0 = 5 then 1 else 0
  len : m.events.length = sumN n fun t => atN m t / 3

theorem swa_step {n : Nat} (hn : n ≤ 16) {m : Mach} {t : Nat} (i : SwaI n m) (h : RBase swaP n m) (ht : t < n) (he : m.ended.getD t false = false) : SwaI n (stepM 20000 m t).2 := by
  have hp := swaP_straight
  obtain ⟨s1, s2, s3, s4⟩ := h.step hp hn ht he
  have hins := h.ins ht
  have hst := h.step_is hp hn ht he
  have hlen : swaP.length = 4 := rfl
  rcases s4 with ⟨hlt, hat, hen⟩ | ⟨heq, hat, hen⟩
  · rw [hlen] at hlt
    have hs := fun d hd => sumN_at (f := fun u => atN (stepM 20000 m t).2 u / 3) (g := fun u => atN m u / 3) (d := d) ht (fun u hu hne => by rw [(s3 u hne).1]) hd
    have hwo : ∀ u, u ≠ t → wonN (stepM 20000 m t).2 u = wonN m u := fun u hu => by unfold wonN; rw [(s3 u hu).1, (s3 u hu).2.2]
    rcases (by omega : atN m t = 0 ∨ atN m t = 1 ∨ atN m t = 2) with h0 | h0 | h0
    · rw [h0] at hins
      have heff : effAt m t = .set 2 5 := by unfold effAt; rw [hins]; rfl
      rw [heff] at hst
      have hcell : (stepM 20000 m t).2.cells = m.cells := by rw [hst]; rfl
      have hev : (stepM 20000 m t).2.events = m.events := by rw [hst]; rfl
      have hreg : (stepM 20000 m t).2.regs.getD t [] = (m.regs.getD t []).set 2 5 := by
        rw [hst]
        exact getD_set_self (by rw [h.lr]; exact ht)
      have hw : sumN n (wonN (stepM 20000 m t).2) = sumN n (wonN m) + 0 := sumN_at ht (fun u hu hne => hwo u hne) (by unfold wonN; rw [hat, h0, if_neg (by omega), if_neg (by omega)])
      refine ⟨by rw [hcell]; exact i.cell, fun u hu => ?_, fun u hu e => ?_, fun u hu e => ?_, fun u hu e => ?_, by rw [hev, hcell, hw]; exact i.sum, by rw [hev, hs 0 (by rw [hat, h0])]; exact i.len⟩
      · by_cases hut : u = t
        · subst hut; rw [hreg, getD_set_otherK (by omega)]; exact i.r1 u hu
        · rw [(s3 u hut).2.2]; exact i.r1 u hu
      · by_cases hut : u = t
        · subst hut; rw [hreg, getD_set_self (by rw [h.regs u hu]; omega)]
        · rw [(s3 u hut).1] at e; rw [(s3 u hut).2.2]; exact i.r2 u hu e
      · by_cases hut : u = t
        · subst hut; omega
        · rw [(s3 u hut).1] at e; rw [(s3 u hut).2.2]; exact i.r3 u hu e
      · rw [hcell]
        by_cases hut : u = t
        · subst hut; omega
        · rw [(s3 u hut).1] at e; exact i.some_ u hu e
    · rw [h0] at hins
      have b1 := i.r1 t ht
      have b2 := i.r2 t ht (by omega)
      have heff : effAt m t = if m.cells.getD 0 0 = 0 then .mem 0 5 (some (3, 1)) else .mem 0 (m.cells.getD 0 0) (some (3, 0)) := by
        have : effAt m t = if m.cells.getD 0 0 = (m.regs.getD t []).getD 1 0 then .mem 0 ((m.regs.getD t []).getD 2 0) (some (3, 1)) else .mem 0 (m.cells.getD 0 0) (some (3, 0)) := by unfold effAt; rw [hins]; rfl
        rw [this, b1, b2]
      have hc5 : (stepM 20000 m t).2.cells.getD 0 0 = 5 := by
        rw [hst, heff]
        rcases i.cell with hc | hc
        · rw [if_pos hc]
          show (m.cells.set 0 _).getD 0 0 = _
          exact getD_set_self (by rw [h.lc]; omega)
        · rw [if_neg (by omega)]
          show (m.cells.set 0 _).getD 0 0 = _
          rw [getD_set_self (by rw [h.lc]; omega)]
          exact hc
      have hev : (stepM 20000 m t).2.events = m.events := by
        rw [hst, heff]
        split <;> rfl
      have hreg : (stepM 20000 m t).2.regs.getD t [] = (m.regs.getD t []).set 3 (if m.cells.getD 0 0 = 0 then 1 else 0) := by
        rw [hst, heff]
        by_cases hc : m.cells.getD 0 0 = 0
        · rw [if_pos hc, if_pos hc]
          exact getD_set_self (by rw [h.lr]; exact ht)
        · rw [if_neg hc, if_neg hc]
          exact getD_set_self (by rw [h.lr]; exact ht)
      have hr3 : ((stepM 20000 m t).2.regs.getD t []).getD 3 0 = if m.cells.getD 0 0 = 0 then 1 else 0 := by rw [hreg, getD_set_self (by rw [h.regs t ht]; omega)]
      have hw : sumN n (wonN (stepM 20000 m t).2) = sumN n (wonN m) + if m.cells.getD 0 0 = 0 then 1 else 0 := sumN_at ht (fun u hu hne => hwo u hne) (by
        unfold wonN
        rw [hat, h0, hr3, if_neg (by omega : ¬ (1 = 2 ∧ _))]
        by_cases hc : m.cells.getD 0 0 = 0
        · simp [hc]
        · simp [hc])
      refine ⟨.inr hc5, fun u hu => ?_, fun u hu e => ?_, fun u hu e => ?_, fun u hu e => hc5, ?_, by rw [hev, hs 0 (by rw [hat, h0])]; exact i.len⟩
      · by_cases hut : u = t
        · subst hut; rw [hreg, getD_set_otherK (by omega)]; exact b1
        · rw [(s3 u hut).2.2]; exact i.r1 u hu
      · by_cases hut : u = t
        · subst hut; rw [hreg, getD_set_otherK (by omega)]; exact b2
        · rw [(s3 u hut).1] at e; rw [(s3 u hut).2.2]; exact i.r2 u hu e
      · by_cases hut : u = t
        · subst hut
          rw [hr3]
          split
          · exact .inr rfl
          · exact .inl rfl
        · rw [(s3 u hut).1] at e; rw [(s3 u hut).2.2]; exact i.r3 u hu e
      · rw [hev, hc5, hw, if_pos rfl]
        have := i.sum
        rcases i.cell with hc | hc
        · rw [hc] at this ⊢
          simp at this ⊢
          omega
        · rw [hc] at this ⊢
          simp at this ⊢
          omega
    · rw [h0] at hins
      have b3 := i.r3 t ht h0
      have heff : effAt m t = .say 3 ((m.regs.getD t []).getD 3 0) := by
        have : effAt m t = .say 3 (signed ((m.regs.getD t []).getD 3 0)) := by unfold effAt; rw [hins]; rfl
        rw [this, small_signed (by omega)]
      rw [heff] at hst
      have hcell : (stepM 20000 m t).2.cells = m.cells := by rw [hst]; rfl
      have hregs : (stepM 20000 m t).2.regs = m.regs := by rw [hst]; rfl
      have hev : (stepM 20000 m t).2.events = m.events ++ [((m.steps : Int) + 1, 3, (t : Int), (m.regs.getD t []).getD 3 0)] := by rw [hst]; rfl
      have hc5 := i.some_ t ht (by omega)
      have hw : sumN n (wonN m) = sumN n (wonN (stepM 20000 m t).2) + if (m.regs.getD t []).getD 3 0 = 1 then 1 else 0 := sumN_at ht (fun u hu hne => (hwo u hne).symm) (by
        unfold wonN
        rw [hat, h0, if_neg (by omega : ¬ (2 + 1 = 2 ∧ _))]
        by_cases hc : (m.regs.getD t []).getD 3 0 = 1
        · rw [if_pos ⟨rfl, hc⟩, if_pos hc]
        · rw [if_neg (fun e => hc e.2), if_neg hc])
      refine ⟨by rw [hcell]; exact i.cell, fun u hu => by rw [hregs]; exact i.r1 u hu, fun u hu e => ?_, fun u hu e => ?_, fun u hu e => by rw [hcell]; exact hc5, ?_, ?_⟩
      · rw [hregs]
        by_cases hut : u = t
        · subst hut; exact i.r2 u hu (by omega)
        · rw [(s3 u hut).1] at e; exact i.r2 u hu e
      · rw [hregs]
        by_cases hut : u = t
        · subst hut; omega
        · rw [(s3 u hut).1] at e; exact i.r3 u hu e
      · rw [hev, hcell]
        have := i.sum
        rw [hw] at this
        unfold saidSum at this ⊢
        rw [List.map_append, List.sum_append]
        simp only [List.map_cons, List.map_nil, List.sum_cons, List.sum_nil]
        rcases b3 with e | e
        · rw [e] at this ⊢
          simp at this ⊢
          omega
        · rw [e] at this ⊢
          simp at this ⊢
          omega
      · rw [hev, List.length_append, i.len, hs 1 (by rw [hat, h0])]
        rfl
  · rw [hlen] at heq
    rw [show atN m t = 3 by omega] at hins
    have heff : effAt m t = .halt := by unfold effAt; rw [hins]; rfl
    rw [heff] at hst
    rw [hst]
    exact ⟨i.cell, i.r1, i.r2, i.r3, i.some_, i.sum, i.len⟩
theorem swa_new {n : Nat} : SwaI n (newM (List.replicate n swaP) [0]) := by
  have hw : sumN n (wonN (newM (List.replicate n swaP) [0])) = 0 := by
    have : sumN n (wonN (newM (List.replicate n swaP) [0])) ≤ sumN n fun _ => 0 := sumN_le fun u hu => by
      unfold wonN
      rw [(at_new hu).1, if_neg (by omega)]
      exact Nat.le_refl _
    rw [sumN_const] at this
    omega
  refine ⟨.inl rfl, fun t ht => by rw [(at_new ht).2]; rfl, fun t ht e => ?_, fun t ht e => ?_, fun t ht e => ?_, ?_, (sumN_new (n := n) (p := swaP) (fun x => x / 3) rfl).symm⟩
  · rw [(at_new ht).1] at e; omega
  · rw [(at_new ht).1] at e; omega
  · rw [(at_new ht).1] at e; omega
  · rw [hw]
    rfl
theorem swa_end {n : Nat} (n1 : 1 ≤ n) {m : Mach} (h : RBase swaP n m) (i : SwaI n m) (hd : ∀ t, t < n → m.ended.getD t false = true) : m.cells.getD 0 0 = 5 ∧ saidSum m.events = 1 ∧ m.events.length = n := by
  have hat : ∀ t, t < n → atN m t = 3 := fun t ht => by
    have h1 := (h.at_ t ht).2.2 (hd t ht)
    have h2 : swaP.length = 4 := rfl
    omega
  have hs : (sumN n fun t => atN m t / 3) = n := by
    have : sumN n (fun t => atN m t / 3) = sumN n fun _ => 1 := Nat.le_antisymm (sumN_le fun u hu => by rw [hat u hu]; exact Nat.le_refl _) (sumN_le fun u hu => by rw [hat u hu]; exact Nat.le_refl _)
    rw [this, sumN_const]
    omega
  have hw : sumN n (wonN m) = 0 := by
    have : sumN n (wonN m) ≤ sumN n fun _ => 0 := sumN_le fun u hu => by
      unfold wonN
      rw [hat u hu, if_neg (by omega)]
      exact Nat.le_refl _
    rw [sumN_const] at this
    omega
  have hc := i.some_ 0 (by omega) (by rw [hat 0 (by omega)]; omega)
  have h1 := i.sum
  rw [hw, hc, if_pos rfl] at h1
  exact ⟨hc, by omega, by rw [i.len, hs]⟩
end Go.Proofs.YtdfljhechmanlaaDoor
