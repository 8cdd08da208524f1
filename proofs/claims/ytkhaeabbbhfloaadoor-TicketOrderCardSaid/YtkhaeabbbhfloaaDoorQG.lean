/-
  Parties that meet, up a tree, and open gates, down again: what is kept by all of them, whoever goes on when.
-/
import Derived.Test.YtkhaeabbbhfloaaDoorQF4
namespace Go.Proofs.YtkhaeabbbhfloaaDoor
set_option maxRecDepth 100000
set_option linter.unusedVariables false
set_option linter.unusedSimpArgs false

/-- Parties that meet, up a tree of nodes, and open gates, down again: h levels; at which node a party is at a level; how many meet there, and who. -/
structure MT (ops : Nat → List BOp) (n nc : Nat) where
  h : Nat
  path : Nat → Nat → Nat
  size : Nat → Nat
  mem : Nat → List Nat
  h1 : 1 ≤ h
  len : ∀ t, t < n → (ops t).length = 2 * h
  up_op : ∀ t j, t < n → j < h → (ops t).getD j default = .meet (2 * path t j) (size (path t j)) (2 * h - j)
  dn_op : ∀ t j, t < n → j < h → (ops t).getD (2 * h - 1 - j) default = .opn (2 * path t j) (size (path t j))
  node : ∀ t j, t < n → j < h → 2 * path t j + 1 < nc ∧ 1 ≤ size (path t j) ∧ size (path t j) ≤ 16
  level : ∀ t u j k, t < n → u < n → j < h → k < h → path t j = path u k → j = k
  up : ∀ t u j, t < n → u < n → j + 1 < h → path t j = path u j → path t (j + 1) = path u (j + 1)
  root : ∀ t u, t < n → u < n → path t (h - 1) = path u (h - 1)
  mem_in : ∀ t j, t < n → j < h → (if j = 0 then t else path t (j - 1)) ∈ mem (path t j)
  mem_nd : ∀ t j, t < n → j < h → (mem (path t j)).Nodup
  mem_len : ∀ t j, t < n → j < h → (mem (path t j)).length = size (path t j)
  mem_is : ∀ t j c, t < n → j < h → c ∈ mem (path t j) → ∃ u, u < n ∧ path u j = path t j ∧ (if j = 0 then u else path u (j - 1)) = c

section
variable {ops : Nat → List BOp} {n nc rounds : Nat}

/-- Was it the last one at level j, whose gate it has not opened yet? (s: how many meet where it is.) -/
def lastAt (h : Nat) (s : Nat → Nat) (x : Th) (j : Nat) : Bool := match x.ph with
  | .op i k => if i < h then decide (j < i) || (decide (j = i) && decide (k = 1) && decide (x.r1 = (s i : Int) - 1)) else decide (j < 2 * h - 1 - i) || (decide (j = 2 * h - 1 - i) && decide (k < 3))
  | _ => false
/-- Does it wait at level j? -/
def waitAt (h : Nat) (s : Nat → Nat) (x : Th) (j : Nat) : Bool := match x.ph with
  | .op i k => decide (i < h) && decide (j = i) && (decide (2 ≤ k) || (decide (k = 1) && !decide (x.r1 = (s i : Int) - 1)))
  | _ => false
/-- Does it open the gate of level j, and is so far? -/
def opAt (h k0 : Nat) (x : Th) (j : Nat) : Bool := match x.ph with
  | .op i k => !decide (i < h) && decide (j = 2 * h - 1 - i) && decide (k = k0)
  | _ => false
/-- Does it go up? -/
def rising (h : Nat) (s : Nat → Nat) (x : Th) : Bool := match x.ph with
  | .op i k => decide (i < h) && (decide (k = 0) || (decide (k = 1) && decide (x.r1 = (s i : Int) - 1)))
  | _ => false

variable (T : MT ops n nc)
def MT.sz (t : Nat) (j : Nat) : Nat := T.size (T.path t j)
def MT.last (S : BS) (t j : Nat) : Bool := lastAt T.h (T.sz t) (S.th t) j
def MT.wait (S : BS) (t j : Nat) : Bool := waitAt T.h (T.sz t) (S.th t) j
def MT.rise (S : BS) (t : Nat) : Bool := rising T.h (T.sz t) (S.th t)
def gateOf (S : BS) (v : Nat) : Int := S.cell (2 * v + 1)
/-- Who came to a node in the round that is gathered there. -/
def MT.here (S : BS) (v j t : Nat) : Bool := decide (T.path t j = v) && decide (((S.th t).rd : Int) = gateOf S v + 1) && (T.last S t j || T.wait S t j)
def MT.cnt (S : BS) (v j : Nat) : Nat := ((List.range n).filter (T.here S v j)).length

/-- What is kept of a party by itself. -/
structure MOwn (rounds : Nat) (S : BS) (t : Nat) (x : Th) : Prop where
  rd : 1 ≤ x.rd ∧ x.rd ≤ rounds + 1 ∧ (inRound x.ph = true → x.rd ≤ rounds) ∧ (x.ph = .b0 → x.rd = 1) ∧ (x.ph = .halt ∨ x.ph = .fin → x.rd = rounds + 1)
  ok : okPh (ops t) x.ph
  floor : ∀ j, j < T.h → (x.rd : Int) ≤ gateOf S (T.path t j) + 1
  rise : rising T.h (T.sz t) x = true → gateOf S (T.path t (T.h - 1)) + 1 ≤ x.rd
  down : ∀ i k, x.ph = .op i k → T.h ≤ i → ∀ j, 2 * T.h - 1 - i < j ∨ (2 * T.h - 1 - i = j ∧ k = 3) → j < T.h → (x.rd : Int) ≤ gateOf S (T.path t j)
  gone : x.ph = .gone ∨ x.ph = .plus → ∀ j, j < T.h → (x.rd : Int) ≤ gateOf S (T.path t j)
  aw : ∀ i k, x.ph = .op i k → i < T.h → (3 ≤ k → k < 7 → x.r1 ≤ gateOf S (T.path t i) ∧ (x.rd : Int) ≤ x.r1 + 1) ∧ (k = 4 ∨ k = 7 → (x.rd : Int) ≤ gateOf S (T.path t i)) ∧ (k = 5 → x.r1 < x.rd) ∧
    (x.slp = true → k = 6 ∧ x.r1 < x.rd ∧ (gateOf S (T.path t i) = x.r1 ∨ ∃ u j, u < n ∧ j < T.h ∧ T.path u j = T.path t i ∧ opAt T.h 3 (S.th u) j = true))
  nap : x.slp = true → ∃ i, i < T.h ∧ x.ph = .op i 6
  unop : ∀ j, j < T.h → lastAt T.h (T.sz t) x j = true → gateOf S (T.path t j) + 1 ≤ x.rd

structure MInv (rounds : Nat) (S : BS) : Prop where
  own : ∀ t, t < n → MOwn T rounds S t (S.th t)
  mono : ∀ t j, t < n → j + 1 < T.h → gateOf S (T.path t j) ≤ gateOf S (T.path t (j + 1))
  safe : ∀ t j w, t < n → j < T.h → w < n → gateOf S (T.path t j) ≤ cameN (S.th w)
  comp : ∀ u j, u < n → j < T.h → T.last S u j = true → ∀ t, t < n → t ≠ u → T.path t j = T.path u j → (S.th t).rd = (S.th u).rd ∧ ∃ m, m ≤ j ∧ T.wait S t m = true
  count : ∀ t j, t < n → j < T.h → ((∃ u, u < n ∧ T.path u j = T.path t j ∧ opAt T.h 2 (S.th u) j = true) ∧ S.cell (2 * T.path t j) = 0) ∨ ((∀ u, u < n → T.path u j = T.path t j → opAt T.h 2 (S.th u) j = false) ∧ S.cell (2 * T.path t j) = T.cnt S (T.path t j) j)
  full : ∀ t j, t < n → j < T.h → T.cnt S (T.path t j) j = T.sz t j → ∃ u, u < n ∧ T.path u j = T.path t j ∧ ((S.th u).rd : Int) = gateOf S (T.path t j) + 1 ∧ T.last S u j = true
  resp : ∀ t j, t < n → j + 1 < T.h → gateOf S (T.path t j) + 1 ≤ gateOf S (T.path t (j + 1)) → ∃ u, u < n ∧ T.path u j = T.path t j ∧ ((S.th u).rd : Int) = gateOf S (T.path t j) + 1 ∧ T.last S u j = true
  reps : ∀ u j, u < n → j + 1 < T.h → T.last S u (j + 1) = true → ∀ t, t < n → T.path t (j + 1) = T.path u (j + 1) → ∃ w, w < n ∧ T.path w j = T.path t j ∧ (S.th w).rd = (S.th u).rd ∧ T.last S w j = true

variable {T} {S S' : BS} {t : Nat}

theorem gate_up (h : MInv T rounds S) (ht : t < n) : ∀ d j, j + d < T.h → gateOf S (T.path t j) ≤ gateOf S (T.path t (j + d))
  | 0, _, _ => Int.le_refl _
  | d + 1, j, hj => Int.le_trans (gate_up h ht d j (by omega)) (h.mono t (j + d) ht (by omega))
theorem gate_root (h : MInv T rounds S) (ht : t < n) {j : Nat} (hj : j < T.h) : gateOf S (T.path t j) ≤ gateOf S (T.path t (T.h - 1)) := by
  have := gate_up h ht (T.h - 1 - j) j (by omega)
  rwa [show j + (T.h - 1 - j) = T.h - 1 by omega] at this

/-- Whether a party is as it was, as far as others know. -/
structure SameK (h : Nat) (s : Nat → Nat) (y x : Th) : Prop where
  last : ∀ j, lastAt h s y j = lastAt h s x j
  wait : ∀ j, waitAt h s y j = waitAt h s x j
  two : ∀ j, opAt h 2 y j = opAt h 2 x j
  three : ∀ j, opAt h 3 y j = opAt h 3 x j
  rd : y.rd = x.rd ∨ ∀ j, lastAt h s x j = false ∧ waitAt h s x j = false
  came : cameN x ≤ cameN y

/-- No cell changed, and nobody else did. -/
theorem MInv.calm (h : MInv T rounds S) (ht : t < n) {x : Th} (hs : SameK T.h (T.sz t) x (S.th t)) (hown : MOwn T rounds ⟨upd S.th t x, S.cell⟩ t x) : MInv T rounds ⟨upd S.th t x, S.cell⟩ := by
  have hth : ∀ u, u ≠ t → (upd S.th t x) u = S.th u := fun u hu => upd_ne _ _ hu
  have hlast : ∀ u j, T.last ⟨upd S.th t x, S.cell⟩ u j = T.last S u j := fun u j => by
    unfold MT.last
    dsimp only
    by_cases e : u = t
    · subst e; rw [upd_same, hs.last]
    · rw [hth u e]
  have hwait : ∀ u j, T.wait ⟨upd S.th t x, S.cell⟩ u j = T.wait S u j := fun u j => by
    unfold MT.wait
    dsimp only
    by_cases e : u = t
    · subst e; rw [upd_same, hs.wait]
    · rw [hth u e]
  have htwo : ∀ u j, opAt T.h 2 (upd S.th t x u) j = opAt T.h 2 (S.th u) j := fun u j => by
    by_cases e : u = t
    · subst e; rw [upd_same, hs.two]
    · rw [hth u e]
  have hthree : ∀ u j, opAt T.h 3 (upd S.th t x u) j = opAt T.h 3 (S.th u) j := fun u j => by
    by_cases e : u = t
    · subst e; rw [upd_same, hs.three]
    · rw [hth u e]
  have hrd : ∀ u, (upd S.th t x u).rd = (S.th u).rd ∨ ∀ j, T.last S u j = false ∧ T.wait S u j = false := fun u => by
    by_cases e : u = t
    · subst e
      rw [upd_same]
      exact hs.rd
    · rw [hth u e]
      exact .inl rfl
  have hcame : ∀ u, cameN (S.th u) ≤ cameN (upd S.th t x u) := fun u => by
    by_cases e : u = t
    · subst e; rw [upd_same]; exact hs.came
    · rw [hth u e]; exact Nat.le_refl _
  have hhere : ∀ v j u, T.here ⟨upd S.th t x, S.cell⟩ v j u = T.here S v j u := fun v j u => by
    unfold MT.here
    rw [hlast, hwait]
    rcases hrd u with e | e
    · dsimp only
      rw [e]
      rfl
    · rw [(e j).1, (e j).2]
      simp
  have hcnt : ∀ v j, T.cnt ⟨upd S.th t x, S.cell⟩ v j = T.cnt S v j := fun v j => by
    unfold MT.cnt
    congr 1
    exact List.filter_congr (fun u _ => hhere v j u)
  refine ⟨fun u hu => ?_, h.mono, fun u j w hu hj hw => ?_, fun u j hu hj hl w hw hne he => ?_, fun u j hu hj => ?_, fun u j hu hj hc => ?_, fun u j hu hj hg => ?_, fun u j hu hj hl w hw e => ?_⟩
  · by_cases e : u = t
    · subst e
      show MOwn T rounds _ u (upd S.th u x u)
      rw [upd_same]
      exact hown
    · show MOwn T rounds _ u (upd S.th t x u)
      rw [hth u e]
      have ho := h.own u hu
      refine ⟨ho.rd, ho.ok, ho.floor, ho.rise, ho.down, ho.gone, fun i k e1 e2 => ?_, ho.nap, ho.unop⟩
      obtain ⟨a1, a2, a3, a4⟩ := ho.aw i k e1 e2
      refine ⟨a1, a2, a3, fun hsl => ?_⟩
      obtain ⟨b1, b2, b3⟩ := a4 hsl
      refine ⟨b1, b2, ?_⟩
      rcases b3 with b3 | ⟨w, j, c1, c2, c3, c4⟩
      · exact .inl b3
      · exact .inr ⟨w, j, c1, c2, c3, by show opAt T.h 3 (upd S.th t x w) j = true; rw [hthree]; exact c4⟩
  · exact Int.le_trans (h.safe u j w hu hj hw) (by exact_mod_cast hcame w)
  · rw [hlast] at hl
    obtain ⟨a, m, b, c⟩ := h.comp u j hu hj hl w hw hne he
    have e1 : (upd S.th t x w).rd = (S.th w).rd := by
      rcases hrd w with e | e
      · exact e
      · rw [(e m).2] at c; cases c
    have e2 : (upd S.th t x u).rd = (S.th u).rd := by
      rcases hrd u with e | e
      · exact e
      · rw [(e j).1] at hl; cases hl
    exact ⟨by show (upd S.th t x w).rd = (upd S.th t x u).rd; rw [e1, e2]; exact a, m, b, by rw [hwait]; exact c⟩
  · rcases h.count u j hu hj with ⟨⟨w, a, b, c⟩, d⟩ | ⟨a, b⟩
    · exact .inl ⟨⟨w, a, b, by show opAt T.h 2 (upd S.th t x w) j = true; rw [htwo]; exact c⟩, d⟩
    · exact .inr ⟨fun w hw e => by show opAt T.h 2 (upd S.th t x w) j = false; rw [htwo]; exact a w hw e, by rw [hcnt]; exact b⟩
  · rw [hcnt] at hc
    obtain ⟨w, a, b, c, d⟩ := h.full u j hu hj hc
    have e2 : (upd S.th t x w).rd = (S.th w).rd := by
      rcases hrd w with e | e
      · exact e
      · rw [(e j).1] at d; cases d
    exact ⟨w, a, b, by show ((upd S.th t x w).rd : Int) = _; rw [e2]; exact c, by rw [hlast]; exact d⟩
  · obtain ⟨w, a, b, c, d⟩ := h.resp u j hu hj hg
    have e2 : (upd S.th t x w).rd = (S.th w).rd := by
      rcases hrd w with e | e
      · exact e
      · rw [(e j).1] at d; cases d
    exact ⟨w, a, b, by show ((upd S.th t x w).rd : Int) = _; rw [e2]; exact c, by rw [hlast]; exact d⟩
  · rw [hlast] at hl
    obtain ⟨v, a, b, c, d⟩ := h.reps u j hu hj hl w hw e
    have e2 : (upd S.th t x v).rd = (S.th v).rd := by
      rcases hrd v with e | e
      · exact e
      · rw [(e j).1] at d; cases d
    have e3 : (upd S.th t x u).rd = (S.th u).rd := by
      rcases hrd u with e | e
      · exact e
      · rw [(e (j + 1)).1] at hl; cases hl
    exact ⟨v, a, b, by show (upd S.th t x v).rd = (upd S.th t x u).rd; rw [e2, e3]; exact c, by rw [hlast]; exact d⟩

theorem wait_op {h : Nat} {s : Nat → Nat} {x : Th} {m : Nat} (hw : waitAt h s x m = true) : ∃ k, x.ph = .op m k ∧ m < h ∧ (2 ≤ k ∨ (k = 1 ∧ x.r1 ≠ (s m : Int) - 1)) := by
  unfold waitAt at hw
  cases hph : x.ph with
  | op i k =>
    rw [hph] at hw
    simp only [Bool.and_eq_true, Bool.or_eq_true, decide_eq_true_eq, Bool.not_eq_true', decide_eq_false_iff_not] at hw
    obtain ⟨⟨h1, h2⟩, h3⟩ := hw
    subst h2
    exact ⟨k, rfl, h1, h3⟩
  | b0 | b1 | less | halt | came | gone | plus | jump | fin => rw [hph] at hw; cases hw
theorem wait_not_last {h : Nat} {s : Nat → Nat} {x : Th} {m j : Nat} (hw : waitAt h s x m = true) (hj : m ≤ j) : lastAt h s x j = false := by
  obtain ⟨k, hph, hm, hk⟩ := wait_op hw
  unfold lastAt
  rw [hph]
  dsimp only
  rw [if_pos hm]
  simp only [Bool.or_eq_false_iff, Bool.and_eq_false_iff, decide_eq_false_iff_not]
  refine ⟨by omega, ?_⟩
  rcases hk with hk | ⟨hk, hr⟩
  · exact .inl (.inr (by omega))
  · exact .inr hr
theorem wait_not_rise {h : Nat} {s : Nat → Nat} {x : Th} {m : Nat} (hw : waitAt h s x m = true) : rising h s x = false := by
  obtain ⟨k, hph, hm, hk⟩ := wait_op hw
  unfold rising
  rw [hph]
  simp only [Bool.and_eq_false_iff, Bool.or_eq_false_iff, decide_eq_false_iff_not]
  refine .inr ⟨by omega, ?_⟩
  rcases hk with hk | ⟨hk, hr⟩
  · exact .inl (by omega)
  · exact .inr hr
theorem last_low {h : Nat} {s : Nat → Nat} {x : Th} {i j : Nat} (hl : lastAt h s x i = true ∨ waitAt h s x i = true) (hj : j < i) : lastAt h s x j = true := by
  rcases hl with hl | hl
  · unfold lastAt at hl ⊢
    cases hph : x.ph with
    | op i' k =>
      rw [hph] at hl
      dsimp only at hl ⊢
      split at hl
      · rename_i hlt
        rw [if_pos hlt]
        simp only [Bool.and_eq_true, Bool.or_eq_true, decide_eq_true_eq] at hl ⊢
        omega
      · rename_i hlt
        rw [if_neg hlt]
        simp only [Bool.and_eq_true, Bool.or_eq_true, decide_eq_true_eq] at hl ⊢
        omega
    | b0 | b1 | less | halt | came | gone | plus | jump | fin => rw [hph] at hl; cases hl
  · obtain ⟨k, hph, hm, hk⟩ := wait_op hl
    unfold lastAt
    rw [hph]
    dsimp only
    rw [if_pos hm]
    simp [hj]
theorem op_last {h k0 : Nat} {s : Nat → Nat} {x : Th} {j : Nat} (ho : opAt h k0 x j = true) (hk : k0 < 3) : lastAt h s x j = true := by
  unfold opAt at ho
  unfold lastAt
  cases hph : x.ph with
  | op i k =>
    rw [hph] at ho
    simp only [Bool.and_eq_true, decide_eq_true_eq, Bool.not_eq_true', decide_eq_false_iff_not] at ho
    obtain ⟨⟨h1, h2⟩, h3⟩ := ho
    dsimp only
    rw [if_neg h1]
    simp only [Bool.and_eq_true, Bool.or_eq_true, decide_eq_true_eq]
    omega
  | b0 | b1 | less | halt | came | gone | plus | jump | fin => rw [hph] at ho; cases ho

theorem last_one (h : MInv T rounds S) {u w j : Nat} (hu : u < n) (hw : w < n) (hj : j < T.h) (h1 : T.last S u j = true) (h2 : T.last S w j = true) (e : T.path w j = T.path u j) : w = u := by
  by_cases hne : w = u
  · exact hne
  · obtain ⟨_, m, hm, hwt⟩ := h.comp u j hu hj h1 w hw hne e
    have : T.last S w j = false := wait_not_last hwt hm
    rw [h2] at this
    cases this

/-- A list of numbers, no two of which stand for the same, all of whose stand in another list, is no longer; if it is as long, each of that list is stood for. -/
theorem inj_le {f : Nat → Nat} : ∀ (L M : List Nat), L.Nodup → (∀ a ∈ L, ∀ b ∈ L, f a = f b → a = b) → (∀ a ∈ L, f a ∈ M) → L.length ≤ M.length
  | [], M, _, _, _ => Nat.zero_le _
  | a :: L, M, hn, hi, hm => by
    rw [List.nodup_cons] at hn
    have hma := hm a (.head _)
    have := inj_le L (M.erase (f a)) hn.2 (fun b hb c hc e => hi b (.tail _ hb) c (.tail _ hc) e) (fun b hb => by
      refine (List.mem_erase_of_ne ?_).2 (hm b (.tail _ hb))
      intro e
      have := hi b (.tail _ hb) a (.head _) e
      subst this
      exact hn.1 hb)
    rw [List.length_erase_of_mem hma] at this
    have hpos := List.length_pos_of_mem hma
    rw [List.length_cons]
    omega
theorem inj_all {f : Nat → Nat} {L M : List Nat} (hn : L.Nodup) (hi : ∀ a ∈ L, ∀ b ∈ L, f a = f b → a = b) (hm : ∀ a ∈ L, f a ∈ M) (hl : L.length = M.length) {c : Nat} (hc : c ∈ M) : ∃ a ∈ L, f a = c := by
  by_cases he : ∃ a ∈ L, f a = c
  · exact he
  · exfalso
    have := inj_le L (M.erase c) hn hi (fun a ha => (List.mem_erase_of_ne (fun e => he ⟨a, ha, e⟩)).2 (hm a ha))
    rw [List.length_erase_of_mem hc] at this
    have hpos := List.length_pos_of_mem hc
    omega
end
end Go.Proofs.YtkhaeabbbhfloaaDoor

namespace Go.Proofs.YtkhaeabbbhfloaaDoor
set_option maxRecDepth 100000
set_option linter.unusedVariables false
set_option linter.unusedSimpArgs false

section
variable {ops : Nat → List BOp} {n nc rounds : Nat} {T : MT ops n nc} {S S' : BS} {t : Nat}

theorem MOwn.other {u : Nat} {x : Th} (ho : MOwn T rounds S u x) (hg : ∀ v, gateOf S v ≤ gateOf S' v) (hr : rising T.h (T.sz u) x = true → gateOf S' (T.path u (T.h - 1)) + 1 ≤ x.rd) (hun : ∀ j, j < T.h → lastAt T.h (T.sz u) x j = true → gateOf S' (T.path u j) + 1 ≤ x.rd)
    (hsl : ∀ i, i < T.h → x.ph = .op i 6 → x.slp = true → (gateOf S (T.path u i) = x.r1 ∨ ∃ w j, w < n ∧ j < T.h ∧ T.path w j = T.path u i ∧ opAt T.h 3 (S.th w) j = true) → gateOf S' (T.path u i) = x.r1 ∨ ∃ w j, w < n ∧ j < T.h ∧ T.path w j = T.path u i ∧ opAt T.h 3 (S'.th w) j = true) : MOwn T rounds S' u x := by
  refine ⟨ho.rd, ho.ok, fun j hj => Int.le_trans (ho.floor j hj) (Int.add_le_add_right (hg _) 1), hr, fun i k e hi j h1 h2 => Int.le_trans (ho.down i k e hi j h1 h2) (hg _), fun e j hj => Int.le_trans (ho.gone e j hj) (hg _), fun i k e hi => ?_, ho.nap, hun⟩
  obtain ⟨a1, a2, a3, a4⟩ := ho.aw i k e hi
  refine ⟨fun h1 h2 => ⟨Int.le_trans (a1 h1 h2).1 (hg _), (a1 h1 h2).2⟩, fun h1 => Int.le_trans (a2 h1) (hg _), a3, fun hs => ?_⟩
  obtain ⟨b1, b2, b3⟩ := a4 hs
  subst b1
  exact ⟨rfl, b2, hsl i hi e hs b3⟩

theorem last_up {h : Nat} {s : Nat → Nat} {i k rd : Nat} {r1 : Int} {slp : Bool} (hi : i < h) (j : Nat) : lastAt h s ⟨.op i k, rd, r1, slp⟩ j = (decide (j < i) || (decide (j = i) && decide (k = 1) && decide (r1 = (s i : Int) - 1))) := by unfold lastAt; dsimp only; rw [if_pos hi]
theorem last_dn {h : Nat} {s : Nat → Nat} {i k rd : Nat} {r1 : Int} {slp : Bool} (hi : ¬ i < h) (j : Nat) : lastAt h s ⟨.op i k, rd, r1, slp⟩ j = (decide (j < 2 * h - 1 - i) || (decide (j = 2 * h - 1 - i) && decide (k < 3))) := by unfold lastAt; dsimp only; rw [if_neg hi]
theorem op_up {h k0 : Nat} {i k rd : Nat} {r1 : Int} {slp : Bool} (hi : i < h) (j : Nat) : opAt h k0 ⟨.op i k, rd, r1, slp⟩ j = false := by simp [opAt, hi]
theorem op_dn {h k0 : Nat} {i k rd : Nat} {r1 : Int} {slp : Bool} (hi : ¬ i < h) (j : Nat) : opAt h k0 ⟨.op i k, rd, r1, slp⟩ j = (decide (j = 2 * h - 1 - i) && decide (k = k0)) := by simp [opAt, hi]
theorem wait_dn {h : Nat} {s : Nat → Nat} {i k rd : Nat} {r1 : Int} {slp : Bool} (hi : ¬ i < h) (j : Nat) : waitAt h s ⟨.op i k, rd, r1, slp⟩ j = false := by simp [waitAt, hi]
theorem rise_dn {h : Nat} {s : Nat → Nat} {i k rd : Nat} {r1 : Int} {slp : Bool} (hi : ¬ i < h) : rising h s ⟨.op i k, rd, r1, slp⟩ = false := by simp [rising, hi]
theorem last_gone {h : Nat} {s : Nat → Nat} {rd : Nat} {r1 : Int} {slp : Bool} (j : Nat) : lastAt h s ⟨.gone, rd, r1, slp⟩ j = false ∧ waitAt h s ⟨.gone, rd, r1, slp⟩ j = false ∧ (∀ k, opAt h k ⟨.gone, rd, r1, slp⟩ j = false) ∧ rising h s ⟨.gone, rd, r1, slp⟩ = false := ⟨rfl, rfl, fun _ => rfl, rfl⟩

/-- Behind a piece of those that open gates, or the last Await: what others know. -/
theorem nxt_dn {l : List BOp} {h : Nat} (hl : l.length = 2 * h) {s : Nat → Nat} {i rd : Nat} {r1 : Int} (hi : h ≤ i) (hi2 : i ≤ 2 * h) (j : Nat) : lastAt h s ⟨nxt l i, rd, r1, false⟩ j = decide (j + i < 2 * h) ∧ waitAt h s ⟨nxt l i, rd, r1, false⟩ j = false ∧ opAt h 2 ⟨nxt l i, rd, r1, false⟩ j = false ∧ opAt h 3 ⟨nxt l i, rd, r1, false⟩ j = false ∧ rising h s ⟨nxt l i, rd, r1, false⟩ = false := by
  by_cases hlt : i < l.length
  · rw [show nxt l i = .op i 0 from if_pos hlt, last_dn (by omega), wait_dn (by omega), op_dn (by omega), op_dn (by omega), rise_dn (by omega)]
    refine ⟨?_, rfl, by simp, by simp, rfl⟩
    rw [Bool.eq_iff_iff]
    simp
    omega
  · rw [show nxt l i = .gone from if_neg hlt]
    refine ⟨?_, rfl, rfl, rfl, rfl⟩
    symm
    rw [(last_gone j).1]
    exact decide_eq_false (by omega)

/-- Own of a party that goes down, or is behind all. -/
theorem own_dn {x : Th} (ho : MOwn T rounds S t x) (ht : t < n) (hin : inRound x.ph = true) {i : Nat} (hi : T.h ≤ i) (hi2 : i ≤ 2 * T.h) (hd : ∀ j, 2 * T.h ≤ j + i → j < T.h → (x.rd : Int) ≤ gateOf S' (T.path t j)) (hu : ∀ j, j + i < 2 * T.h → j < T.h → gateOf S' (T.path t j) + 1 ≤ x.rd) (hf : ∀ j, j < T.h → (x.rd : Int) ≤ gateOf S' (T.path t j) + 1) : MOwn T rounds S' t ⟨nxt (ops t) i, x.rd, x.r1, false⟩ := by
  have hl := T.len t ht
  have hh := T.h1
  have hn : ∀ i' k, nxt (ops t) i = .op i' k → i' = i ∧ k = 0 := fun i' k e => by
    unfold nxt at e
    split at e
    · injection e with e1 e2; exact ⟨e1.symm, e2.symm⟩
    · cases e
  refine ⟨⟨ho.rd.1, ho.rd.2.1, fun _ => ho.rd.2.2.1 hin, fun e => absurd e (by unfold nxt; split <;> simp), fun e => absurd e (by unfold nxt; split <;> simp)⟩, nxt_ok _ _, hf, fun e => ?_, fun i' k e h1 j h2 h3 => ?_, fun e j hj => ?_, fun i' k e h1 => ?_, fun e => (by cases e), fun j hj e => ?_⟩
  · rw [(nxt_dn hl hi hi2 0).2.2.2.2] at e; cases e
  · obtain ⟨e1, e2⟩ := hn i' k e
    subst e1
    exact hd j (by omega) h3
  · have : ¬ i < (ops t).length := fun hlt => by
      rw [show nxt (ops t) i = .op i 0 from if_pos hlt] at e
      rcases e with e | e <;> cases e
    exact hd j (by omega) hj
  · obtain ⟨e1, _⟩ := hn i' k e
    omega
  · rw [(nxt_dn hl hi hi2 j).1] at e
    exact hu j (of_decide_eq_true e) hj

/-- Who waited goes on. -/
theorem MInv.leave (h : MInv T rounds S) (ht : t < n) {i : Nat} (hph : (S.th t).ph = .op i 7) (hi : i < T.h) : MInv T rounds ⟨upd S.th t ⟨nxt (ops t) (2 * T.h - i), (S.th t).rd, (S.th t).r1, false⟩, S.cell⟩ := by
  have ho := h.own t ht
  have hl := T.len t ht
  have hin : inRound (S.th t).ph = true := by rw [hph]; rfl
  have hop : ((S.th t).rd : Int) ≤ gateOf S (T.path t i) := (ho.aw i 7 hph hi).2.1 (.inr rfl)
  have hx : S.th t = ⟨.op i 7, (S.th t).rd, (S.th t).r1, (S.th t).slp⟩ := by rw [← hph]
  have hlx : ∀ j, T.last S t j = decide (j < i) := fun j => by
    unfold MT.last
    rw [hx, last_up hi]
    simp
  have hnx := fun j => nxt_dn (s := T.sz t) (rd := (S.th t).rd) (r1 := (S.th t).r1) hl (i := 2 * T.h - i) (by omega) (by omega) j
  have hth : ∀ u, u ≠ t → (upd S.th t (⟨nxt (ops t) (2 * T.h - i), (S.th t).rd, (S.th t).r1, false⟩ : Th)) u = S.th u := fun u hu => upd_ne _ _ hu
  have hrd : ∀ u, (upd S.th t (⟨nxt (ops t) (2 * T.h - i), (S.th t).rd, (S.th t).r1, false⟩ : Th) u).rd = (S.th u).rd := fun u => by
    by_cases e : u = t
    · subst e; rw [upd_same]
    · rw [hth u e]
  have hlast : ∀ u j, T.last ⟨upd S.th t ⟨nxt (ops t) (2 * T.h - i), (S.th t).rd, (S.th t).r1, false⟩, S.cell⟩ u j = T.last S u j := fun u j => by
    by_cases e : u = t
    · subst e
      rw [hlx]
      unfold MT.last
      dsimp only
      rw [upd_same, (hnx j).1, Bool.eq_iff_iff]
      simp
      omega
    · unfold MT.last
      dsimp only
      rw [hth u e]
  have hwait : ∀ u j, u ≠ t → T.wait ⟨upd S.th t ⟨nxt (ops t) (2 * T.h - i), (S.th t).rd, (S.th t).r1, false⟩, S.cell⟩ u j = T.wait S u j := fun u j e => by
    unfold MT.wait
    dsimp only
    rw [hth u e]
  have hop3 : ∀ k, k = 2 ∨ k = 3 → ∀ u j, opAt T.h k (upd S.th t (⟨nxt (ops t) (2 * T.h - i), (S.th t).rd, (S.th t).r1, false⟩ : Th) u) j = opAt T.h k (S.th u) j := fun k hk u j => by
    by_cases e : u = t
    · subst e
      rw [upd_same, hx, op_up hi]
      rcases hk with rfl | rfl
      · exact (hnx j).2.2.1
      · exact (hnx j).2.2.2.1
    · rw [hth u e]
  have hhere : ∀ v j u, u < n → j < T.h → T.here ⟨upd S.th t ⟨nxt (ops t) (2 * T.h - i), (S.th t).rd, (S.th t).r1, false⟩, S.cell⟩ v j u = T.here S v j u := fun v j u hu hj => by
    unfold MT.here
    rw [hlast]
    dsimp only
    rw [hrd]
    by_cases e : u = t
    · subst e
      by_cases hv : T.path u j = v
      · by_cases hr : ((S.th u).rd : Int) = gateOf S v + 1
        · have hji : j ≠ i := fun e => by subst e; rw [hv] at hop; omega
          have hw : T.wait S u j = false := by
            unfold MT.wait waitAt
            rw [hph]
            simp [hji]
          have hw' : T.wait ⟨upd S.th u ⟨nxt (ops u) (2 * T.h - i), (S.th u).rd, (S.th u).r1, false⟩, S.cell⟩ u j = false := by
            unfold MT.wait
            dsimp only
            rw [upd_same]
            exact (hnx j).2.1
          rw [hw, hw']
          rfl
        · show (_ && decide (((S.th u).rd : Int) = gateOf S v + 1) && _) = _
          rw [decide_eq_false hr]
          simp
      · rw [decide_eq_false hv]
        simp
    · rw [hwait u j e]
      rfl
  have hcnt : ∀ v j, j < T.h → T.cnt ⟨upd S.th t ⟨nxt (ops t) (2 * T.h - i), (S.th t).rd, (S.th t).r1, false⟩, S.cell⟩ v j = T.cnt S v j := fun v j hj => by
    unfold MT.cnt
    congr 1
    exact List.filter_congr (fun u hu => hhere v j u (List.mem_range.1 hu) hj)
  have hcame : ∀ u, cameN (S.th u) ≤ cameN (upd S.th t (⟨nxt (ops t) (2 * T.h - i), (S.th t).rd, (S.th t).r1, false⟩ : Th) u) := fun u => by
    by_cases e : u = t
    · subst e
      rw [upd_same, came_op hph, came_nxt rfl]
      exact Nat.le_refl _
    · rw [hth u e]
      exact Nat.le_refl _
  refine ⟨fun u hu => ?_, h.mono, fun u j w hu hj hw => Int.le_trans (h.safe u j w hu hj hw) (by exact_mod_cast hcame w), fun u j hu hj hll w hw hne he => ?_, fun u j hu hj => ?_, fun u j hu hj hc => ?_, fun u j hu hj hg => ?_, fun u j hu hj hll w hw e => ?_⟩
  · by_cases e : u = t
    · subst e
      show MOwn T rounds _ u (upd S.th u _ u)
      rw [upd_same]
      refine own_dn (S := S) (x := S.th u) ho hu hin (by omega) (by omega) (fun j h1 h2 => ?_) (fun j h1 h2 => ?_) ho.floor
      · have := gate_up h hu (j - i) i (by omega)
        rw [show i + (j - i) = j by omega] at this
        exact Int.le_trans hop this
      · exact ho.unop j h2 (by
          have := hlx j
          unfold MT.last at this
          rw [this]
          exact decide_eq_true (by omega))
    · show MOwn T rounds _ u (upd S.th t _ u)
      rw [hth u e]
      have hou := h.own u hu
      refine hou.other (fun v => Int.le_refl _) hou.rise hou.unop (fun i' hi' e1 e2 e3 => ?_)
      rcases e3 with e3 | ⟨w, j, c1, c2, c3, c4⟩
      · exact .inl e3
      · exact .inr ⟨w, j, c1, c2, c3, by rw [← hop3 3 (.inr rfl)] at c4; exact c4⟩
  · rw [hlast] at hll
    obtain ⟨a, m, b, c⟩ := h.comp u j hu hj hll w hw hne he
    refine ⟨by show (upd S.th t _ w).rd = (upd S.th t _ u).rd; rw [hrd, hrd]; exact a, m, b, ?_⟩
    by_cases e : w = t
    · subst e
      exfalso
      obtain ⟨k, e1, e2, _⟩ := wait_op c
      rw [hph] at e1
      injection e1 with e1 e3
      subst e1
      have h1 := (h.own u hu).unop j hj hll
      have h2 := gate_up h hw (j - i) i (by omega)
      rw [show i + (j - i) = j by omega, he] at h2
      omega
    · rw [hwait w m e]
      exact c
  · rcases h.count u j hu hj with ⟨⟨w, a, b, c⟩, d⟩ | ⟨a, b⟩
    · exact .inl ⟨⟨w, a, b, by rw [← hop3 2 (.inl rfl)] at c; exact c⟩, d⟩
    · exact .inr ⟨fun w hw e => by have := a w hw e; rw [← hop3 2 (.inl rfl)] at this; exact this, by rw [hcnt _ _ hj]; exact b⟩
  · rw [hcnt _ _ hj] at hc
    obtain ⟨w, a, b, c, d⟩ := h.full u j hu hj hc
    exact ⟨w, a, b, by show ((upd S.th t _ w).rd : Int) = _; rw [hrd]; exact c, by rw [hlast]; exact d⟩
  · obtain ⟨w, a, b, c, d⟩ := h.resp u j hu hj hg
    exact ⟨w, a, b, by show ((upd S.th t _ w).rd : Int) = _; rw [hrd]; exact c, by rw [hlast]; exact d⟩
  · rw [hlast] at hll
    obtain ⟨v, a, b, c, d⟩ := h.reps u j hu hj hll w hw e
    exact ⟨v, a, b, by show (upd S.th t _ v).rd = (upd S.th t _ u).rd; rw [hrd, hrd]; exact c, by rw [hlast]; exact d⟩
end
end Go.Proofs.YtkhaeabbbhfloaaDoor

namespace Go.Proofs.YtkhaeabbbhfloaaDoor
set_option maxRecDepth 100000
set_option linter.unusedVariables false
set_option linter.unusedSimpArgs false

section
variable {ops : Nat → List BOp} {n nc rounds : Nat} {T : MT ops n nc} {S S' : BS} {t : Nat}

theorem like_last {h : Nat} {s : Nat → Nat} {y x : Th} (hl : Like y x) (j : Nat) : lastAt h s y j = lastAt h s x j := by unfold lastAt; rw [hl.1, hl.2.2.1]
theorem like_wait {h : Nat} {s : Nat → Nat} {y x : Th} (hl : Like y x) (j : Nat) : waitAt h s y j = waitAt h s x j := by unfold waitAt; rw [hl.1, hl.2.2.1]
theorem like_op {h k : Nat} {y x : Th} (hl : Like y x) (j : Nat) : opAt h k y j = opAt h k x j := by unfold opAt; rw [hl.1]
theorem like_rise {h : Nat} {s : Nat → Nat} {y x : Th} (hl : Like y x) : rising h s y = rising h s x := by unfold rising; rw [hl.1, hl.2.2.1]

/-- What is kept when others are like they were, and no gate was closed. -/
theorem MOwn.like {u : Nat} {x y : Th} (ho : MOwn T rounds S u x) (hl : Like y x) (hg : ∀ v, gateOf S' v = gateOf S v)
    (hsl : ∀ i, i < T.h → x.ph = .op i 6 → y.slp = true → (gateOf S (T.path u i) = x.r1 ∨ ∃ w j, w < n ∧ j < T.h ∧ T.path w j = T.path u i ∧ opAt T.h 3 (S.th w) j = true) → gateOf S (T.path u i) = x.r1 ∨ ∃ w j, w < n ∧ j < T.h ∧ T.path w j = T.path u i ∧ opAt T.h 3 (S'.th w) j = true) : MOwn T rounds S' u y := by
  obtain ⟨h1, h2, h3, h4⟩ := hl
  have hlk : Like y x := ⟨h1, h2, h3, h4⟩
  refine ⟨by rw [h1, h2]; exact ho.rd, by rw [h1]; exact ho.ok, fun j hj => by rw [h2, hg]; exact ho.floor j hj, fun e => by rw [h2, hg]; exact ho.rise (by rw [← like_rise hlk]; exact e), fun i k e hi j e1 e2 => by rw [h2, hg]; exact ho.down i k (by rw [← h1]; exact e) hi j e1 e2, fun e j hj => by rw [h2, hg]; exact ho.gone (by rw [← h1]; exact e) j hj, fun i k e hi => ?_, fun e => by rw [h1]; exact ho.nap (h4 e), fun j hj e => by rw [h2, hg]; exact ho.unop j hj (by rw [← like_last hlk]; exact e)⟩
  obtain ⟨a1, a2, a3, a4⟩ := ho.aw i k (by rw [← h1]; exact e) hi
  rw [h2, h3, hg]
  refine ⟨a1, a2, a3, fun hs => ?_⟩
  obtain ⟨b1, b2, b3⟩ := a4 (h4 hs)
  subst b1
  exact ⟨rfl, b2, hsl i hi (by rw [← h1]; exact e) hs b3⟩

/-- Who waits at a gate is woken. -/
theorem MInv.wakeup (h : MInv T rounds S) (ht : t < n) {i : Nat} (hph : (S.th t).ph = .op i 3) (hi : T.h ≤ i) (hi2 : i < 2 * T.h) : MInv T rounds ⟨upd (wakeAll ops (2 * T.path t (2 * T.h - 1 - i) + 1) S.th) t ⟨nxt (ops t) (i + 1), (S.th t).rd, (S.th t).r1, false⟩, S.cell⟩ := by
  have ho := h.own t ht
  have hl := T.len t ht
  have hin : inRound (S.th t).ph = true := by rw [hph]; rfl
  obtain ⟨l, hll⟩ : ∃ l, 2 * T.h - 1 - i = l := ⟨_, rfl⟩
  rw [hll]
  obtain ⟨th', hth'⟩ : ∃ th', wakeAll ops (2 * T.path t l + 1) S.th = th' := ⟨_, rfl⟩
  have hlike : ∀ u, Like (th' u) (S.th u) := fun u => by
    rw [← hth']
    unfold wakeAll
    split
    · exact ⟨rfl, rfl, rfl, fun e => by cases e⟩
    · exact Like.refl _
  have hsleep : ∀ u i', u < n → i' < T.h → (S.th u).ph = .op i' 6 → (th' u).slp = true → T.path u i' ≠ T.path t l := fun u i' hu hi' e e2 e3 => by
    rw [← hth'] at e2
    unfold wakeAll at e2
    rw [if_pos (by rw [e]; show napOp ((ops u).getD i' default) 6 = _; rw [T.up_op u i' hu hi', e3]; rfl)] at e2
    cases e2
  rw [hth']
  have hx : S.th t = ⟨.op i 3, (S.th t).rd, (S.th t).r1, (S.th t).slp⟩ := by rw [← hph]
  have hni : ¬ i < T.h := by omega
  have hlx : ∀ j, T.last S t j = decide (j < l) := fun j => by
    unfold MT.last
    rw [hx, last_dn hni, hll]
    simp
  have hnx := fun j => nxt_dn (s := T.sz t) (rd := (S.th t).rd) (r1 := (S.th t).r1) hl (i := i + 1) (by omega) (by omega) j
  have hlast : ∀ u j, T.last ⟨upd th' t ⟨nxt (ops t) (i + 1), (S.th t).rd, (S.th t).r1, false⟩, S.cell⟩ u j = T.last S u j := fun u j => by
    by_cases e : u = t
    · subst e
      rw [hlx]
      unfold MT.last
      dsimp only
      rw [upd_same, (hnx j).1, Bool.eq_iff_iff]
      simp
      omega
    · unfold MT.last
      dsimp only
      rw [upd_ne _ _ e, like_last (hlike u)]
  have hwait : ∀ u j, T.wait ⟨upd th' t ⟨nxt (ops t) (i + 1), (S.th t).rd, (S.th t).r1, false⟩, S.cell⟩ u j = T.wait S u j := fun u j => by
    by_cases e : u = t
    · subst e
      unfold MT.wait
      dsimp only
      rw [upd_same, (hnx j).2.1, hx, wait_dn hni]
    · unfold MT.wait
      dsimp only
      rw [upd_ne _ _ e, like_wait (hlike u)]
  have hrd : ∀ u, (upd th' t (⟨nxt (ops t) (i + 1), (S.th t).rd, (S.th t).r1, false⟩ : Th) u).rd = (S.th u).rd := fun u => by
    by_cases e : u = t
    · subst e; rw [upd_same]
    · rw [upd_ne _ _ e, (hlike u).2.1]
  have htwo : ∀ u j, opAt T.h 2 (upd th' t (⟨nxt (ops t) (i + 1), (S.th t).rd, (S.th t).r1, false⟩ : Th) u) j = opAt T.h 2 (S.th u) j := fun u j => by
    by_cases e : u = t
    · subst e
      rw [upd_same, hx, op_dn hni, (hnx j).2.2.1]
      simp
    · rw [upd_ne _ _ e, like_op (hlike u)]
  have hhere : ∀ v j u, T.here ⟨upd th' t ⟨nxt (ops t) (i + 1), (S.th t).rd, (S.th t).r1, false⟩, S.cell⟩ v j u = T.here S v j u := fun v j u => by
    unfold MT.here
    rw [hlast, hwait]
    dsimp only
    rw [hrd]
    rfl
  have hcnt : ∀ v j, T.cnt ⟨upd th' t ⟨nxt (ops t) (i + 1), (S.th t).rd, (S.th t).r1, false⟩, S.cell⟩ v j = T.cnt S v j := fun v j => by
    unfold MT.cnt
    congr 1
    exact List.filter_congr (fun u _ => hhere v j u)
  have hcame : ∀ u, cameN (S.th u) ≤ cameN (upd th' t (⟨nxt (ops t) (i + 1), (S.th t).rd, (S.th t).r1, false⟩ : Th) u) := fun u => by
    by_cases e : u = t
    · subst e
      rw [upd_same, came_op hph, came_nxt rfl]
      exact Nat.le_refl _
    · rw [upd_ne _ _ e, (hlike u).came]
      exact Nat.le_refl _
  refine ⟨fun u hu => ?_, h.mono, fun u j w hu hj hw => Int.le_trans (h.safe u j w hu hj hw) (by exact_mod_cast hcame w), fun u j hu hj e w hw hne he => ?_, fun u j hu hj => ?_, fun u j hu hj hc => ?_, fun u j hu hj hg => ?_, fun u j hu hj e w hw e2 => ?_⟩
  · by_cases e : u = t
    · subst e
      show MOwn T rounds _ u (upd th' u _ u)
      rw [upd_same]
      refine own_dn (S := S) (x := S.th u) ho hu hin (by omega) (by omega) (fun j h1 h2 => ?_) (fun j h1 h2 => ?_) ho.floor
      · exact ho.down i 3 hph hi j (by omega) h2
      · exact ho.unop j h2 (by
          have := hlx j
          unfold MT.last at this
          rw [this]
          exact decide_eq_true (by omega))
    · show MOwn T rounds _ u (upd th' t _ u)
      rw [upd_ne _ _ e]
      have hou := h.own u hu
      refine hou.like (hlike u) (fun v => rfl) (fun i' hi' e1 e2 e3 => ?_)
      rcases e3 with e3 | ⟨w, j, c1, c2, c3, c4⟩
      · exact .inl e3
      · refine .inr ⟨w, j, c1, c2, c3, ?_⟩
        show opAt T.h 3 (upd th' t _ w) j = true
        by_cases hw : w = t
        · subst hw
          exfalso
          rw [hx, op_dn hni, hll] at c4
          simp only [Bool.and_eq_true, decide_eq_true_eq] at c4
          rw [c4.1] at c3
          exact hsleep u i' hu hi' e1 e2 c3.symm
        · rw [upd_ne _ _ hw, like_op (hlike w)]
          exact c4
  · rw [hlast] at e
    obtain ⟨a, m, b, c⟩ := h.comp u j hu hj e w hw hne he
    exact ⟨by show (upd th' t _ w).rd = (upd th' t _ u).rd; rw [hrd, hrd]; exact a, m, b, by rw [hwait]; exact c⟩
  · rcases h.count u j hu hj with ⟨⟨w, a, b, c⟩, d⟩ | ⟨a, b⟩
    · exact .inl ⟨⟨w, a, b, by rw [← htwo] at c; exact c⟩, d⟩
    · exact .inr ⟨fun w hw e => by have := a w hw e; rw [← htwo] at this; exact this, by rw [hcnt]; exact b⟩
  · rw [hcnt] at hc
    obtain ⟨w, a, b, c, d⟩ := h.full u j hu hj hc
    exact ⟨w, a, b, by show ((upd th' t _ w).rd : Int) = _; rw [hrd]; exact c, by rw [hlast]; exact d⟩
  · obtain ⟨w, a, b, c, d⟩ := h.resp u j hu hj hg
    exact ⟨w, a, b, by show ((upd th' t _ w).rd : Int) = _; rw [hrd]; exact c, by rw [hlast]; exact d⟩
  · rw [hlast] at e
    obtain ⟨v, a, b, c, d⟩ := h.reps u j hu hj e w hw e2
    exact ⟨v, a, b, by show (upd th' t _ v).rd = (upd th' t _ u).rd; rw [hrd, hrd]; exact c, by rw [hlast]; exact d⟩

/-- A count is let be nought again. -/
theorem MInv.zero (h : MInv T rounds S) (ht : t < n) (hs : (S.th t).slp = false) {i : Nat} (hph : (S.th t).ph = .op i 1) (hi : T.h ≤ i) (hi2 : i < 2 * T.h) : MInv T rounds ⟨upd S.th t ⟨.op i 2, (S.th t).rd, (S.th t).r1, false⟩, upd S.cell (2 * T.path t (2 * T.h - 1 - i)) 0⟩ := by
  have ho := h.own t ht
  have hl := T.len t ht
  obtain ⟨l, hll⟩ : ∃ l, 2 * T.h - 1 - i = l := ⟨_, rfl⟩
  rw [hll]
  have hlh : l < T.h := by omega
  have hni : ¬ i < T.h := by omega
  have hx : S.th t = ⟨.op i 1, (S.th t).rd, (S.th t).r1, false⟩ := by rw [← hph, ← hs]
  have hg : ∀ v, gateOf (⟨upd S.th t ⟨.op i 2, (S.th t).rd, (S.th t).r1, false⟩, upd S.cell (2 * T.path t l) 0⟩ : BS) v = gateOf S v := fun v => by
    unfold gateOf
    dsimp only
    rw [upd_ne _ _ (by omega)]
  have hlast : ∀ u j, T.last ⟨upd S.th t ⟨.op i 2, (S.th t).rd, (S.th t).r1, false⟩, upd S.cell (2 * T.path t l) 0⟩ u j = T.last S u j := fun u j => by
    by_cases e : u = t
    · subst e
      unfold MT.last
      dsimp only
      rw [upd_same, last_dn hni, hx, last_dn hni]
      simp
    · unfold MT.last
      dsimp only
      rw [upd_ne _ _ e]
  have hwait : ∀ u j, T.wait ⟨upd S.th t ⟨.op i 2, (S.th t).rd, (S.th t).r1, false⟩, upd S.cell (2 * T.path t l) 0⟩ u j = T.wait S u j := fun u j => by
    by_cases e : u = t
    · subst e
      unfold MT.wait
      dsimp only
      rw [upd_same, wait_dn hni, hx, wait_dn hni]
    · unfold MT.wait
      dsimp only
      rw [upd_ne _ _ e]
  have hrd : ∀ u, (upd S.th t (⟨.op i 2, (S.th t).rd, (S.th t).r1, false⟩ : Th) u).rd = (S.th u).rd := fun u => by
    by_cases e : u = t
    · subst e; rw [upd_same]
    · rw [upd_ne _ _ e]
  have hthree : ∀ u j, opAt T.h 3 (upd S.th t (⟨.op i 2, (S.th t).rd, (S.th t).r1, false⟩ : Th) u) j = opAt T.h 3 (S.th u) j := fun u j => by
    by_cases e : u = t
    · subst e
      rw [upd_same, op_dn hni, hx, op_dn hni]
      simp
    · rw [upd_ne _ _ e]
  have hhere : ∀ v j u, T.here ⟨upd S.th t ⟨.op i 2, (S.th t).rd, (S.th t).r1, false⟩, upd S.cell (2 * T.path t l) 0⟩ v j u = T.here S v j u := fun v j u => by
    unfold MT.here
    rw [hlast, hwait, hg]
    dsimp only
    rw [hrd]
  have hcnt : ∀ v j, T.cnt ⟨upd S.th t ⟨.op i 2, (S.th t).rd, (S.th t).r1, false⟩, upd S.cell (2 * T.path t l) 0⟩ v j = T.cnt S v j := fun v j => by
    unfold MT.cnt
    congr 1
    exact List.filter_congr (fun u _ => hhere v j u)
  have hcame : ∀ u, cameN (S.th u) = cameN (upd S.th t (⟨.op i 2, (S.th t).rd, (S.th t).r1, false⟩ : Th) u) := fun u => by
    by_cases e : u = t
    · subst e
      rw [upd_same, came_op hph, came_op rfl]
    · rw [upd_ne _ _ e]
  refine ⟨fun u hu => ?_, fun u j hu hj => by rw [hg, hg]; exact h.mono u j hu hj, fun u j w hu hj hw => by rw [hg]; show _ ≤ ((cameN (upd S.th t _ w) : Nat) : Int); rw [← hcame]; exact h.safe u j w hu hj hw, fun u j hu hj e w hw hne he => ?_, fun u j hu hj => ?_, fun u j hu hj hc => ?_, fun u j hu hj hgg => ?_, fun u j hu hj e w hw e2 => ?_⟩
  · by_cases e : u = t
    · subst e
      show MOwn T rounds _ u (upd S.th u _ u)
      rw [upd_same]
      refine ⟨⟨ho.rd.1, ho.rd.2.1, fun _ => ho.rd.2.2.1 (by rw [hph]; rfl), fun e => (by cases e), fun e => (by rcases e with e | e <;> cases e)⟩, ⟨by rw [hl]; exact hi2, by have := T.dn_op u l hu hlh; rw [show 2 * T.h - 1 - l = i by omega] at this; rw [this]; show 2 < 4; decide⟩, fun j hj => by rw [hg]; exact ho.floor j hj, fun e => (by rw [rise_dn hni] at e; cases e), fun i' k e h1 j h2 h3 => ?_, fun e => (by rcases e with e | e <;> cases e), fun i' k e h1 => ?_, fun e => (by cases e), fun j hj e => ?_⟩
      · injection e with e1 e2
        subst e1 e2
        rw [hg]
        exact ho.down i 1 hph hi j (by omega) h3
      · injection e with e1 e2
        omega
      · rw [hg]
        have h4 := ho.unop j hj
        rw [hx, last_dn hni] at h4
        rw [last_dn hni] at e
        exact h4 (by simpa using e)
    · show MOwn T rounds _ u (upd S.th t _ u)
      rw [upd_ne _ _ e]
      refine (h.own u hu).like (Like.refl _) hg (fun i' hi' e1 e2 e3 => ?_)
      rcases e3 with e3 | ⟨w, j, c1, c2, c3, c4⟩
      · exact .inl e3
      · exact .inr ⟨w, j, c1, c2, c3, by show opAt T.h 3 (upd S.th t _ w) j = true; rw [hthree]; exact c4⟩
  · rw [hlast] at e
    obtain ⟨a, m, b, c⟩ := h.comp u j hu hj e w hw hne he
    exact ⟨by show (upd S.th t _ w).rd = (upd S.th t _ u).rd; rw [hrd, hrd]; exact a, m, b, by rw [hwait]; exact c⟩
  · by_cases hv : T.path u j = T.path t l
    · have hjl := T.level u t j l hu ht hj hlh hv
      subst hjl
      refine .inl ⟨⟨t, ht, hv.symm, ?_⟩, by show upd S.cell _ 0 _ = 0; rw [hv, upd_same]⟩
      show opAt T.h 2 (upd S.th t _ t) j = true
      rw [upd_same, op_dn hni, hll]
      simp
    · have hcell : upd S.cell (2 * T.path t l) 0 (2 * T.path u j) = S.cell (2 * T.path u j) := upd_ne _ _ (by omega)
      have htwo : ∀ w, T.path w j = T.path u j → opAt T.h 2 (upd S.th t (⟨.op i 2, (S.th t).rd, (S.th t).r1, false⟩ : Th) w) j = opAt T.h 2 (S.th w) j := fun w hw => by
        by_cases e : w = t
        · subst e
          rw [upd_same, op_dn hni, hx, op_dn hni, hll]
          have : j ≠ l := fun e => by subst e; exact hv hw.symm
          simp [this]
        · rw [upd_ne _ _ e]
      rcases h.count u j hu hj with ⟨⟨w, a, b, c⟩, d⟩ | ⟨a, b⟩
      · exact .inl ⟨⟨w, a, b, by rw [← htwo w b] at c; exact c⟩, hcell.trans d⟩
      · exact .inr ⟨fun w hw e => by have := a w hw e; rw [← htwo w e] at this; exact this, by rw [hcnt]; exact hcell.trans b⟩
  · rw [hcnt] at hc
    obtain ⟨w, a, b, c, d⟩ := h.full u j hu hj hc
    exact ⟨w, a, b, by rw [hg]; show ((upd S.th t _ w).rd : Int) = _; rw [hrd]; exact c, by rw [hlast]; exact d⟩
  · rw [hg, hg] at hgg
    obtain ⟨w, a, b, c, d⟩ := h.resp u j hu hj hgg
    exact ⟨w, a, b, by rw [hg]; show ((upd S.th t _ w).rd : Int) = _; rw [hrd]; exact c, by rw [hlast]; exact d⟩
  · rw [hlast] at e
    obtain ⟨v, a, b, c, d⟩ := h.reps u j hu hj e w hw e2
    exact ⟨v, a, b, by show (upd S.th t _ v).rd = (upd S.th t _ u).rd; rw [hrd, hrd]; exact c, by rw [hlast]; exact d⟩
end
end Go.Proofs.YtkhaeabbbhfloaaDoor

namespace Go.Proofs.YtkhaeabbbhfloaaDoor
set_option maxRecDepth 100000
set_option linter.unusedVariables false
set_option linter.unusedSimpArgs false

section
variable {ops : Nat → List BOp} {n nc rounds : Nat} {T : MT ops n nc} {S S' : BS} {t : Nat}

/-- A gate is opened. -/
theorem MInv.gate (h : MInv T rounds S) (ht : t < n) (hs : (S.th t).slp = false) {i : Nat} (hph : (S.th t).ph = .op i 2) (hi : T.h ≤ i) (hi2 : i < 2 * T.h) : MInv T rounds ⟨upd S.th t ⟨.op i 3, (S.th t).rd, (S.th t).r1, false⟩, upd S.cell (2 * T.path t (2 * T.h - 1 - i) + 1) (S.th t).rd⟩ := by
  have ho := h.own t ht
  have hl := T.len t ht
  have hh1 := T.h1
  obtain ⟨l, hll⟩ : ∃ l, 2 * T.h - 1 - i = l := ⟨_, rfl⟩
  rw [hll]
  have hlh : l < T.h := by omega
  have hni : ¬ i < T.h := by omega
  have hx : S.th t = ⟨.op i 2, (S.th t).rd, (S.th t).r1, false⟩ := by rw [← hph, ← hs]
  obtain ⟨v, hv⟩ : ∃ v, T.path t l = v := ⟨_, rfl⟩
  rw [hv]
  obtain ⟨r, hr⟩ : ∃ r, (S.th t).rd = r := ⟨_, rfl⟩
  have hlt : T.last S t l = true := by
    unfold MT.last
    rw [hx, last_dn hni, hll]
    simp
  have hold : gateOf S v + 1 = r := by
    have h1 := ho.unop l hlh hlt
    have h2 := ho.floor l hlh
    rw [hv, hr] at h1 h2
    omega
  obtain ⟨S', hS'⟩ : ∃ S' : BS, (⟨upd S.th t ⟨.op i 3, (S.th t).rd, (S.th t).r1, false⟩, upd S.cell (2 * v + 1) (S.th t).rd⟩ : BS) = S' := ⟨_, rfl⟩
  rw [hS']
  have hth : ∀ u, u ≠ t → S'.th u = S.th u := fun u hu => by rw [← hS']; exact upd_ne _ _ hu
  have htt : S'.th t = ⟨.op i 3, (S.th t).rd, (S.th t).r1, false⟩ := by rw [← hS']; exact upd_same _ _ _
  have hgv : gateOf S' v = r := by rw [← hS', ← hr]; unfold gateOf; exact upd_same _ _ _
  have hgo : ∀ w, w ≠ v → gateOf S' w = gateOf S w := fun w hw => by rw [← hS']; unfold gateOf; exact upd_ne _ _ (by omega)
  have hup : ∀ w, gateOf S w ≤ gateOf S' w := fun w => by
    by_cases e : w = v
    · subst e; rw [hgv]; omega
    · rw [hgo w e]; exact Int.le_refl _
  have hcell : ∀ w, S'.cell (2 * w) = S.cell (2 * w) := fun w => by rw [← hS']; exact upd_ne _ _ (by omega)
  have hlast : ∀ u j, (u ≠ t ∨ j ≠ l) → T.last S' u j = T.last S u j := fun u j hne => by
    unfold MT.last
    by_cases e : u = t
    · subst e
      rw [htt, last_dn hni, hx, last_dn hni, hll]
      have : j ≠ l := hne.resolve_left (fun h => h rfl)
      simp [this]
    · rw [hth u e]
  have hlastl : T.last S' t l = false := by
    unfold MT.last
    rw [htt, last_dn hni, hll]
    simp
  have hlast' : ∀ u j, T.last S' u j = true → T.last S u j = true := fun u j e => by
    by_cases hc : u ≠ t ∨ j ≠ l
    · rw [← hlast u j hc]; exact e
    · have h1 : u = t := Classical.byContradiction fun h => hc (.inl h)
      have h2 : j = l := Classical.byContradiction fun h => hc (.inr h)
      subst h1 h2
      rw [hlastl] at e
      cases e
  have hwait : ∀ u j, T.wait S' u j = T.wait S u j := fun u j => by
    unfold MT.wait
    by_cases e : u = t
    · subst e
      rw [htt, wait_dn hni, hx, wait_dn hni]
    · rw [hth u e]
  have hrd : ∀ u, (S'.th u).rd = (S.th u).rd := fun u => by
    by_cases e : u = t
    · subst e; rw [htt]
    · rw [hth u e]
  have hcame : ∀ u, cameN (S'.th u) = cameN (S.th u) := fun u => by
    by_cases e : u = t
    · subst e
      rw [htt, came_op hph, came_op rfl]
    · rw [hth u e]
  have hnode : ∀ u j, u < n → j < T.h → T.path u j = v → j = l := fun u j hu hj e => T.level u t j l hu ht hj hlh (e.trans hv.symm)
  have hcamet : cameN (S.th t) = r := by rw [came_op hph, hr]
  have hothers : ∀ u, u < n → u ≠ t → T.path u l = v → (S.th u).rd = r ∧ ∃ m, m ≤ l ∧ T.wait S u m = true := fun u hu hne e => by
    have := h.comp t l ht hlh hlt u hu hne (e.trans hv.symm)
    rw [hr] at this
    exact this
  have hhere : ∀ w j u, w ≠ v → u < n → j < T.h → T.here S' w j u = T.here S w j u := fun w j u hw hu hj => by
    unfold MT.here
    rw [hwait, hgo w hw, hrd]
    by_cases hp : T.path u j = w
    · by_cases hc : u ≠ t ∨ j ≠ l
      · rw [hlast u j hc]
      · have h1 : u = t := Classical.byContradiction fun h => hc (.inl h)
        have h2 : j = l := Classical.byContradiction fun h => hc (.inr h)
        subst h1 h2
        exact absurd (hp.symm.trans hv) hw
    · rw [decide_eq_false hp]
      simp
  have hcnt : ∀ w j, w ≠ v → j < T.h → T.cnt S' w j = T.cnt S w j := fun w j hw hj => by
    unfold MT.cnt
    congr 1
    exact List.filter_congr (fun u hu => hhere w j u hw (List.mem_range.1 hu) hj)
  have hcntv : T.cnt S' v l = 0 := by
    unfold MT.cnt
    rw [List.length_eq_zero_iff, List.filter_eq_nil_iff]
    intro u hu e
    have hu := List.mem_range.1 hu
    unfold MT.here at e
    simp only [Bool.and_eq_true, decide_eq_true_eq] at e
    obtain ⟨⟨e1, e2⟩, _⟩ := e
    rw [hrd, hgv] at e2
    by_cases hne : u = t
    · subst hne
      rw [hr] at e2
      omega
    · have := (hothers u hu hne e1).1
      rw [this] at e2
      omega
  have hsafe : ∀ w, w < n → r ≤ cameN (S.th w) := fun w hw => by
    by_cases hroot : l = T.h - 1
    · by_cases e : w = t
      · subst e; rw [hcamet]; exact Nat.le_refl _
      · obtain ⟨e1, m, _, e2⟩ := hothers w hw e (by rw [hroot, T.root w t hw ht, ← hroot]; exact hv)
        obtain ⟨k, e3, _⟩ := wait_op e2
        rw [came_op e3, e1]
        exact Nat.le_refl _
    · have h1 := ho.down i 2 hph hi (l + 1) (by omega) (by omega)
      have h2 := h.safe t (l + 1) w ht (by omega) hw
      rw [hr] at h1
      exact_mod_cast Int.le_trans h1 h2
  refine ⟨fun u hu => ?_, fun u j hu hj => ?_, fun u j w hu hj hw => ?_, fun u j hu hj e w hw hne he => ?_, fun u j hu hj => ?_, fun u j hu hj hc => ?_, fun u j hu hj hg => ?_, fun u j hu hj e w hw e2 => ?_⟩
  · by_cases e : u = t
    · subst e
      rw [htt]
      refine ⟨⟨ho.rd.1, ho.rd.2.1, fun _ => ho.rd.2.2.1 (by rw [hph]; rfl), fun e => (by cases e), fun e => (by rcases e with e | e <;> cases e)⟩, ⟨by rw [hl]; exact hi2, by have := T.dn_op u l hu hlh; rw [show 2 * T.h - 1 - l = i by omega] at this; rw [this]; show 3 < 4; decide⟩, fun j hj => Int.le_trans (ho.floor j hj) (Int.add_le_add_right (hup _) 1), fun e => (by rw [rise_dn hni] at e; cases e), fun i' k e h1 j h2 h3 => ?_, fun e => (by rcases e with e | e <;> cases e), fun i' k e h1 => ?_, fun e => (by cases e), fun j hj e => ?_⟩
      · injection e with e1 e2
        subst e1 e2
        by_cases hj : j = l
        · subst hj
          rw [hv, hgv, hr]
          exact Int.le_refl _
        · exact Int.le_trans (ho.down i 2 hph hi j (by omega) h3) (hup _)
      · injection e with e1 e2
        omega
      · rw [last_dn hni, hll] at e
        have hjl : j < l := by simpa using e
        rw [hgo _ (fun e => by have := hnode u j hu hj e; omega)]
        exact ho.unop j hj (by rw [hx, last_dn hni, hll]; simp [hjl])
    · rw [hth u e]
      have hou := h.own u hu
      refine hou.other hup (fun e1 => ?_) (fun j hj e1 => ?_) (fun i' hi' e1 e2 e3 => ?_)
      · by_cases hroot : T.path u (T.h - 1) = v
        · exfalso
          have hlr := hnode u (T.h - 1) hu (by omega) hroot
          obtain ⟨_, m, _, e2⟩ := hothers u hu e (by rw [← hlr]; exact hroot)
          have := wait_not_rise e2
          rw [this] at e1
          cases e1
        · rw [hgo _ hroot]
          exact hou.rise e1
      · by_cases hpv : T.path u j = v
        · exfalso
          have hjl := hnode u j hu hj hpv
          subst hjl
          exact e (last_one h ht hu hj hlt e1 (hpv.trans hv.symm))
        · rw [hgo _ hpv]
          exact hou.unop j hj e1
      · by_cases hpv : T.path u i' = v
        · refine .inr ⟨t, l, ht, hlh, hv.trans hpv.symm, ?_⟩
          rw [htt, op_dn hni, hll]
          simp
        · rw [hgo _ hpv]
          rcases e3 with e3 | ⟨w, j, c1, c2, c3, c4⟩
          · exact .inl e3
          · refine .inr ⟨w, j, c1, c2, c3, ?_⟩
            by_cases hw : w = t
            · subst hw
              rw [hx, op_dn hni] at c4
              simp at c4
            · rw [hth w hw]
              exact c4
  · by_cases h1 : T.path u j = v
    · have hjl := hnode u j hu (by omega) h1
      subst hjl
      rw [h1, hgv]
      have h2 := ho.down i 2 hph hi (j + 1) (by omega) hj
      rw [hr, T.up t u j ht hu hj (hv.trans h1.symm)] at h2
      exact Int.le_trans h2 (hup _)
    · rw [hgo _ h1]
      exact Int.le_trans (h.mono u j hu hj) (hup _)
  · rw [hcame]
    by_cases h1 : T.path u j = v
    · rw [h1, hgv]
      exact_mod_cast hsafe w hw
    · rw [hgo _ h1]
      exact h.safe u j w hu hj hw
  · obtain ⟨a, m, b, c⟩ := h.comp u j hu hj (hlast' u j e) w hw hne he
    exact ⟨by rw [hrd, hrd]; exact a, m, b, by rw [hwait]; exact c⟩
  · have htwo : ∀ w, w ≠ t → opAt T.h 2 (S'.th w) j = opAt T.h 2 (S.th w) j := fun w hw => by rw [hth w hw]
    have htwot : opAt T.h 2 (S'.th t) j = false := by rw [htt, op_dn hni]; simp
    by_cases h1 : T.path u j = v
    · have hjl := hnode u j hu hj h1
      subst hjl
      have hzero : S.cell (2 * v) = 0 := by
        rcases h.count u j hu hj with ⟨_, d⟩ | ⟨a, _⟩
        · rw [h1] at d; exact d
        · have := a t ht (hv.trans h1.symm)
          rw [hx, op_dn hni, hll] at this
          simp at this
      refine .inr ⟨fun w hw e => ?_, by rw [h1, hcell, hzero, hcntv]; rfl⟩
      by_cases hwt : w = t
      · subst hwt; exact htwot
      · rw [htwo w hwt]
        cases h2 : opAt T.h 2 (S.th w) j with
        | false => rfl
        | true => exact absurd (last_one h ht hw hj hlt (op_last h2 (by decide)) (e.trans (h1.trans hv.symm))) hwt
    · rw [hcell, hcnt _ _ h1 hj]
      rcases h.count u j hu hj with ⟨⟨w, a, b, c⟩, d⟩ | ⟨a, b⟩
      · refine .inl ⟨⟨w, a, b, ?_⟩, d⟩
        have hwt : w ≠ t := fun e => by
          subst e
          rw [hx, op_dn hni, hll] at c
          simp only [Bool.and_eq_true, decide_eq_true_eq] at c
          rw [c.1] at b
          exact h1 (by rw [c.1]; exact b.symm.trans hv)
        rw [htwo w hwt]
        exact c
      · refine .inr ⟨fun w hw e => ?_, b⟩
        by_cases hwt : w = t
        · subst hwt; exact htwot
        · rw [htwo w hwt]
          exact a w hw e
  · by_cases h1 : T.path u j = v
    · have hjl := hnode u j hu hj h1
      subst hjl
      rw [h1, hcntv] at hc
      have h2 := (T.node u j hu hj).2.1
      have : T.sz u j = T.size (T.path u j) := rfl
      omega
    · rw [hcnt _ _ h1 hj] at hc
      obtain ⟨w, a, b, c, d⟩ := h.full u j hu hj hc
      refine ⟨w, a, b, by rw [hrd, hgo _ h1]; exact c, ?_⟩
      rw [hlast w j ?_]
      · exact d
      · by_cases hwt : w = t
        · refine .inr (fun e => ?_)
          subst hwt e
          exact h1 (b.symm.trans hv)
        · exact .inl hwt
  · by_cases h1 : T.path u j = v
    · have hjl := hnode u j hu (by omega) h1
      subst hjl
      exfalso
      rw [h1, hgv, hgo _ (fun e => by have := hnode u (j + 1) hu hj e; omega)] at hg
      have h2 := h.safe u (j + 1) t hu hj ht
      rw [hcamet] at h2
      omega
    · rw [hgo _ h1] at hg ⊢
      have hwit : ∀ w, T.path w j = T.path u j → T.last S w j = true → T.last S' w j = true := fun w e1 e2 => by
        rw [hlast w j ?_]
        · exact e2
        · by_cases hwt : w = t
          · refine .inr (fun e => ?_)
            subst hwt e
            exact h1 (e1.symm.trans hv)
          · exact .inl hwt
      by_cases h2 : T.path u (j + 1) = v
      · have hjl := hnode u (j + 1) hu hj h2
        rw [h2, hgv] at hg
        obtain ⟨w, a, b, c, d⟩ := h.reps t j ht hj (by rw [hjl]; exact hlt) u hu (by rw [h2, hjl, hv])
        refine ⟨w, a, b, ?_, hwit w b d⟩
        rw [hrd, c, hr]
        have h3 : (S.th u).rd = r := by
          by_cases hut : u = t
          · rw [hut, hr]
          · exact (hothers u hu hut (by rw [← hjl]; exact h2)).1
        have h4 := (h.own u hu).floor j (by omega)
        rw [h3] at h4
        omega
      · rw [hgo _ h2] at hg
        obtain ⟨w, a, b, c, d⟩ := h.resp u j hu hj hg
        exact ⟨w, a, b, by rw [hrd]; exact c, hwit w b d⟩
  · have e' := hlast' u (j + 1) e
    obtain ⟨w', a, b, c, d⟩ := h.reps u j hu hj e' w hw e2
    refine ⟨w', a, b, by rw [hrd, hrd]; exact c, ?_⟩
    rw [hlast w' j ?_]
    · exact d
    · by_cases hwt : w' = t
      · refine .inr (fun hjl => ?_)
        subst hwt
        have h1 := ho.down i 2 hph hi (j + 1) (by omega) hj
        have h2 := (h.own u hu).unop (j + 1) hj e'
        have h3 : T.path w' (j + 1) = T.path u (j + 1) := (T.up w' w j a hw hj b).trans e2
        rw [h3, c] at h1
        omega
      · exact .inl hwt
end
end Go.Proofs.YtkhaeabbbhfloaaDoor

namespace Go.Proofs.YtkhaeabbbhfloaaDoor
set_option maxRecDepth 100000
set_option linter.unusedVariables false
set_option linter.unusedSimpArgs false

section
variable {ops : Nat → List BOp} {n nc rounds : Nat} {T : MT ops n nc} {S S' : BS} {t : Nat}

/-- Who stands for a member where it goes up. -/
def MT.memb (T : MT ops n nc) (j u : Nat) : Nat := if j = 0 then u else T.path u (j - 1)

/-- A party comes to a node. -/
theorem MInv.fetch (h : MInv T rounds S) (ht : t < n) (hs : (S.th t).slp = false) {j : Nat} (hph : (S.th t).ph = .op j 0) (hj : j < T.h) : MInv T rounds ⟨upd S.th t ⟨.op j 1, (S.th t).rd, S.cell (2 * T.path t j), false⟩, upd S.cell (2 * T.path t j) ((S.cell (2 * T.path t j) + 1) % m64)⟩ ∧ 0 ≤ S.cell (2 * T.path t j) ∧ S.cell (2 * T.path t j) + 1 ≤ T.sz t j := by
  have ho := h.own t ht
  have hl := T.len t ht
  have hh1 := T.h1
  have hx : S.th t = ⟨.op j 0, (S.th t).rd, (S.th t).r1, false⟩ := by rw [← hph, ← hs]
  obtain ⟨v, hv⟩ : ∃ v, T.path t j = v := ⟨_, rfl⟩
  obtain ⟨r, hr⟩ : ∃ r, (S.th t).rd = r := ⟨_, rfl⟩
  have hrise : rising T.h (T.sz t) (S.th t) = true := by rw [hx]; simp [rising, hj]
  have hlt : ∀ i, T.last S t i = decide (i < j) := fun i => by
    unfold MT.last
    rw [hx, last_up hj]
    simp
  have hwt : ∀ i, T.wait S t i = false := fun i => by
    unfold MT.wait
    cases hw : waitAt T.h (T.sz t) (S.th t) i with
    | false => rfl
    | true => rw [wait_not_rise hw] at hrise; cases hrise
  have hroot := ho.rise hrise
  have hold : gateOf S v + 1 = r := by
    have h1 := gate_root h ht hj
    have h2 := ho.floor j hj
    rw [hv] at h1 h2
    rw [hr] at h2 hroot
    omega
  -- nobody is the last one here yet
  have hnol : ∀ u, u < n → T.path u j = v → T.last S u j = false := fun u hu e => by
    cases hlu : T.last S u j with
    | false => rfl
    | true =>
      by_cases hut : u = t
      · subst hut
        rw [hlt] at hlu
        simp at hlu
      · obtain ⟨_, m, _, e2⟩ := h.comp u j hu hj hlu t ht (Ne.symm hut) (hv.trans e.symm)
        rw [hwt] at e2
        cases e2
  obtain ⟨hn2, hcellN⟩ : (∀ u, u < n → T.path u j = v → opAt T.h 2 (S.th u) j = false) ∧ S.cell (2 * v) = T.cnt S v j := by
    rcases h.count t j ht hj with ⟨⟨u, a, b, c⟩, _⟩ | ⟨a, b⟩
    · have := hnol u a (b.trans hv)
      unfold MT.last at this
      rw [op_last c (by decide)] at this
      cases this
    · rw [hv] at a b
      exact ⟨a, b⟩
  rw [hv]
  obtain ⟨N, hN⟩ : ∃ N, T.cnt S v j = N := ⟨_, rfl⟩
  rw [hN] at hcellN
  rw [hcellN]
  obtain ⟨L, hL⟩ : ∃ L, (List.range n).filter (T.here S v j) = L := ⟨_, rfl⟩
  have hLlen : L.length = N := by rw [← hL]; exact hN
  have hLn : L.Nodup := by rw [← hL]; exact List.nodup_range.filter _
  have hLm : ∀ u, u ∈ L ↔ u < n ∧ T.path u j = v ∧ (S.th u).rd = r ∧ T.wait S u j = true := fun u => by
    rw [← hL, List.mem_filter, List.mem_range]
    unfold MT.here
    simp only [Bool.and_eq_true, Bool.or_eq_true, decide_eq_true_eq]
    constructor
    · rintro ⟨a, ⟨b, c⟩, d⟩
      refine ⟨a, b, by rw [hold] at c; exact_mod_cast c, ?_⟩
      rcases d with d | d
      · rw [hnol u a b] at d; cases d
      · exact d
    · rintro ⟨a, b, c, d⟩
      exact ⟨a, ⟨b, by rw [hold, c]⟩, .inr d⟩
  have htL : t ∉ L := fun e => by
    have := ((hLm t).1 e).2.2.2
    rw [hwt] at this
    cases this
  -- each stands for another member
  have hcons : ∀ u, u ∈ t :: L → u < n ∧ T.path u j = v ∧ (S.th u).rd = r ∧ ∀ i, i < j → T.last S u i = true := fun u hu => by
    rcases List.mem_cons.1 hu with e | e
    · subst e
      exact ⟨ht, hv, hr, fun i hi => by rw [hlt]; exact decide_eq_true hi⟩
    · obtain ⟨a, b, c, d⟩ := (hLm u).1 e
      exact ⟨a, b, c, fun i hi => last_low (.inr d) hi⟩
  have hinj : ∀ a ∈ t :: L, ∀ b ∈ t :: L, T.memb j a = T.memb j b → a = b := fun a ha b hb e => by
    obtain ⟨a1, a2, a3, a4⟩ := hcons a ha
    obtain ⟨b1, b2, b3, b4⟩ := hcons b hb
    unfold MT.memb at e
    by_cases hj0 : j = 0
    · rw [if_pos hj0, if_pos hj0] at e
      exact e
    · rw [if_neg hj0, if_neg hj0] at e
      exact last_one h b1 a1 (by omega) (b4 (j - 1) (by omega)) (a4 (j - 1) (by omega)) e
  have hin : ∀ a ∈ t :: L, T.memb j a ∈ T.mem v := fun a ha => by
    obtain ⟨a1, a2, _⟩ := hcons a ha
    have := T.mem_in a j a1 hj
    rw [a2] at this
    exact this
  have hnd : (t :: L).Nodup := List.nodup_cons.2 ⟨htL, hLn⟩
  have hsize : (T.mem v).length = T.sz t j := by rw [← hv]; exact T.mem_len t j ht hj
  have hle : N + 1 ≤ T.sz t j := by
    have := inj_le (t :: L) (T.mem v) hnd hinj hin
    rw [List.length_cons, hLlen, hsize] at this
    exact this
  have hs16 : T.sz t j ≤ 16 := (T.node t j ht hj).2.2
  have hmod : ((N : Int) + 1) % m64 = ((N + 1 : Nat) : Int) := by rw [small_mod (by omega) (by omega)]; omega
  have hszu : ∀ u, T.path u j = v → T.sz u j = T.sz t j := fun u e => by unfold MT.sz; rw [e, hv]
  -- if it is the last one all the others are there
  have hall : N + 1 = T.sz t j → ∀ u, u < n → T.path u j = v → ∃ w, w < n ∧ T.path w j = v ∧ T.memb j w = T.memb j u ∧ (S.th w).rd = r ∧ (w = t ∨ T.wait S w j = true) ∧ ∀ i, i < j → T.last S w i = true := fun e u hu hp => by
    have hc := T.mem_in u j hu hj
    rw [hp] at hc
    obtain ⟨w, hw, hwm⟩ := inj_all hnd hinj hin (by rw [List.length_cons, hLlen, hsize, e]) hc
    obtain ⟨a1, a2, a3, a4⟩ := hcons w hw
    refine ⟨w, a1, a2, hwm, a3, ?_, a4⟩
    rcases List.mem_cons.1 hw with e | e
    · exact .inl e
    · exact .inr ((hLm w).1 e).2.2.2
  refine ⟨?_, by omega, by omega⟩
  rw [hmod]
  obtain ⟨S', hS'⟩ : ∃ S' : BS, (⟨upd S.th t ⟨.op j 1, (S.th t).rd, (N : Int), false⟩, upd S.cell (2 * v) ((N + 1 : Nat) : Int)⟩ : BS) = S' := ⟨_, rfl⟩
  rw [hS']
  have hth : ∀ u, u ≠ t → S'.th u = S.th u := fun u hu => by rw [← hS']; exact upd_ne _ _ hu
  have htt : S'.th t = ⟨.op j 1, (S.th t).rd, (N : Int), false⟩ := by rw [← hS']; exact upd_same _ _ _
  have hg : ∀ w, gateOf S' w = gateOf S w := fun w => by rw [← hS']; unfold gateOf; exact upd_ne _ _ (by omega)
  have hcv : S'.cell (2 * v) = ((N + 1 : Nat) : Int) := by rw [← hS']; exact upd_same _ _ _
  have hco : ∀ w, w ≠ v → S'.cell (2 * w) = S.cell (2 * w) := fun w hw => by rw [← hS']; exact upd_ne _ _ (by omega)
  have hlt' : ∀ i, T.last S' t i = (decide (i < j) || (decide (i = j) && decide (N + 1 = T.sz t j))) := fun i => by
    unfold MT.last
    rw [htt, last_up hj, Bool.eq_iff_iff]
    simp
    omega
  have hwt' : ∀ i, T.wait S' t i = (decide (i = j) && !decide (N + 1 = T.sz t j)) := fun i => by
    unfold MT.wait waitAt
    rw [htt, Bool.eq_iff_iff]
    simp [hj]
    omega
  have hlo : ∀ u i, u ≠ t → T.last S' u i = T.last S u i := fun u i hu => by unfold MT.last; rw [hth u hu]
  have hwo : ∀ u i, u ≠ t → T.wait S' u i = T.wait S u i := fun u i hu => by unfold MT.wait; rw [hth u hu]
  have hrd : ∀ u, (S'.th u).rd = (S.th u).rd := fun u => by
    by_cases e : u = t
    · subst e; rw [htt]
    · rw [hth u e]
  have hop : ∀ k u i, opAt T.h k (S'.th u) i = opAt T.h k (S.th u) i := fun k u i => by
    by_cases e : u = t
    · subst e; rw [htt, op_up hj, hx, op_up hj]
    · rw [hth u e]
  have hcame : ∀ u, cameN (S'.th u) = cameN (S.th u) := fun u => by
    by_cases e : u = t
    · subst e; rw [htt, came_op rfl, came_op hph]
    · rw [hth u e]
  have hlastmono : ∀ u i, T.last S u i = true → T.last S' u i = true := fun u i e => by
    by_cases hu : u = t
    · subst hu
      rw [hlt] at e
      rw [hlt', e]
      rfl
    · rw [hlo u i hu]; exact e
  -- who is the last one now was so before, but for the party at this node
  have hlastback : ∀ u i, T.last S' u i = true → T.last S u i = true ∨ (u = t ∧ i = j ∧ N + 1 = T.sz t j) := fun u i e => by
    by_cases hu : u = t
    · subst hu
      rw [hlt'] at e
      rw [hlt]
      simp only [Bool.or_eq_true, Bool.and_eq_true, decide_eq_true_eq] at e ⊢
      rcases e with e | ⟨e1, e2⟩
      · exact .inl e
      · exact .inr ⟨trivial, e1, e2⟩
    · rw [hlo u i hu] at e
      exact .inl e
  have hnode : ∀ u i, u < n → i < T.h → T.path u i = v → i = j := fun u i hu hi e => T.level u t i j hu ht hi hj (e.trans hv.symm)
  have hhereo : ∀ w i u, u ≠ t → T.here S' w i u = T.here S w i u := fun w i u hu => by
    unfold MT.here
    rw [hlo u i hu, hwo u i hu, hg, hrd]
  have hheret : ∀ w i, i < T.h → w ≠ v → T.here S' w i t = T.here S w i t := fun w i hi hw => by
    unfold MT.here
    rw [hg, hrd, hlt, hlt', hwt, hwt']
    by_cases hij : i = j
    · subst hij
      have : T.path t i ≠ w := fun e => hw (e.symm.trans hv)
      rw [decide_eq_false this]
      simp
    · simp [hij]
  have hcnto : ∀ w i, i < T.h → w ≠ v → T.cnt S' w i = T.cnt S w i := fun w i hi hw => by
    unfold MT.cnt
    congr 1
    refine List.filter_congr (fun u _ => ?_)
    by_cases e : u = t
    · subst e; exact hheret w i hi hw
    · exact hhereo w i u e
  have hcntv : T.cnt S' v j = N + 1 := by
    have h1 : T.here S' v j t = true := by
      unfold MT.here
      rw [hg, hrd, hlt', hwt', hr, hold]
      by_cases e : N + 1 = T.sz t j <;> simp [hv, e]
    have h2 : T.here S v j t = false := by
      cases e : T.here S v j t with
      | false => rfl
      | true => exact absurd (by rw [← hL]; exact List.mem_filter.2 ⟨List.mem_range.2 ht, e⟩) htL
    have key : ∀ (l : List Nat), l.Nodup → t ∈ l → (l.filter (T.here S' v j)).length = (l.filter (T.here S v j)).length + 1 := by
      intro l
      induction l with
      | nil => intro _ hm; cases hm
      | cons a l ih =>
        intro hn hm
        rw [List.nodup_cons] at hn
        by_cases e : a = t
        · subst e
          rw [List.filter_cons_of_pos h1, List.filter_cons_of_neg (by rw [h2]; simp), List.length_cons]
          congr 2
          refine List.filter_congr (fun u hu => hhereo v j u (fun e => by subst e; exact hn.1 hu))
        · have := ih hn.2 (List.mem_of_ne_of_mem (Ne.symm e) hm)
          by_cases hh : T.here S v j a = true
          · rw [List.filter_cons_of_pos hh, List.filter_cons_of_pos (by rw [hhereo v j a e]; exact hh), List.length_cons, List.length_cons, this]
          · rw [List.filter_cons_of_neg hh, List.filter_cons_of_neg (by rw [hhereo v j a e]; exact hh), this]
    have := key (List.range n) List.nodup_range (List.mem_range.2 ht)
    unfold MT.cnt
    rw [this]
    have : ((List.range n).filter (T.here S v j)).length = N := by rw [hL, hLlen]
    omega
  refine ⟨fun u hu => ?_, fun u i hu hi => by rw [hg, hg]; exact h.mono u i hu hi, fun u i w hu hi hw => by rw [hg, hcame]; exact h.safe u i w hu hi hw, fun u i hu hi e w hw hne he => ?_, fun u i hu hi => ?_, fun u i hu hi hc => ?_, fun u i hu hi hgg => ?_, fun u i hu hi e w hw e2 => ?_⟩
  · by_cases e : u = t
    · subst e
      rw [htt]
      refine ⟨⟨ho.rd.1, ho.rd.2.1, fun _ => ho.rd.2.2.1 (by rw [hph]; rfl), fun e => (by cases e), fun e => (by rcases e with e | e <;> cases e)⟩, ⟨by omega, by rw [T.up_op u j hu hj]; show 1 < 8; decide⟩, fun i hi => by rw [hg]; exact ho.floor i hi, fun _ => by rw [hg]; exact hroot, fun i' k e h1 => ?_, fun e => (by rcases e with e | e <;> cases e), fun i' k e h1 => ?_, fun e => (by cases e), fun i hi e => ?_⟩
      · injection e with e1 e2
        omega
      · injection e with e1 e2
        subst e1 e2
        exact ⟨by omega, by omega, by omega, fun e => by cases e⟩
      · rw [hg]
        have h1 := gate_root h hu hi
        dsimp only
        omega
    · rw [hth u e]
      exact (h.own u hu).like (Like.refl _) hg (fun i' hi' e1 e2 e3 => by
        rcases e3 with e3 | ⟨w, i, c1, c2, c3, c4⟩
        · exact .inl e3
        · exact .inr ⟨w, i, c1, c2, c3, by rw [hop]; exact c4⟩)
  · rw [hrd, hrd]
    rcases hlastback u i e with e' | ⟨hu', hi', hN1⟩
    · obtain ⟨a, m, b, c⟩ := h.comp u i hu hi e' w hw hne he
      by_cases hwt1 : w = t
      · subst hwt1
        rw [hwt] at c
        cases c
      · exact ⟨a, m, b, by rw [hwo w m hwt1]; exact c⟩
    · subst hu' hi'
      obtain ⟨w', a1, a2, a3, a4, a5, a6⟩ := hall hN1 w hw (he.trans hv)
      rw [hr]
      by_cases hww : w = w'
      · subst hww
        rcases a5 with a5 | a5
        · exact absurd a5 hne
        · exact ⟨a4, i, Nat.le_refl _, by rw [hwo w i hne]; exact a5⟩
      · unfold MT.memb at a3
        by_cases hi0 : i = 0
        · rw [if_pos hi0, if_pos hi0] at a3
          exact absurd a3.symm hww
        · rw [if_neg hi0, if_neg hi0] at a3
          obtain ⟨b1, m, b2, b3⟩ := h.comp w' (i - 1) a1 (by omega) (a6 (i - 1) (by omega)) w hw hww a3.symm
          exact ⟨by rw [b1, a4], m, by omega, by rw [hwo w m hne]; exact b3⟩
  · by_cases hp : T.path u i = v
    · have hij := hnode u i hu hi hp
      subst hij
      exact .inr ⟨fun w hw e => by rw [hop]; exact hn2 w hw (e.trans hp), by rw [hp, hcv, hcntv]⟩
    · rw [hco _ hp, hcnto _ _ hi hp]
      rcases h.count u i hu hi with ⟨⟨w, a, b, c⟩, d⟩ | ⟨a, b⟩
      · exact .inl ⟨⟨w, a, b, by rw [hop]; exact c⟩, d⟩
      · exact .inr ⟨fun w hw e => by rw [hop]; exact a w hw e, b⟩
  · by_cases hp : T.path u i = v
    · have hij := hnode u i hu hi hp
      subst hij
      rw [hp, hcntv, hszu u hp] at hc
      refine ⟨t, ht, hv.trans hp.symm, by rw [hrd, hr, hg, hp, hold], ?_⟩
      rw [hlt']
      simp [hc]
    · rw [hcnto _ _ hi hp] at hc
      obtain ⟨w, a, b, c, d⟩ := h.full u i hu hi hc
      exact ⟨w, a, b, by rw [hrd, hg]; exact c, hlastmono w i d⟩
  · rw [hg, hg] at hgg
    obtain ⟨w, a, b, c, d⟩ := h.resp u i hu hi hgg
    exact ⟨w, a, b, by rw [hrd, hg]; exact c, hlastmono w i d⟩
  · rcases hlastback u (i + 1) e with e' | ⟨hu', hi', hN1⟩
    · obtain ⟨w', a, b, c, d⟩ := h.reps u i hu hi e' w hw e2
      exact ⟨w', a, b, by rw [hrd, hrd]; exact c, hlastmono w' i d⟩
    · subst hu'
      obtain ⟨w', a1, a2, a3, a4, a5, a6⟩ := hall hN1 w hw (by rw [← hi', e2, hi', hv])
      unfold MT.memb at a3
      rw [if_neg (by omega), if_neg (by omega), ← hi', Nat.add_sub_cancel] at a3
      exact ⟨w', a1, a3, by rw [hrd, hrd, a4, hr], hlastmono w' i (a6 i (by omega))⟩
end
end Go.Proofs.YtkhaeabbbhfloaaDoor

namespace Go.Proofs.YtkhaeabbbhfloaaDoor
set_option maxRecDepth 100000
set_option linter.unusedVariables false
set_option linter.unusedSimpArgs false

section
variable {ops : Nat → List BOp} {n nc rounds : Nat} {T : MT ops n nc} {S S' : BS} {t : Nat}

theorem same_none {h : Nat} {s : Nat → Nat} {x y : Th} (hx : ∀ i k, x.ph ≠ .op i k) (hy : ∀ i k, y.ph ≠ .op i k) (hc : cameN x ≤ cameN y) : SameK h s y x := by
  have l : ∀ {z : Th}, (∀ i k, z.ph ≠ .op i k) → ∀ j, lastAt h s z j = false ∧ waitAt h s z j = false ∧ opAt h 2 z j = false ∧ opAt h 3 z j = false := by
    intro z hz j
    unfold lastAt waitAt opAt
    cases e : z.ph with
    | op i k => exact absurd e (hz i k)
    | _ => exact ⟨rfl, rfl, rfl, rfl⟩
  exact ⟨fun j => by rw [(l hx j).1, (l hy j).1], fun j => by rw [(l hx j).2.1, (l hy j).2.1], fun j => by rw [(l hx j).2.2.1, (l hy j).2.2.1], fun j => by rw [(l hx j).2.2.2, (l hy j).2.2.2], .inr fun j => ⟨(l hx j).1, (l hx j).2.1⟩, hc⟩

/-- Own of a party that is in no piece. -/
theorem own_none {x : Th} (ho : MOwn T rounds S t (S.th t)) (hr : (S.th t).rd = x.rd) (hin : inRound x.ph = true → x.rd ≤ rounds) (hb : x.ph ≠ .b0) (hend : x.ph = .halt ∨ x.ph = .fin → x.rd = rounds + 1) (hx : ∀ i k, x.ph ≠ .op i k) (hs : x.slp = false) (hg : x.ph = .gone ∨ x.ph = .plus → ∀ j, j < T.h → (x.rd : Int) ≤ gateOf S (T.path t j)) : MOwn T rounds ⟨upd S.th t x, S.cell⟩ t x := by
  have l : ∀ j, lastAt T.h (T.sz t) x j = false := fun j => by
    unfold lastAt
    cases e : x.ph with
    | op i k => exact absurd e (hx i k)
    | _ => rfl
  have rr : rising T.h (T.sz t) x = false := by
    unfold rising
    cases e : x.ph with
    | op i k => exact absurd e (hx i k)
    | _ => rfl
  refine ⟨⟨by rw [← hr]; exact ho.rd.1, by rw [← hr]; exact ho.rd.2.1, hin, fun e => absurd e hb, hend⟩, ?_, fun j hj => by rw [← hr]; exact ho.floor j hj, fun e => (by rw [rr] at e; cases e), fun i k e => absurd e (hx i k), hg, fun i k e => absurd e (hx i k), fun e => (by rw [hs] at e; cases e), fun j _ e => (by rw [l] at e; cases e)⟩
  unfold okPh
  cases e : x.ph with
  | op i k => exact absurd e (hx i k)
  | _ => trivial

theorem MInv.frame (h : MInv T rounds S) (ht : t < n) (hs : (S.th t).slp = false) (hph : (S.th t).ph = .b0 ∨ (S.th t).ph = .b1 ∨ (S.th t).ph = .less ∨ (S.th t).ph = .halt ∨ (S.th t).ph = .came ∨ (S.th t).ph = .gone ∨ (S.th t).ph = .plus ∨ (S.th t).ph = .jump) : MInv T rounds (stepS ops rounds t S) := by
  have ho := h.own t ht
  have hl := T.len t ht
  have hh1 := T.h1
  obtain ⟨x, hx⟩ : ∃ x, S.th t = x := ⟨_, rfl⟩
  unfold stepS doTh
  have hrd := ho.rd
  have hgone := ho.gone
  have hfloor := ho.floor
  have hsafe := fun j (hj : j < T.h) => h.safe t j t ht hj ht
  rw [hx] at hph hs hrd hgone hsafe hfloor ⊢
  obtain ⟨ph, rd, r1, slp⟩ := x
  dsimp only at hph hs hrd hgone hfloor ⊢
  subst hs
  have hxn : ∀ {p : Ph}, (S.th t) = ⟨p, rd, r1, false⟩ → (∀ i k, p ≠ .op i k) → ∀ i k, (S.th t).ph ≠ .op i k := fun e hne i k => by rw [e]; exact hne i k
  rcases hph with rfl | rfl | rfl | rfl | rfl | rfl | rfl | rfl
  · have h1 := hrd.2.2.2.1 rfl
    subst h1
    exact h.calm ht (same_none (hxn hx (by simp)) (by simp) (by rw [hx]; exact Nat.le_refl _)) (own_none ho (by rw [hx]) (by simp [inRound]) (by simp) (by simp) (by simp) rfl (by simp))
  · exact h.calm ht (same_none (hxn hx (by simp)) (by simp) (by rw [hx]; exact Nat.le_refl _)) (own_none ho (by rw [hx]) (by simp [inRound]) (by simp) (by simp) (by simp) rfl (by simp))
  · by_cases hlt : rd < rounds + 1
    · rw [if_pos hlt]
      exact h.calm ht (same_none (hxn hx (by simp)) (by simp) (by rw [hx]; exact Nat.le_refl _)) (own_none ho (by rw [hx]) (by intro _; dsimp only; omega) (by simp) (by simp) (by simp) rfl (by simp))
    · rw [if_neg hlt]
      exact h.calm ht (same_none (hxn hx (by simp)) (by simp) (by rw [hx]; exact Nat.le_refl _)) (own_none ho (by rw [hx]) (by simp [inRound]) (by simp) (by intro _; dsimp only; omega) (by simp) rfl (by simp))
  · exact h.calm ht (same_none (hxn hx (by simp)) (by simp) (by rw [hx]; exact Nat.le_refl _)) (own_none ho (by rw [hx]) (by simp [inRound]) (by simp) (by intro _; exact hrd.2.2.2.2 (.inl rfl)) (by simp) rfl (by simp))
  · -- came
    have hin := hrd.2.2.1 rfl
    have e : nxt (ops t) 0 = .op 0 0 := if_pos (by omega)
    rw [e]
    have h0 : 0 < T.h := by omega
    have hcam : cameN (S.th t) ≤ cameN (⟨.op 0 0, rd, r1, false⟩ : Th) := by rw [hx]; show rd - 1 ≤ rd; omega
    refine h.calm ht ⟨fun j => ?_, fun j => ?_, fun j => ?_, fun j => ?_, .inl (by rw [hx]), hcam⟩ ⟨⟨hrd.1, hrd.2.1, fun _ => hin, fun e => (by cases e), fun e => (by rcases e with e | e <;> cases e)⟩, ⟨by omega, opLen_pos _⟩, hfloor, fun _ => ?_, fun i k e h1 => ?_, fun e => (by rcases e with e | e <;> cases e), fun i k e h1 => ?_, fun e => (by cases e), fun j hj e => ?_⟩
    · rw [last_up h0, hx]
      simp [lastAt]
    · rw [hx]; simp [waitAt]
    · rw [hx]; simp [opAt, h0]
    · rw [hx]; simp [opAt, h0]
    · have h2 := hsafe (T.h - 1) (by omega)
      have h3 : cameN (⟨.came, rd, r1, false⟩ : Th) = rd - 1 := rfl
      rw [h3] at h2
      show gateOf S _ + 1 ≤ (rd : Int)
      have := hrd.1
      omega
    · injection e with e1 e2; omega
    · injection e with e1 e2
      subst e1 e2
      exact ⟨by omega, by omega, by omega, by simp⟩
    · rw [last_up h0] at e
      simp at e
  · -- gone
    exact h.calm ht (same_none (hxn hx (by simp)) (by simp) (by rw [hx]; exact Nat.le_refl _)) (own_none ho (by rw [hx]) (fun _ => hrd.2.2.1 rfl) (by simp) (by simp) (by simp) rfl (fun _ => hgone (.inl rfl)))
  · -- plus
    have hin := hrd.2.2.1 rfl
    refine h.calm ht (same_none (hxn hx (by simp)) (by simp) (by rw [hx]; show rd ≤ rd + 1 - 1; omega)) ⟨⟨Nat.succ_le_succ (Nat.zero_le _), Nat.succ_le_succ hin, fun e => (by cases e), fun e => (by cases e), fun e => (by rcases e with e | e <;> cases e)⟩, trivial, fun j hj => ?_, fun e => (by cases e), fun i k e => (by cases e), fun e => (by rcases e with e | e <;> cases e), fun i k e => (by cases e), fun e => (by cases e), fun j _ e => (by cases e)⟩
    have := hgone (.inr rfl) j hj
    show ((rd + 1 : Nat) : Int) ≤ gateOf S (T.path t j) + 1
    omega
  · exact h.calm ht (same_none (hxn hx (by simp)) (by simp) (by rw [hx]; exact Nat.le_refl _)) (own_none ho (by rw [hx]) (by simp [inRound]) (by simp) (by simp) (by simp) rfl (by simp))

/-- A party that waits goes on waiting. -/
theorem MInv.waits (h : MInv T rounds S) (ht : t < n) {i k : Nat} (hph : (S.th t).ph = .op i k) (hi : i < T.h) (hk : 2 ≤ k ∨ (k = 1 ∧ (S.th t).r1 ≠ (T.sz t i : Int) - 1)) {k' : Nat} (h2 : 2 ≤ k') (h8 : k' < 8) {r1 : Int} {slp : Bool}
    (a1 : 3 ≤ k' → k' < 7 → r1 ≤ gateOf S (T.path t i) ∧ ((S.th t).rd : Int) ≤ r1 + 1) (a2 : k' = 4 ∨ k' = 7 → ((S.th t).rd : Int) ≤ gateOf S (T.path t i)) (a3 : k' = 5 → r1 < (S.th t).rd) (a4 : slp = true → k' = 6 ∧ r1 < (S.th t).rd ∧ gateOf S (T.path t i) = r1) : MInv T rounds ⟨upd S.th t ⟨.op i k', (S.th t).rd, r1, slp⟩, S.cell⟩ := by
  have ho := h.own t ht
  have hl := T.len t ht
  have hin : inRound (S.th t).ph = true := by rw [hph]; rfl
  have hcam : cameN (S.th t) ≤ cameN (⟨.op i k', (S.th t).rd, r1, slp⟩ : Th) := by rw [came_op hph, came_op rfl]; exact Nat.le_refl _
  have hlx : ∀ j, lastAt T.h (T.sz t) (S.th t) j = decide (j < i) := fun j => by
    unfold lastAt
    rw [hph]
    dsimp only
    rw [if_pos hi, Bool.eq_iff_iff]
    simp
    omega
  have hly : ∀ j, lastAt T.h (T.sz t) ⟨.op i k', (S.th t).rd, r1, slp⟩ j = decide (j < i) := fun j => by
    rw [last_up hi, Bool.eq_iff_iff]
    simp
    omega
  refine h.calm ht ⟨fun j => by rw [hlx, hly], fun j => ?_, fun j => ?_, fun j => ?_, .inl rfl, hcam⟩ ⟨⟨ho.rd.1, ho.rd.2.1, fun _ => ho.rd.2.2.1 hin, fun e => (by cases e), fun e => (by rcases e with e | e <;> cases e)⟩, ⟨by omega, by rw [T.up_op t i ht hi]; exact h8⟩, ho.floor, fun e => ?_, fun i' k e h1 => ?_, fun e => (by rcases e with e | e <;> cases e), fun i' k e h1 => ?_, fun e => ?_, fun j hj e => ?_⟩
  · unfold waitAt
    rw [hph, Bool.eq_iff_iff]
    simp [hi]
    omega
  · unfold opAt
    rw [hph]
    simp [hi]
  · unfold opAt
    rw [hph]
    simp [hi]
  · exfalso
    simp [rising, hi] at e
    omega
  · injection e with e1 e2; omega
  · injection e with e1 e2
    subst e1 e2
    exact ⟨a1, a2, a3, fun hs => ⟨(a4 hs).1, (a4 hs).2.1, .inl (a4 hs).2.2⟩⟩
  · obtain ⟨e1, _⟩ := a4 e
    subst e1
    exact ⟨i, hi, rfl⟩
  · rw [hly] at e
    exact ho.unop j hj (by rw [hlx]; exact e)

/-- The last one at a node goes on. -/
theorem MInv.through (h : MInv T rounds S) (ht : t < n) (hs : (S.th t).slp = false) {i : Nat} (hph : (S.th t).ph = .op i 1) (hi : i < T.h) (hr1 : (S.th t).r1 = (T.sz t i : Int) - 1) : MInv T rounds ⟨upd S.th t ⟨nxt (ops t) (i + 1), (S.th t).rd, (S.th t).r1, false⟩, S.cell⟩ := by
  have ho := h.own t ht
  have hl := T.len t ht
  have hin : inRound (S.th t).ph = true := by rw [hph]; rfl
  have hcam : cameN (S.th t) ≤ cameN (⟨nxt (ops t) (i + 1), (S.th t).rd, (S.th t).r1, false⟩ : Th) := by rw [came_op hph, came_nxt rfl]; exact Nat.le_refl _
  have hlx : ∀ j, lastAt T.h (T.sz t) (S.th t) j = decide (j < i + 1) := fun j => by
    unfold lastAt
    rw [hph]
    dsimp only
    rw [if_pos hi, Bool.eq_iff_iff]
    simp [hr1]
    constructor
    · rintro (e | e)
      · omega
      · omega
    · intro e
      by_cases hji : j = i
      · subst hji; exact .inr rfl
      · exact .inl (by omega)
  have hwx : ∀ j, waitAt T.h (T.sz t) (S.th t) j = false := fun j => by
    unfold waitAt
    rw [hph]
    simp [hi, hr1]
    
  have hox : ∀ k j, opAt T.h k (S.th t) j = false := fun k j => by
    unfold opAt
    rw [hph]
    simp [hi]
  have hrise : gateOf S (T.path t (T.h - 1)) + 1 ≤ (S.th t).rd := ho.rise (by unfold rising; rw [hph]; simp [hi, hr1])
  by_cases hih : i + 1 < T.h
  · have e : nxt (ops t) (i + 1) = .op (i + 1) 0 := if_pos (by omega)
    rw [e] at hcam ⊢
    refine h.calm ht ⟨fun j => ?_, fun j => ?_, fun j => ?_, fun j => ?_, .inl rfl, hcam⟩ ⟨⟨ho.rd.1, ho.rd.2.1, fun _ => ho.rd.2.2.1 hin, fun e => (by cases e), fun e => (by rcases e with e | e <;> cases e)⟩, ⟨by omega, opLen_pos _⟩, ho.floor, fun _ => hrise, fun i' k e h1 => ?_, fun e => (by rcases e with e | e <;> cases e), fun i' k e h1 => ?_, fun e => (by cases e), fun j hj e => ?_⟩
    · rw [last_up hih, hlx]
      simp
    · rw [hwx]; simp [waitAt]
    · rw [hox]; simp [opAt, hih]
    · rw [hox]; simp [opAt, hih]
    · injection e with e1 e2; omega
    · injection e with e1 e2
      subst e1 e2
      exact ⟨by omega, by omega, by omega, by simp⟩
    · rw [last_up hih] at e
      exact ho.unop j hj (by rw [hlx]; simpa using e)
  · have hi1 : i + 1 = T.h := by omega
    have hnx := fun j => nxt_dn (s := T.sz t) (rd := (S.th t).rd) (r1 := (S.th t).r1) hl (i := i + 1) (by omega) (by omega) j
    refine h.calm ht ⟨fun j => ?_, fun j => ?_, fun j => ?_, fun j => ?_, .inl rfl, hcam⟩ (own_dn (S := S) (x := S.th t) ho ht hin (by omega) (by omega) (fun j h1 h2 => ?_) (fun j h1 h2 => ?_) ho.floor)
    · rw [(hnx j).1, hlx, Bool.eq_iff_iff]
      simp
      omega
    · rw [(hnx j).2.1, hwx]
    · rw [(hnx j).2.2.1, hox]
    · rw [(hnx j).2.2.2.1, hox]
    · omega
    · exact ho.unop j h2 (by rw [hlx]; exact decide_eq_true (by omega))

/-- The beginning of an opening. -/
theorem MInv.begin_ (h : MInv T rounds S) (ht : t < n) (hs : (S.th t).slp = false) {i : Nat} (hph : (S.th t).ph = .op i 0) (hi : T.h ≤ i) (hi2 : i < 2 * T.h) : MInv T rounds ⟨upd S.th t ⟨.op i 1, (S.th t).rd, (S.th t).r1, false⟩, S.cell⟩ := by
  have ho := h.own t ht
  have hl := T.len t ht
  have hni : ¬ i < T.h := by omega
  have hx : S.th t = ⟨.op i 0, (S.th t).rd, (S.th t).r1, false⟩ := by rw [← hph, ← hs]
  have hcam : cameN (S.th t) ≤ cameN (⟨.op i 1, (S.th t).rd, (S.th t).r1, false⟩ : Th) := by rw [came_op hph, came_op rfl]; exact Nat.le_refl _
  have hd := T.dn_op t (2 * T.h - 1 - i) ht (by omega)
  rw [show 2 * T.h - 1 - (2 * T.h - 1 - i) = i by omega] at hd
  have hlx : ∀ j, lastAt T.h (T.sz t) ⟨.op i 1, (S.th t).rd, (S.th t).r1, false⟩ j = lastAt T.h (T.sz t) (S.th t) j := fun j => by
    rw [hx, last_dn hni, last_dn hni]
    simp
  refine h.calm ht ⟨hlx, fun j => ?_, fun j => ?_, fun j => ?_, .inl rfl, hcam⟩ ⟨⟨ho.rd.1, ho.rd.2.1, fun _ => ho.rd.2.2.1 (by rw [hph]; rfl), fun e => (by cases e), fun e => (by rcases e with e | e <;> cases e)⟩, ⟨by omega, by rw [hd]; show 1 < 4; decide⟩, ho.floor, fun e => (by rw [rise_dn hni] at e; cases e), fun i' k e h1 j h2 h3 => ?_, fun e => (by rcases e with e | e <;> cases e), fun i' k e h1 => ?_, fun e => (by cases e), fun j hj e => ho.unop j hj (by rw [← hlx]; exact e)⟩
  · rw [hx, wait_dn hni, wait_dn hni]
  · rw [hx, op_dn hni, op_dn hni]; simp
  · rw [hx, op_dn hni, op_dn hni]; simp
  · injection e with e1 e2
    subst e1 e2
    exact ho.down i 0 hph hi j (by omega) h3
  · injection e with e1 e2
    omega

theorem MInv.step (h : MInv T rounds S) (ht : t < n) (hs : (S.th t).slp = false) : MInv T rounds (stepS ops rounds t S) := by
  have hown := h.own t ht
  have hl := T.len t ht
  cases hph : (S.th t).ph with
  | b0 | b1 | less | halt | came | gone | plus | jump => exact h.frame ht hs (by rw [hph]; simp)
  | fin =>
    have e : stepS ops rounds t S = S := by
      unfold stepS doTh
      rw [hph]
      show (⟨upd S.th t (S.th t), S.cell⟩ : BS) = S
      rw [upd_self]
    rw [e]
    exact h
  | op i k =>
    have hok := hown.ok
    rw [hph] at hok
    obtain ⟨hi, hk⟩ := hok
    have hd : stepS ops rounds t S = (let d := doOp (ops t) S.cell (S.th t) i k ((ops t).getD i default); ⟨upd (match d.wake with | some w => wakeAll ops w.1 S.th | none => S.th) t d.th, match d.touch with | some q => upd S.cell q.2.1 q.2.2 | none => S.cell⟩) := by
      unfold stepS doTh
      rw [hph]
      rfl
    rw [hd]
    by_cases hih : i < T.h
    · have ho := T.up_op t i ht hih
      rw [ho] at hk ⊢
      have hk8 : k < 8 := hk
      obtain ⟨_, n2, n3⟩ := T.node t i ht hih
      have hsm : ((T.size (T.path t i) : Int) - 1) % m64 = (T.sz t i : Int) - 1 := by
        rw [small_mod (by omega) (by omega)]
        rfl
      obtain ⟨a1, a2, a3, a4⟩ := hown.aw i k hph hih
      have hfl := hown.floor i hih
      have hg : S.cell (2 * T.path t i + 1) = gateOf S (T.path t i) := rfl
      have h07 : k = 0 ∨ k = 1 ∨ k = 2 ∨ k = 3 ∨ k = 4 ∨ k = 5 ∨ k = 6 ∨ k = 7 := by omega
      rcases h07 with rfl | rfl | rfl | rfl | rfl | rfl | rfl | rfl
      · have := (h.fetch ht hs hph hih).1
        simpa [doOp, hs] using this
      · by_cases hr1 : (S.th t).r1 = (T.sz t i : Int) - 1
        · have := h.through ht hs hph hih hr1
          simp only [doOp, Nat.one_ne_zero, if_false, if_true, hsm, if_pos hr1, hs]
          exact this
        · have := h.waits ht hph hih (.inr ⟨rfl, hr1⟩) (k' := 2) (by decide) (by decide) (r1 := (S.th t).r1) (slp := false) (by omega) (by omega) (by omega) (by simp)
          simp only [doOp, Nat.one_ne_zero, if_false, if_true, hsm, if_neg hr1, hs]
          exact this
      · have := h.waits ht hph hih (.inl (by decide)) (k' := 3) (by decide) (by decide) (r1 := gateOf S (T.path t i)) (slp := false) (fun _ _ => ⟨Int.le_refl _, hfl⟩) (by omega) (by omega) (by simp)
        have hself : upd S.cell (2 * T.path t i + 1) (gateOf S (T.path t i)) = S.cell := upd_self S.cell _
        simpa [doOp, doAwait, hs, hself, hg] using this
      · obtain ⟨b1, b2⟩ := a1 (by decide) (by decide)
        by_cases hlt : (S.th t).r1 < (S.th t).rd
        · have := h.waits ht hph hih (.inl (by decide)) (k' := 5) (by decide) (by decide) (r1 := (S.th t).r1) (slp := false) (fun _ _ => ⟨b1, b2⟩) (by omega) (fun _ => hlt) (by simp)
          simpa [doOp, doAwait, hs, hlt] using this
        · have := h.waits ht hph hih (.inl (by decide)) (k' := 4) (by decide) (by decide) (r1 := (S.th t).r1) (slp := false) (fun _ _ => ⟨b1, b2⟩) (fun _ => by omega) (by omega) (by simp)
          simpa [doOp, doAwait, hs, hlt] using this
      · have := h.waits ht hph hih (.inl (by decide)) (k' := 7) (by decide) (by decide) (r1 := (S.th t).r1) (slp := false) (by omega) (fun _ => a2 (.inl rfl)) (by omega) (by simp)
        simpa [doOp, doAwait, hs] using this
      · obtain ⟨b1, b2⟩ := a1 (by decide) (by decide)
        by_cases he : gateOf S (T.path t i) = (S.th t).r1
        · have := h.waits ht hph hih (.inl (by decide)) (k' := 6) (by decide) (by decide) (r1 := (S.th t).r1) (slp := true) (fun _ _ => ⟨b1, b2⟩) (by omega) (by omega) (fun _ => ⟨rfl, a3 rfl, he⟩)
          simpa [doOp, doAwait, hs, hg, he] using this
        · have := h.waits ht hph hih (.inl (by decide)) (k' := 6) (by decide) (by decide) (r1 := (S.th t).r1) (slp := false) (fun _ _ => ⟨b1, b2⟩) (by omega) (by omega) (by simp)
          simpa [doOp, doAwait, hs, hg, he] using this
      · have := h.waits ht hph hih (.inl (by decide)) (k' := 2) (by decide) (by decide) (r1 := (S.th t).r1) (slp := false) (by omega) (by omega) (by omega) (by simp)
        simpa [doOp, doAwait, hs] using this
      · have := h.leave ht hph hih
        simpa [doOp, hs] using this
    · have ho := T.dn_op t (2 * T.h - 1 - i) ht (by omega)
      rw [show 2 * T.h - 1 - (2 * T.h - 1 - i) = i by omega] at ho
      rw [ho] at hk ⊢
      have hk4 : k < 4 := hk
      have hi2 : i < 2 * T.h := by omega
      have h03 : k = 0 ∨ k = 1 ∨ k = 2 ∨ k = 3 := by omega
      rcases h03 with rfl | rfl | rfl | rfl
      · have := h.begin_ ht hs hph (by omega) hi2
        simpa [doOp, hs] using this
      · have := h.zero ht hs hph (by omega) hi2
        simpa [doOp, hs] using this
      · have := h.gate ht hs hph (by omega) hi2
        simpa [doOp, hs] using this
      · have := h.wakeup ht hph (by omega) hi2
        simpa [doOp, hs] using this
end
end Go.Proofs.YtkhaeabbbhfloaaDoor
