/-
  Central, Combine: who sleeps, who is woken; somebody can always go on; how many steps at most.
-/
import Derived.Test.YtgkfhihnfllmhaaGreatDoorQXG
namespace Go.Proofs.YtgkfhihnfllmhaaGreatDoor
set_option maxRecDepth 100000
set_option linter.unusedVariables false
set_option linter.unusedSimpArgs false

section
variable {ops : Nat → List BOp} {n nc rounds : Nat} {T : MT ops n nc} {S S' : BS} {t : Nat} {m : Mach}

/-- All as they were, but perhaps awake. -/
theorem MInv.likes (h : MInv T rounds S) (hl : ∀ u, Like (S'.th u) (S.th u)) (hc : S'.cell = S.cell) : MInv T rounds S' := by
  have hg : ∀ v, gateOf S' v = gateOf S v := fun v => by unfold gateOf; rw [hc]
  have hlast : ∀ u j, T.last S' u j = T.last S u j := fun u j => like_last (hl u) j
  have hwait : ∀ u j, T.wait S' u j = T.wait S u j := fun u j => like_wait (hl u) j
  have hop : ∀ k u j, opAt T.h k (S'.th u) j = opAt T.h k (S.th u) j := fun k u j => like_op (hl u) j
  have hrd : ∀ u, (S'.th u).rd = (S.th u).rd := fun u => (hl u).2.1
  have hcnt : ∀ v j, T.cnt S' v j = T.cnt S v j := fun v j => by
    unfold MT.cnt
    congr 1
    refine List.filter_congr (fun u _ => ?_)
    unfold MT.here
    rw [hlast, hwait, hg, hrd]
  refine ⟨fun u hu => (h.own u hu).like (hl u) hg (fun i' hi' e1 e2 e3 => ?_), fun u j hu hj => by rw [hg, hg]; exact h.mono u j hu hj, fun u j w hu hj hw => by rw [hg, (hl w).came]; exact h.safe u j w hu hj hw, fun u j hu hj e w hw hne he => ?_, fun u j hu hj => ?_, fun u j hu hj e => ?_, fun u j hu hj e => ?_, fun u j hu hj e w hw e2 => ?_⟩
  · rcases e3 with e3 | ⟨w, j, c1, c2, c3, c4⟩
    · exact .inl e3
    · exact .inr ⟨w, j, c1, c2, c3, by rw [hop]; exact c4⟩
  · rw [hlast] at e
    obtain ⟨a, k, b, c⟩ := h.comp u j hu hj e w hw hne he
    exact ⟨by rw [hrd, hrd]; exact a, k, b, by rw [hwait]; exact c⟩
  · rw [hc]
    rcases h.count u j hu hj with ⟨⟨w, a, b, c⟩, d⟩ | ⟨a, b⟩
    · exact .inl ⟨⟨w, a, b, by rw [hop]; exact c⟩, d⟩
    · exact .inr ⟨fun w hw e => by rw [hop]; exact a w hw e, by rw [hcnt]; exact b⟩
  · rw [hcnt] at e
    obtain ⟨w, a, b, c, d⟩ := h.full u j hu hj e
    exact ⟨w, a, b, by rw [hrd, hg]; exact c, by rw [hlast]; exact d⟩
  · rw [hg, hg] at e
    obtain ⟨w, a, b, c, d⟩ := h.resp u j hu hj e
    exact ⟨w, a, b, by rw [hrd, hg]; exact c, by rw [hlast]; exact d⟩
  · rw [hlast] at e
    obtain ⟨w', a, b, c, d⟩ := h.reps u j hu hj e w hw e2
    exact ⟨w', a, b, by rw [hrd, hrd]; exact c, by rw [hlast]; exact d⟩
theorem poke_like (t u : Nat) : Like ((pokeS t S).th u) (S.th u) := by
  unfold pokeS
  dsimp only
  by_cases e : u = t
  · subst e
    rw [upd_same]
    exact ⟨rfl, rfl, rfl, fun e => by cases e⟩
  · rw [upd_ne _ _ e]
    exact Like.refl _

theorem mt_inv0 : MInv T rounds bar0 := by
  have hg : ∀ v, gateOf bar0 v = 0 := fun v => rfl
  have hcnt : ∀ v j, T.cnt bar0 v j = 0 := fun v j => by
    unfold MT.cnt
    rw [List.length_eq_zero_iff, List.filter_eq_nil_iff]
    intro u _ e
    unfold MT.here at e
    have h1 : T.last bar0 u j = false := rfl
    have h2 : T.wait bar0 u j = false := rfl
    rw [h1, h2] at e
    simp at e
  refine ⟨fun t ht => ⟨⟨Nat.le_refl _, Nat.succ_le_succ (Nat.zero_le _), fun h => (by cases h), fun _ => rfl, fun h => (by rcases h with h | h <;> cases h)⟩, trivial, fun j hj => Int.le_refl 1, fun e => (by cases e), fun i k e => (by cases e), fun e => (by rcases e with e | e <;> cases e), fun i k e => (by cases e), fun e => (by cases e), fun j _ e => (by cases e)⟩, fun t j _ _ => Int.le_refl 0, fun t j w _ _ _ => Int.le_refl 0, fun u j _ _ e => (by cases e), fun t j ht hj => .inr ⟨fun u _ _ => rfl, by rw [hcnt]; rfl⟩, fun t j ht hj e => ?_, fun t j ht hj e => ?_, fun u j _ _ e => (by cases e)⟩
  · rw [hcnt] at e
    have := (T.node t j ht hj).2.1
    have h2 : T.sz t j = T.size (T.path t j) := rfl
    omega
  · rw [hg, hg] at e
    omega

/-- A sleeper: where it sleeps. -/
theorem mt_nap (h : MInv T rounds S) {u c : Nat} (hu : u < n) (hs : (S.th u).slp = true) (hc : napCell (ops u) (S.th u).ph = some c) : ∃ i, i < T.h ∧ (S.th u).ph = .op i 6 ∧ c = 2 * T.path u i + 1 := by
  obtain ⟨i, hi, e⟩ := (h.own u hu).nap hs
  rw [e] at hc
  have h1 : napOp ((ops u).getD i default) 6 = some c := hc
  rw [T.up_op u i hu hi] at h1
  injection h1 with h1
  exact ⟨i, hi, e, h1.symm⟩
theorem six_last (h : MInv T rounds S) {u i j : Nat} (hi : i < T.h) (e : (S.th u).ph = .op i 6) (hj : j < i) : T.last S u j = true := by
  unfold MT.last lastAt
  rw [e]
  dsimp only
  rw [if_pos hi]
  simp [hj]

theorem mt_wakes (h : MInv T rounds S) (hS : Sim ops n nc rounds S m) (ht : t < n) : WakesAll ops rounds S m t := by
  intro c s hw
  have ho := h.own t ht
  have hl := T.len t ht
  cases hph : (S.th t).ph with
  | b0 | b1 | less | halt | came | gone | plus | jump | fin => unfold doTh at hw; rw [hph] at hw; cases hw
  | op i k =>
    have hok := ho.ok
    rw [hph] at hok
    unfold doTh at hw
    rw [hph] at hw
    dsimp only at hw
    by_cases hih : i < T.h
    · rw [T.up_op t i ht hih] at hw
      unfold doOp doAwait at hw
      dsimp only at hw
      repeat' split at hw
      all_goals cases hw
    · obtain ⟨l, hll⟩ : ∃ l, 2 * T.h - 1 - i = l := ⟨_, rfl⟩
      have hi2 : i < 2 * T.h := by rw [← hl]; exact hok.1
      have hlh : l < T.h := by omega
      have hd := T.dn_op t l ht hlh
      rw [show 2 * T.h - 1 - l = i by omega] at hd
      rw [hd] at hw
      unfold doOp at hw
      dsimp only at hw
      have hcs : c = 2 * T.path t l + 1 ∧ s = T.size (T.path t l) := by
        repeat' split at hw
        all_goals first | cases hw; done | (injection hw with hw; injection hw with h1 h2; exact ⟨h1.symm, h2.symm⟩)
      obtain ⟨rfl, rfl⟩ := hcs
      -- those that sleep there, as numbers
      have hz : ∀ z ∈ m.lot.filter fun z => z.2 == ((2 * T.path t l + 1 : Nat) : Int), ∃ u, u < n ∧ z.1 = (u : Int) ∧ T.path u l = T.path t l ∧ (S.th u).ph = .op l 6 := fun z hz => by
        obtain ⟨hz, hc⟩ := List.mem_filter.1 hz
        obtain ⟨u, d, e1, hu, h1, h2⟩ := hS.lot.sound z hz
        obtain ⟨i', hi', e2, e3⟩ := mt_nap h hu h1 h2
        rw [e1] at hc
        have h4 : (d : Int) = ((2 * T.path t l + 1 : Nat) : Int) := by simpa using hc
        have h5 : d = 2 * T.path t l + 1 := by exact_mod_cast h4
        have h6 : T.path u i' = T.path t l := by omega
        have h7 := T.level u t i' l hu ht hi' hlh h6
        subst h7
        exact ⟨u, hu, by rw [e1], h6, e2⟩
      have hn : ((m.lot.filter fun z => z.2 == ((2 * T.path t l + 1 : Nat) : Int)).map fun z => z.1.toNat).Nodup := by
        rw [List.Nodup, List.pairwise_map]
        refine (hS.lot.once.filter _).imp_of_mem (fun {a b} ha hb hne e => ?_)
        obtain ⟨u, _, e1, _⟩ := hz a ha
        obtain ⟨w, _, e2, _⟩ := hz b hb
        rw [e1, e2, Int.toNat_natCast, Int.toNat_natCast] at e
        exact hne (by rw [e1, e2, e])
      have hmem : ∀ a ∈ ((m.lot.filter fun z => z.2 == ((2 * T.path t l + 1 : Nat) : Int)).map fun z => z.1.toNat), a < n ∧ T.path a l = T.path t l ∧ (S.th a).ph = .op l 6 := fun a ha => by
        obtain ⟨z, hzm, e⟩ := List.mem_map.1 ha
        obtain ⟨u, hu, e1, e2, e3⟩ := hz z hzm
        rw [e1, Int.toNat_natCast] at e
        subst e
        exact ⟨hu, e2, e3⟩
      have := inj_le (f := T.memb l) _ (T.mem (T.path t l)) hn (fun a ha b hb e => by
        obtain ⟨a1, a2, a3⟩ := hmem a ha
        obtain ⟨b1, b2, b3⟩ := hmem b hb
        unfold MT.memb at e
        by_cases hl0 : l = 0
        · rw [if_pos hl0, if_pos hl0] at e
          exact e
        · rw [if_neg hl0, if_neg hl0] at e
          exact last_one h b1 a1 (by omega) (six_last h hlh b3 (by omega)) (six_last h hlh a3 (by omega)) e) (fun a ha => by
        obtain ⟨a1, a2, a3⟩ := hmem a ha
        have := T.mem_in a l a1 hlh
        rw [a2] at this
        exact this)
      rw [List.length_map, T.mem_len t l ht hlh] at this
      exact this

theorem mt_good (h : MInv T rounds S) (ht : t < n) : EvGood rounds n S t := by
  have ho := h.own t ht
  refine ⟨ho.rd.1, ho.rd.2.2.2.1, fun e w hw => ?_⟩
  have h1 := ho.gone (.inl e) 0 T.h1
  have h2 := h.safe t 0 w ht T.h1 hw
  exact_mod_cast Int.le_trans h1 h2

/-- Who is at a node counts for one of those who meet there. -/
theorem cnt_le (h : MInv T rounds S) {j : Nat} (ht : t < n) (hj : j < T.h) : T.cnt S (T.path t j) j ≤ T.sz t j := by
  have hm : ∀ a ∈ (List.range n).filter (T.here S (T.path t j) j), a < n ∧ T.path a j = T.path t j ∧ (T.last S a j = true ∨ T.wait S a j = true) := fun a ha => by
    obtain ⟨h1, h2⟩ := List.mem_filter.1 ha
    unfold MT.here at h2
    simp only [Bool.and_eq_true, Bool.or_eq_true, decide_eq_true_eq] at h2
    exact ⟨List.mem_range.1 h1, h2.1.1, h2.2⟩
  have := inj_le (f := T.memb j) ((List.range n).filter (T.here S (T.path t j) j)) (T.mem (T.path t j)) (List.nodup_range.filter _) (fun a ha b hb e => by
    obtain ⟨a1, a2, a3⟩ := hm a ha
    obtain ⟨b1, b2, b3⟩ := hm b hb
    unfold MT.memb at e
    by_cases hl0 : j = 0
    · rw [if_pos hl0, if_pos hl0] at e
      exact e
    · rw [if_neg hl0, if_neg hl0] at e
      exact last_one h b1 a1 (by omega) (last_low b3 (by omega)) (last_low a3 (by omega)) e) (fun a ha => by
    obtain ⟨a1, a2, _⟩ := hm a ha
    have := T.mem_in a j a1 hj
    rw [a2] at this
    exact this)
  rw [T.mem_len t j ht hj] at this
  exact this

theorem mt_live (h : MInv T rounds S) (hall : ∀ t, t < n → (S.th t).ph = .fin ∨ (S.th t).slp = true) : ∀ t, t < n → (S.th t).ph = .fin := by
  have hh1 := T.h1
  -- nobody opens a gate
  have no3 : ∀ w j, w < n → opAt T.h 3 (S.th w) j = false := fun w j hw => by
    rcases hall w hw with e | e
    · unfold opAt; rw [e]
    · obtain ⟨i, hi, e2⟩ := (h.own w hw).nap e
      unfold opAt
      rw [e2]
      simp [hi]
  have shut : ∀ u i, u < n → i < T.h → (S.th u).slp = true → (S.th u).ph = .op i 6 → gateOf S (T.path u i) + 1 = (S.th u).rd := fun u i hu hi hs e => by
    have ho := h.own u hu
    obtain ⟨_, b2, b3⟩ := (ho.aw i 6 e hi).2.2.2 hs
    have hf := ho.floor i hi
    rcases b3 with b3 | ⟨w, j, c1, c2, c3, c4⟩
    · omega
    · rw [no3 w j c1] at c4; cases c4
  have key : ∀ r, ∀ t, t < n → (S.th t).slp = true → (S.th t).rd = r → False := by
    intro r
    induction r using Nat.strongRecOn with
    | ind r ih =>
      intro t ht hs hr
      have ho := h.own t ht
      obtain ⟨i, hi, e⟩ := ho.nap hs
      have hsh := shut t i ht hi hs e
      rw [hr] at hsh
      have hin : r ≤ rounds := by rw [← hr]; exact ho.rd.2.2.1 (by rw [e]; rfl)
      have hge : ∀ u, u < n → (S.th u).slp = true → r ≤ (S.th u).rd := fun u hu hsu => by
        rcases Nat.lt_or_ge (S.th u).rd r with hlt | hge
        · exact (ih (S.th u).rd hlt u hu hsu rfl).elim
        · exact hge
      by_cases hroot : (r : Int) ≤ gateOf S (T.path t (T.h - 1))
      · -- somewhere above a gate is open
        have hex : ∀ d j, j + d = T.h - 1 → gateOf S (T.path t j) + 1 ≤ r → ∃ j', j' + 1 < T.h ∧ gateOf S (T.path t j') + 1 ≤ r ∧ (r : Int) ≤ gateOf S (T.path t (j' + 1)) := by
          intro d
          induction d with
          | zero => intro j hj hlt; rw [show j = T.h - 1 by omega] at hlt; omega
          | succ d ihd =>
            intro j hj hlt
            by_cases h2 : (r : Int) ≤ gateOf S (T.path t (j + 1))
            · exact ⟨j, by omega, hlt, h2⟩
            · exact ihd (j + 1) (by omega) (by omega)
        obtain ⟨j, hj, h1, h2⟩ := hex (T.h - 1 - i) i (by omega) (by omega)
        have hf := ho.floor j (by omega)
        rw [hr] at hf
        obtain ⟨u, hu, a, b, c⟩ := h.resp t j ht hj (by omega)
        have hru : (S.th u).rd = r := by
          have : ((S.th u).rd : Int) = r := by omega
          exact_mod_cast this
        rcases hall u hu with ef | hsu
        · unfold MT.last lastAt at c; rw [ef] at c; cases c
        · obtain ⟨k, hk, e2⟩ := (h.own u hu).nap hsu
          have hjk : j < k := by
            unfold MT.last lastAt at c
            rw [e2] at c
            dsimp only at c
            rw [if_pos hk] at c
            simp at c
            exact c
          have h3 := shut u k hu hk hsu e2
          have h4 := gate_up h hu (k - (j + 1)) (j + 1) (by omega)
          rw [show j + 1 + (k - (j + 1)) = k by omega, T.up u t j hu ht hj a] at h4
          omega
      · -- all are in this round, and sleep
        have hrd : ∀ u, u < n → (S.th u).slp = true ∧ (S.th u).rd = r := fun u hu => by
          have hf := (h.own u hu).floor (T.h - 1) (by omega)
          rw [T.root u t hu ht] at hf
          rcases hall u hu with ef | hsu
          · have := (h.own u hu).rd.2.2.2.2 (.inr ef)
            omega
          · have := hge u hu hsu
            exact ⟨hsu, by omega⟩
        have hgate : ∀ u j, u < n → j < T.h → gateOf S (T.path u j) + 1 = r := fun u j hu hj => by
          have h1 := gate_root h hu hj
          rw [T.root u t hu ht] at h1
          have h2 := (h.own u hu).floor j hj
          rw [(hrd u hu).2] at h2
          omega
        have hup : ∀ j, j < T.h → ∀ u, u < n → ∃ w, w < n ∧ T.path w j = T.path u j ∧ T.last S w j = true := by
          intro j
          induction j with
          | zero =>
            intro hj u hu
            have hc : T.cnt S (T.path u 0) 0 = T.sz u 0 := by
              refine Nat.le_antisymm (cnt_le h hu hj) ?_
              have := inj_le (f := id) (T.mem (T.path u 0)) ((List.range n).filter (T.here S (T.path u 0) 0)) (T.mem_nd u 0 hu hj) (fun a _ b _ e => e) (fun c hc => ?_)
              · rw [T.mem_len u 0 hu hj] at this
                exact this
              · obtain ⟨w, hw, e1, e2⟩ := T.mem_is u 0 c hu hj hc
                rw [if_pos rfl] at e2
                subst e2
                obtain ⟨k, hk, e3⟩ := (h.own w hw).nap (hrd w hw).1
                show w ∈ (List.range n).filter (T.here S (T.path u 0) 0)
                refine List.mem_filter.2 ⟨List.mem_range.2 hw, ?_⟩
                unfold MT.here
                rw [← e1, (hrd w hw).2, hgate w 0 hw hj]
                have : (T.last S w 0 || T.wait S w 0) = true := by
                  by_cases hk0 : k = 0
                  · subst hk0
                    have : T.wait S w 0 = true := by unfold MT.wait waitAt; rw [e3]; simp [hk]
                    rw [this]; simp
                  · rw [six_last h hk e3 (by omega)]; rfl
                simpa using this
            obtain ⟨w, a, b, _, d⟩ := h.full u 0 hu hj hc
            exact ⟨w, a, b, d⟩
          | succ j ihj =>
            intro hj u hu
            have hc : T.cnt S (T.path u (j + 1)) (j + 1) = T.sz u (j + 1) := by
              refine Nat.le_antisymm (cnt_le h hu hj) ?_
              have := inj_le (f := id) (T.mem (T.path u (j + 1))) (((List.range n).filter (T.here S (T.path u (j + 1)) (j + 1))).map (T.memb (j + 1))) (T.mem_nd u (j + 1) hu hj) (fun a _ b _ e => e) (fun c hc => ?_)
              · rw [T.mem_len u (j + 1) hu hj, List.length_map] at this
                exact this
              · obtain ⟨u', hu', e1, e2⟩ := T.mem_is u (j + 1) c hu hj hc
                rw [if_neg (by omega), Nat.add_sub_cancel] at e2
                obtain ⟨w, hw, a, b⟩ := ihj (by omega) u' hu'
                obtain ⟨k, hk, e3⟩ := (h.own w hw).nap (hrd w hw).1
                have hjk : j < k := by
                  unfold MT.last lastAt at b
                  rw [e3] at b
                  dsimp only at b
                  rw [if_pos hk] at b
                  simp at b
                  exact b
                have hp : T.path w (j + 1) = T.path u (j + 1) := (T.up w u' j hw hu' hj a).trans e1
                show c ∈ ((List.range n).filter (T.here S (T.path u (j + 1)) (j + 1))).map (T.memb (j + 1))
                refine List.mem_map.2 ⟨w, List.mem_filter.2 ⟨List.mem_range.2 hw, ?_⟩, ?_⟩
                · unfold MT.here
                  rw [← hp, (hrd w hw).2, hgate w (j + 1) hw hj]
                  have : (T.last S w (j + 1) || T.wait S w (j + 1)) = true := by
                    by_cases hk0 : k = j + 1
                    · subst hk0
                      have : T.wait S w (j + 1) = true := by unfold MT.wait waitAt; rw [e3]; simp [hk]
                      rw [this]; simp
                    · rw [six_last h hk e3 (by omega)]; rfl
                  simpa using this
                · unfold MT.memb
                  rw [if_neg (by omega), Nat.add_sub_cancel, a]
                  exact e2
            obtain ⟨w, a, b, _, d⟩ := h.full u (j + 1) hu hj hc
            exact ⟨w, a, b, d⟩
        obtain ⟨w, hw, _, c⟩ := hup (T.h - 1) (by omega) t ht
        obtain ⟨k, hk, e3⟩ := (h.own w hw).nap (hrd w hw).1
        unfold MT.last lastAt at c
        rw [e3] at c
        dsimp only at c
        rw [if_pos hk] at c
        simp at c
        omega
  intro t ht
  rcases hall t ht with e | e
  · exact e
  · exact (key _ t ht e rfl).elim
end
end Go.Proofs.YtgkfhihnfllmhaaGreatDoor

namespace Go.Proofs.YtgkfhihnfllmhaaGreatDoor
set_option maxRecDepth 100000
set_option linter.unusedVariables false
set_option linter.unusedSimpArgs false

section
variable {ops : Nat → List BOp} {n nc rounds : Nat}

def mBase (h rounds rd : Nat) : Nat := (rounds + 1 - rd) * (5 + 18 * h) + 2
/-- Within a meeting: how many steps at most. -/
def mPot (rd r1 g : Int) (p slp : Bool) (k : Nat) : Nat :=
  if k = 0 then 14 else if k = 1 then 13 else if k = 7 then 1 else awPot rd r1 g slp (k - 2) + 1 + (if p = true ∧ ¬ rd ≤ g then 4 else 0)
/-- How many steps at most are left to a party (g: the gates; p: where somebody is about to wake). -/
def mRem (h rounds : Nat) (path : Nat → Nat) (g : Nat → Int) (p : Nat → Bool) (x : Th) : Nat := match x.ph with
  | .b0 => mBase h rounds 1 + 2
  | .b1 => mBase h rounds 1 + 1
  | .less => mBase h rounds x.rd
  | .halt => 1
  | .fin => 0
  | .came => mBase h rounds (x.rd + 1) + 3 + 18 * h + 1
  | .op i k => mBase h rounds (x.rd + 1) + 3 + (if i < h then 14 * (h - 1 - i) + 4 * h + mPot x.rd x.r1 (g (path i)) (p (path i)) x.slp k else 4 * (2 * h - 1 - i) + (4 - k))
  | .gone => mBase h rounds (x.rd + 1) + 3
  | .plus => mBase h rounds (x.rd + 1) + 2
  | .jump => mBase h rounds x.rd + 1

variable (T : MT ops n nc)
/-- Is somebody about to wake at a gate? -/
def MT.pend (S : BS) (v : Nat) : Bool := (List.range n).any fun u => (List.range T.h).any fun j => decide (T.path u j = v) && opAt T.h 3 (S.th u) j
def MT.left (rounds : Nat) (S : BS) (u : Nat) : Nat := mRem T.h rounds (T.path u) (gateOf S) (T.pend S) (S.th u)
/-- No two are about to wake at one gate. -/
def MT.alone (S : BS) : Prop := ∀ u w j, u < n → w < n → j < T.h → T.path u j = T.path w j → opAt T.h 3 (S.th u) j = true → opAt T.h 3 (S.th w) j = true → u = w

variable {T} {S S' : BS} {t : Nat}

theorem pend_iff {v : Nat} : T.pend S v = true ↔ ∃ u j, u < n ∧ j < T.h ∧ T.path u j = v ∧ opAt T.h 3 (S.th u) j = true := by
  unfold MT.pend
  simp only [List.any_eq_true, List.mem_range, Bool.and_eq_true, decide_eq_true_eq]
  constructor
  · rintro ⟨u, hu, j, hj, e1, e2⟩
    exact ⟨u, j, hu, hj, e1, e2⟩
  · rintro ⟨u, j, hu, hj, e1, e2⟩
    exact ⟨u, hu, j, hj, e1, e2⟩
theorem mBase_succ {h rd : Nat} (hr : rd ≤ rounds) : mBase h rounds rd = mBase h rounds (rd + 1) + (5 + 18 * h) := by
  unfold mBase
  rw [show rounds + 1 - rd = (rounds + 1 - (rd + 1)) + 1 by omega, Nat.add_mul]
  omega

theorem mPot_up {rd r1 g g' : Int} {p p' slp : Bool} {k : Nat} (hg : g ≤ g') (hp : p' = true → rd ≤ g' ∨ p = true) : mPot rd r1 g' p' slp k ≤ mPot rd r1 g p slp k := by
  unfold mPot
  have h1 := awPot_up (rd := rd) (r1 := r1) (k := k - 2) (slp := slp) hg
  by_cases hc : p' = true ∧ ¬ rd ≤ g'
  · have hc2 : p = true ∧ ¬ rd ≤ g := ⟨(hp hc.1).resolve_left hc.2, by omega⟩
    rw [if_pos hc, if_pos hc2]
    repeat' split
    all_goals omega
  · rw [if_neg hc]
    repeat' split
    all_goals omega
theorem mPot_awake {rd r1 g : Int} {p slp : Bool} {k : Nat} : mPot rd r1 g p false k ≤ mPot rd r1 g p slp k + 4 := by
  unfold mPot awPot
  cases slp
  all_goals simp only [Bool.false_eq_true, false_or, true_or, if_true]
  all_goals repeat' split
  all_goals omega
/-- Who is woken by one that is about to wake pays nothing. -/
theorem mPot_woken {rd r1 g : Int} {k : Nat} (hk : k = 6) : mPot rd r1 g false false k ≤ mPot rd r1 g true true k := by
  subst hk
  unfold mPot awPot
  by_cases h : rd ≤ g
  · simp [h]
  · simp [h]

theorem mRem_like {h : Nat} {path : Nat → Nat} {g g' : Nat → Int} {p p' : Nat → Bool} {x : Th} (hi : ∀ i k, x.ph = .op i k → i < h → mPot x.rd x.r1 (g' (path i)) (p' (path i)) x.slp k ≤ mPot x.rd x.r1 (g (path i)) (p (path i)) x.slp k) : mRem h rounds path g' p' x ≤ mRem h rounds path g p x := by
  unfold mRem
  cases hph : x.ph with
  | op i k =>
    dsimp only
    by_cases hlt : i < h
    · rw [if_pos hlt, if_pos hlt]
      have := hi i k hph hlt
      omega
    · rw [if_neg hlt, if_neg hlt]
      exact Nat.le_refl _
  | _ => exact Nat.le_refl _

theorem left_same (hth : ∀ u, u ≠ t → S'.th u = S.th u) (hg : ∀ v, gateOf S' v = gateOf S v) (hop : ∀ j, opAt T.h 3 (S'.th t) j = opAt T.h 3 (S.th t) j) : (∀ v, T.pend S' v = T.pend S v) ∧ (∀ u, u ≠ t → T.left rounds S' u = T.left rounds S u) ∧ (T.alone S → T.alone S') := by
  have ho : ∀ u j, opAt T.h 3 (S'.th u) j = opAt T.h 3 (S.th u) j := fun u j => by
    by_cases e : u = t
    · subst e; exact hop j
    · rw [hth u e]
  have hp : ∀ v, T.pend S' v = T.pend S v := fun v => by
    unfold MT.pend
    simp only [ho]
  refine ⟨hp, fun u hu => ?_, fun ha u w j hu hw hj e e1 e2 => ha u w j hu hw hj e (by rw [← ho]; exact e1) (by rw [← ho]; exact e2)⟩
  unfold MT.left
  rw [hth u hu, show gateOf S' = gateOf S from funext hg, show T.pend S' = T.pend S from funext hp]

/-- What a step takes, and leaves. -/
structure Down (T : MT ops n nc) (rounds : Nat) (t : Nat) (S S' : BS) : Prop where
  self : T.left rounds S' t + 1 ≤ T.left rounds S t
  others : ∀ u, u < n → u ≠ t → T.left rounds S' u ≤ T.left rounds S u
  alone : T.alone S'

/-- A step that changes nothing that others look at. -/
theorem down_calm (ha : T.alone S) {x : Th} {cell : Nat → Int} (hg : ∀ v, gateOf ⟨upd S.th t x, cell⟩ v = gateOf S v) (hop : ∀ j, opAt T.h 3 x j = opAt T.h 3 (S.th t) j)
    (hd : mRem T.h rounds (T.path t) (gateOf S) (T.pend S) x + 1 ≤ mRem T.h rounds (T.path t) (gateOf S) (T.pend S) (S.th t)) : Down T rounds t S ⟨upd S.th t x, cell⟩ := by
  obtain ⟨h1, h2, h3⟩ := left_same (T := T) (rounds := rounds) (S := S) (S' := ⟨upd S.th t x, cell⟩) (t := t) (fun u hu => upd_ne _ _ hu) hg (fun j => by show opAt T.h 3 (upd S.th t x t) j = _; rw [upd_same]; exact hop j)
  refine ⟨?_, fun u hu hne => Nat.le_of_eq (h2 u hne), h3 ha⟩
  unfold MT.left
  rw [show gateOf ⟨upd S.th t x, cell⟩ = gateOf S from funext hg, show T.pend ⟨upd S.th t x, cell⟩ = T.pend S from funext h1]
  show mRem T.h rounds (T.path t) (gateOf S) (T.pend S) (upd S.th t x t) + 1 ≤ _
  rw [upd_same]
  exact hd

theorem mrem_up {i k rd : Nat} {r1 : Int} {slp : Bool} {path : Nat → Nat} {g : Nat → Int} {p : Nat → Bool} (hi : i < T.h) : mRem T.h rounds path g p ⟨.op i k, rd, r1, slp⟩ = mBase T.h rounds (rd + 1) + 3 + (14 * (T.h - 1 - i) + 4 * T.h + mPot rd r1 (g (path i)) (p (path i)) slp k) := by
  unfold mRem; dsimp only; rw [if_pos hi]
theorem mrem_dn {i k rd : Nat} {r1 : Int} {slp : Bool} {path : Nat → Nat} {g : Nat → Int} {p : Nat → Bool} (hi : ¬ i < T.h) : mRem T.h rounds path g p ⟨.op i k, rd, r1, slp⟩ = mBase T.h rounds (rd + 1) + 3 + (4 * (2 * T.h - 1 - i) + (4 - k)) := by
  unfold mRem; dsimp only; rw [if_neg hi]
theorem mrem_nxt {l : List BOp} (hl : l.length = 2 * T.h) {i rd : Nat} {r1 : Int} {path : Nat → Nat} {g : Nat → Int} {p : Nat → Bool} (hi : T.h ≤ i) : mRem T.h rounds path g p ⟨nxt l i, rd, r1, false⟩ ≤ mBase T.h rounds (rd + 1) + 3 + 4 * (2 * T.h - i) := by
  by_cases hlt : i < l.length
  · rw [show nxt l i = .op i 0 from if_pos hlt, mrem_dn (by omega)]
    omega
  · rw [show nxt l i = .gone from if_neg hlt]
    show mBase T.h rounds (rd + 1) + 3 ≤ _
    omega

theorem down_frame (h : MInv T rounds S) (ha : T.alone S) (ht : t < n) (hs : (S.th t).slp = false) (hph : (S.th t).ph = .b0 ∨ (S.th t).ph = .b1 ∨ (S.th t).ph = .less ∨ (S.th t).ph = .halt ∨ (S.th t).ph = .came ∨ (S.th t).ph = .gone ∨ (S.th t).ph = .plus ∨ (S.th t).ph = .jump) : Down T rounds t S (stepS ops rounds t S) := by
  have hown := h.own t ht
  have hl := T.len t ht
  have hh1 := T.h1
  have gsame : ∀ {x : Th} v, gateOf (⟨upd S.th t x, S.cell⟩ : BS) v = gateOf S v := fun v => rfl
  obtain ⟨x, hx⟩ : ∃ x, S.th t = x := ⟨_, rfl⟩
  unfold stepS doTh
  have hrd := hown.rd
  rw [hx] at hph hs hrd ⊢
  obtain ⟨ph, rd, r1, slp⟩ := x
  dsimp only at hph hs hrd ⊢
  subst hs
  rcases hph with rfl | rfl | rfl | rfl | rfl | rfl | rfl | rfl
  · have h1 := hrd.2.2.2.1 rfl
    subst h1
    exact down_calm ha gsame (fun j => by rw [hx]; rfl) (by rw [hx]; exact Nat.le_refl _)
  · refine down_calm ha gsame (fun j => by rw [hx]; rfl) ?_
    rw [hx]
    show mBase T.h rounds rd + 1 ≤ mBase T.h rounds 1 + 1
    have : mBase T.h rounds rd ≤ mBase T.h rounds 1 := by
      unfold mBase
      exact Nat.add_le_add_right (Nat.mul_le_mul_right _ (by omega)) 2
    omega
  · by_cases hlt : rd < rounds + 1
    · rw [if_pos hlt]
      refine down_calm ha gsame (fun j => by rw [hx]; rfl) ?_
      rw [hx]
      show mBase T.h rounds (rd + 1) + 3 + 18 * T.h + 1 + 1 ≤ mBase T.h rounds rd
      rw [mBase_succ (rd := rd) (by omega)]
      omega
    · rw [if_neg hlt]
      refine down_calm ha gsame (fun j => by rw [hx]; rfl) ?_
      rw [hx]
      show 1 + 1 ≤ mBase T.h rounds rd
      unfold mBase
      omega
  · exact down_calm ha gsame (fun j => by rw [hx]; rfl) (by rw [hx]; exact Nat.le_refl _)
  · have e : nxt (ops t) 0 = .op 0 0 := if_pos (by omega)
    rw [e]
    have h0 : 0 < T.h := by omega
    refine down_calm ha gsame (fun j => by rw [hx, op_up h0]; rfl) ?_
    rw [hx, mrem_up h0]
    show _ ≤ mBase T.h rounds (rd + 1) + 3 + 18 * T.h + 1
    simp only [mPot, if_true]
    omega
  · exact down_calm ha gsame (fun j => by rw [hx]; rfl) (by rw [hx]; exact Nat.le_refl _)
  · exact down_calm ha gsame (fun j => by rw [hx]; rfl) (by rw [hx]; exact Nat.le_refl _)
  · exact down_calm ha gsame (fun j => by rw [hx]; rfl) (by rw [hx]; exact Nat.le_refl _)

/-- A gate is opened: what is left. -/
theorem down_gate (h : MInv T rounds S) (ha : T.alone S) (ht : t < n) (hs : (S.th t).slp = false) {i : Nat} (hph : (S.th t).ph = .op i 2) (hi : T.h ≤ i) (hi2 : i < 2 * T.h) : Down T rounds t S ⟨upd S.th t ⟨.op i 3, (S.th t).rd, (S.th t).r1, false⟩, upd S.cell (2 * T.path t (2 * T.h - 1 - i) + 1) (S.th t).rd⟩ := by
  have ho := h.own t ht
  obtain ⟨l, hll⟩ : ∃ l, 2 * T.h - 1 - i = l := ⟨_, rfl⟩
  rw [hll]
  have hlh : l < T.h := by omega
  have hni : ¬ i < T.h := by omega
  have hx : S.th t = ⟨.op i 2, (S.th t).rd, (S.th t).r1, false⟩ := by rw [← hph, ← hs]
  have hlt : T.last S t l = true := by
    unfold MT.last
    rw [hx, last_dn hni, hll]
    simp
  obtain ⟨S', hS'⟩ : ∃ S' : BS, (⟨upd S.th t ⟨.op i 3, (S.th t).rd, (S.th t).r1, false⟩, upd S.cell (2 * T.path t l + 1) (S.th t).rd⟩ : BS) = S' := ⟨_, rfl⟩
  rw [hS']
  have hth : ∀ u, u ≠ t → S'.th u = S.th u := fun u hu => by rw [← hS']; exact upd_ne _ _ hu
  have htt : S'.th t = ⟨.op i 3, (S.th t).rd, (S.th t).r1, false⟩ := by rw [← hS']; exact upd_same _ _ _
  have hgv : gateOf S' (T.path t l) = (S.th t).rd := by rw [← hS']; unfold gateOf; exact upd_same _ _ _
  have hgo : ∀ w, w ≠ T.path t l → gateOf S' w = gateOf S w := fun w hw => by rw [← hS']; unfold gateOf; exact upd_ne _ _ (by omega)
  have hold := ho.unop l hlh hlt
  have hup : ∀ w, gateOf S w ≤ gateOf S' w := fun w => by
    by_cases e : w = T.path t l
    · subst e; rw [hgv]; omega
    · rw [hgo w e]; exact Int.le_refl _
  have h3t : ∀ j, opAt T.h 3 (S'.th t) j = decide (j = l) := fun j => by rw [htt, op_dn hni, hll]; simp
  have h3o : ∀ j, opAt T.h 3 (S.th t) j = false := fun j => by rw [hx, op_dn hni]; simp
  have hpend : ∀ v, v ≠ T.path t l → T.pend S' v = true → T.pend S v = true := fun v hv e => by
    obtain ⟨u, j, hu, hj, e1, e2⟩ := pend_iff.1 e
    refine pend_iff.2 ⟨u, j, hu, hj, e1, ?_⟩
    by_cases hut : u = t
    · subst hut
      rw [h3t] at e2
      rw [of_decide_eq_true e2] at e1
      exact absurd e1.symm hv
    · rw [hth u hut] at e2
      exact e2
  refine ⟨?_, fun u hu hne => ?_, fun u w j hu hw hj e e1 e2 => ?_⟩
  · unfold MT.left
    rw [htt, hx, mrem_dn hni, mrem_dn hni]
    show mBase T.h rounds ((S.th t).rd + 1) + 3 + _ + 1 ≤ _
    omega
  · unfold MT.left
    rw [hth u hne]
    refine mRem_like (fun i' k e hi' => mPot_up (hup _) (fun e1 => ?_))
    by_cases hv : T.path u i' = T.path t l
    · left
      have hil := T.level u t i' l hu ht hi' hlh hv
      subst hil
      have := (h.comp t i' ht hlh hlt u hu hne hv).1
      rw [hv, hgv, this]
      exact Int.le_refl _
    · exact .inr (hpend _ hv e1)
  · by_cases hut : u = t
    · by_cases hwt : w = t
      · rw [hut, hwt]
      · subst hut
        rw [h3t] at e1
        have hjl := of_decide_eq_true e1
        subst hjl
        rw [hth w hwt] at e2
        exfalso
        obtain ⟨_, m', _, e3⟩ := h.comp u j ht hlh hlt w hw hwt e.symm
        obtain ⟨k, e4, e5, _⟩ := wait_op e3
        unfold opAt at e2
        rw [e4] at e2
        simp [e5] at e2
    · by_cases hwt : w = t
      · subst hwt
        rw [h3t] at e2
        have hjl := of_decide_eq_true e2
        subst hjl
        rw [hth u hut] at e1
        exfalso
        obtain ⟨_, m', _, e3⟩ := h.comp w j ht hlh hlt u hu hut e
        obtain ⟨k, e4, e5, _⟩ := wait_op e3
        unfold opAt at e1
        rw [e4] at e1
        simp [e5] at e1
      · rw [hth u hut] at e1
        rw [hth w hwt] at e2
        exact ha u w j hu hw hj e e1 e2

/-- Who waits at a gate is woken: what is left. -/
theorem down_wake (h : MInv T rounds S) (ha : T.alone S) (ht : t < n) (hs : (S.th t).slp = false) {i : Nat} (hph : (S.th t).ph = .op i 3) (hi : T.h ≤ i) (hi2 : i < 2 * T.h) : Down T rounds t S ⟨upd (wakeAll ops (2 * T.path t (2 * T.h - 1 - i) + 1) S.th) t ⟨nxt (ops t) (i + 1), (S.th t).rd, (S.th t).r1, false⟩, S.cell⟩ := by
  have hl := T.len t ht
  obtain ⟨l, hll⟩ : ∃ l, 2 * T.h - 1 - i = l := ⟨_, rfl⟩
  rw [hll]
  have hlh : l < T.h := by omega
  have hni : ¬ i < T.h := by omega
  have hx : S.th t = ⟨.op i 3, (S.th t).rd, (S.th t).r1, false⟩ := by rw [← hph, ← hs]
  obtain ⟨S', hS'⟩ : ∃ S' : BS, (⟨upd (wakeAll ops (2 * T.path t l + 1) S.th) t ⟨nxt (ops t) (i + 1), (S.th t).rd, (S.th t).r1, false⟩, S.cell⟩ : BS) = S' := ⟨_, rfl⟩
  rw [hS']
  have htt : S'.th t = ⟨nxt (ops t) (i + 1), (S.th t).rd, (S.th t).r1, false⟩ := by rw [← hS']; exact upd_same _ _ _
  have hth : ∀ u, u ≠ t → S'.th u = S.th u ∨ (napCell (ops u) (S.th u).ph = some (2 * T.path t l + 1) ∧ S'.th u = { S.th u with slp := false }) := fun u hu => by
    rw [← hS']
    dsimp only
    rw [upd_ne _ _ hu]
    unfold wakeAll
    split
    · rename_i e; exact .inr ⟨e, rfl⟩
    · exact .inl rfl
  have hg : gateOf S' = gateOf S := by rw [← hS']; rfl
  have h3 : ∀ u j, u ≠ t → opAt T.h 3 (S'.th u) j = opAt T.h 3 (S.th u) j := fun u j hu => by
    rcases hth u hu with e | ⟨_, e⟩
    · rw [e]
    · rw [e]; rfl
  have h3t : ∀ j, opAt T.h 3 (S'.th t) j = false := fun j => by
    rw [htt]
    exact (nxt_dn (s := T.sz t) hl (i := i + 1) (by omega) (by omega) j).2.2.2.1
  have h3o : opAt T.h 3 (S.th t) l = true := by rw [hx, op_dn hni, hll]; simp
  have hpend : ∀ v, T.pend S' v = true → T.pend S v = true := fun v e => by
    obtain ⟨u, j, hu, hj, e1, e2⟩ := pend_iff.1 e
    by_cases hut : u = t
    · subst hut; rw [h3t] at e2; cases e2
    · exact pend_iff.2 ⟨u, j, hu, hj, e1, by rw [← h3 u j hut]; exact e2⟩
  have hpv : T.pend S' (T.path t l) = false := by
    cases e : T.pend S' (T.path t l) with
    | false => rfl
    | true =>
      obtain ⟨u, j, hu, hj, e1, e2⟩ := pend_iff.1 e
      by_cases hut : u = t
      · subst hut; rw [h3t] at e2; cases e2
      · rw [h3 u j hut] at e2
        have hjl := T.level u t j l hu ht hj hlh e1
        subst hjl
        exact absurd (ha u t j hu ht hj e1 e2 h3o) hut
  have hpo : T.pend S (T.path t l) = true := pend_iff.2 ⟨t, l, ht, hlh, rfl, h3o⟩
  refine ⟨?_, fun u hu hne => ?_, fun u w j hu hw hj e e1 e2 => ?_⟩
  · unfold MT.left
    rw [htt, hx, mrem_dn hni]
    have := mrem_nxt (T := T) (rounds := rounds) hl (i := i + 1) (rd := (S.th t).rd) (r1 := (S.th t).r1) (path := T.path t) (g := gateOf S') (p := T.pend S') (by omega)
    dsimp only at this ⊢
    omega
  · unfold MT.left
    rw [hg]
    rcases hth u hne with e | ⟨e, e2⟩
    · rw [e]
      exact mRem_like (fun i' k _ _ => mPot_up (Int.le_refl _) (fun e1 => .inr (hpend _ e1)))
    · rw [e2]
      unfold mRem
      have hok := (h.own u hu).ok
      cases hpu : (S.th u).ph with
      | op i' k =>
        rw [hpu] at e hok
        have hok2 : i' < 2 * T.h := by have := hok.1; rw [T.len u hu] at this; exact this
        by_cases hi' : i' < T.h
        · have h1 : napOp ((ops u).getD i' default) k = some (2 * T.path t l + 1) := e
          rw [T.up_op u i' hu hi'] at h1
          unfold napOp at h1
          dsimp only at h1
          split at h1
          · rename_i hk6
            injection h1 with h1
            have hpp : T.path u i' = T.path t l := by omega
            dsimp only
            rw [if_pos hi', if_pos hi', hpp, hpv, hpo]
            have h5 : mPot (S.th u).rd (S.th u).r1 (gateOf S (T.path t l)) false false k ≤ mPot (S.th u).rd (S.th u).r1 (gateOf S (T.path t l)) true (S.th u).slp k := by
              cases (S.th u).slp with
              | true => exact mPot_woken hk6
              | false => exact mPot_up (Int.le_refl _) (fun e => by cases e)
            omega
          · cases h1
        · exfalso
          have h1 : napOp ((ops u).getD i' default) k = some (2 * T.path t l + 1) := e
          have h2 := T.dn_op u (2 * T.h - 1 - i') hu (by omega)
          rw [show 2 * T.h - 1 - (2 * T.h - 1 - i') = i' by omega] at h2
          rw [h2] at h1
          cases h1
      | _ => exact Nat.le_refl _
  · by_cases hut : u = t
    · subst hut; rw [h3t] at e1; cases e1
    · by_cases hwt : w = t
      · subst hwt; rw [h3t] at e2; cases e2
      · exact ha u w j hu hw hj e (by rw [← h3 u j hut]; exact e1) (by rw [← h3 w j hwt]; exact e2)

theorem mt_down (h : MInv T rounds S) (ha : T.alone S) (ht : t < n) (hs : (S.th t).slp = false) (hf : (S.th t).ph ≠ .fin) : Down T rounds t S (stepS ops rounds t S) := by
  have hown := h.own t ht
  have hl := T.len t ht
  have hh1 := T.h1
  cases hph : (S.th t).ph with
  | fin => exact absurd hph hf
  | b0 | b1 | less | halt | came | gone | plus | jump => exact down_frame h ha ht hs (by rw [hph]; simp)
  | op i k =>
    have hok := hown.ok
    rw [hph] at hok
    obtain ⟨hi, hk⟩ := hok
    have hx : S.th t = ⟨.op i k, (S.th t).rd, (S.th t).r1, false⟩ := by rw [← hph, ← hs]
    have hd : stepS ops rounds t S = (let d := doOp (ops t) S.cell (S.th t) i k ((ops t).getD i default); ⟨upd (match d.wake with | some w => wakeAll ops w.1 S.th | none => S.th) t d.th, match d.touch with | some q => upd S.cell q.2.1 q.2.2 | none => S.cell⟩) := by
      unfold stepS doTh
      rw [hph]
      rfl
    rw [hd]
    have gsame : ∀ {x : Th} v, gateOf (⟨upd S.th t x, S.cell⟩ : BS) v = gateOf S v := fun v => rfl
    by_cases hih : i < T.h
    · have ho := T.up_op t i ht hih
      rw [ho] at hk ⊢
      have hk8 : k < 8 := hk
      obtain ⟨_, n2, n3⟩ := T.node t i ht hih
      have hsm : ((T.size (T.path t i) : Int) - 1) % m64 = (T.sz t i : Int) - 1 := by
        rw [small_mod (by omega) (by omega)]
        rfl
      obtain ⟨a1, a2, a3, a4⟩ := hown.aw i k hph hih
      have hfl := hown.floor i hih
      have hg : S.cell (2 * T.path t i + 1) = gateOf S (T.path t i) := rfl
      have h3t : ∀ j, opAt T.h 3 (S.th t) j = false := fun j => by rw [hx, op_up hih]
      have hold : mRem T.h rounds (T.path t) (gateOf S) (T.pend S) (S.th t) = mBase T.h rounds ((S.th t).rd + 1) + 3 + (14 * (T.h - 1 - i) + 4 * T.h + mPot (S.th t).rd (S.th t).r1 (gateOf S (T.path t i)) (T.pend S (T.path t i)) false k) := by
        rw [hx, mrem_up hih]
      -- going on within the meeting
      have within : ∀ {k' : Nat} {r1 : Int} {slp : Bool}, mPot (S.th t).rd r1 (gateOf S (T.path t i)) (T.pend S (T.path t i)) slp k' + 1 ≤ mPot (S.th t).rd (S.th t).r1 (gateOf S (T.path t i)) (T.pend S (T.path t i)) false k → Down T rounds t S ⟨upd S.th t ⟨.op i k', (S.th t).rd, r1, slp⟩, S.cell⟩ := fun hm => by
        refine down_calm ha gsame (fun j => by rw [op_up hih, h3t]) ?_
        rw [mrem_up hih, hold]
        omega
      have h07 : k = 0 ∨ k = 1 ∨ k = 2 ∨ k = 3 ∨ k = 4 ∨ k = 5 ∨ k = 6 ∨ k = 7 := by omega
      rcases h07 with rfl | rfl | rfl | rfl | rfl | rfl | rfl | rfl
      · have : Down T rounds t S ⟨upd S.th t ⟨.op i 1, (S.th t).rd, S.cell (2 * T.path t i), false⟩, upd S.cell (2 * T.path t i) ((S.cell (2 * T.path t i) + 1) % m64)⟩ := by
          refine down_calm ha (fun v => by unfold gateOf; dsimp only; rw [upd_ne _ _ (by omega)]) (fun j => by rw [op_up hih, h3t]) ?_
          rw [mrem_up hih, hold]
          simp [mPot]
          omega
        simpa [doOp, hs] using this
      · by_cases hr1 : (S.th t).r1 = (T.sz t i : Int) - 1
        · have : Down T rounds t S ⟨upd S.th t ⟨nxt (ops t) (i + 1), (S.th t).rd, (S.th t).r1, false⟩, S.cell⟩ := by
            by_cases hih1 : i + 1 < T.h
            · have e : nxt (ops t) (i + 1) = .op (i + 1) 0 := if_pos (by omega)
              rw [e]
              refine down_calm ha gsame (fun j => by rw [op_up hih1, h3t]) ?_
              rw [mrem_up hih1, hold]
              simp [mPot]
              omega
            · refine down_calm ha gsame (fun j => by rw [h3t]; exact (nxt_dn (s := T.sz t) hl (i := i + 1) (by omega) (by omega) j).2.2.2.1) ?_
              have := mrem_nxt (T := T) (rounds := rounds) hl (i := i + 1) (rd := (S.th t).rd) (r1 := (S.th t).r1) (path := T.path t) (g := gateOf S) (p := T.pend S) (by omega)
              rw [hold]
              simp [mPot]
              omega
          simp only [doOp, Nat.one_ne_zero, if_false, if_true, hsm, if_pos hr1, hs]
          exact this
        · have := within (k' := 2) (r1 := (S.th t).r1) (slp := false) (by
            unfold mPot awPot
            simp
            repeat' split
            all_goals omega)
          simp only [doOp, Nat.one_ne_zero, if_false, if_true, hsm, if_neg hr1, hs]
          exact this
      · have := within (k' := 3) (r1 := gateOf S (T.path t i)) (slp := false) (by
            unfold mPot awPot
            by_cases hc : ((S.th t).rd : Int) ≤ gateOf S (T.path t i)
            · have hn : ¬ gateOf S (T.path t i) < ((S.th t).rd : Int) := by omega
              simp [hc, hn]
            · have hn : gateOf S (T.path t i) < ((S.th t).rd : Int) := by omega
              simp [hc, hn]
              omega)
        have hself : upd S.cell (2 * T.path t i + 1) (gateOf S (T.path t i)) = S.cell := upd_self S.cell _
        simpa [doOp, doAwait, hs, hself, hg] using this
      · obtain ⟨b1, b2⟩ := a1 (by decide) (by decide)
        by_cases hlt : (S.th t).r1 < (S.th t).rd
        · have := within (k' := 5) (r1 := (S.th t).r1) (slp := false) (by
            unfold mPot awPot
            simp [hlt]
            omega)
          simpa [doOp, doAwait, hs, hlt] using this
        · have := within (k' := 4) (r1 := (S.th t).r1) (slp := false) (by
            unfold mPot awPot
            simp [hlt]
            omega)
          simpa [doOp, doAwait, hs, hlt] using this
      · have := within (k' := 7) (r1 := (S.th t).r1) (slp := false) (by
            unfold mPot awPot
            simp)
        simpa [doOp, doAwait, hs] using this
      · obtain ⟨b1, b2⟩ := a1 (by decide) (by decide)
        by_cases he : gateOf S (T.path t i) = (S.th t).r1
        · have := within (k' := 6) (r1 := (S.th t).r1) (slp := true) (by
            unfold mPot awPot
            simp
            omega)
          simpa [doOp, doAwait, hs, hg, he] using this
        · have hop : ((S.th t).rd : Int) ≤ gateOf S (T.path t i) := by have := a3 rfl; omega
          have := within (k' := 6) (r1 := (S.th t).r1) (slp := false) (by
            unfold mPot awPot
            simp [hop])
          simpa [doOp, doAwait, hs, hg, he] using this
      · have := within (k' := 2) (r1 := (S.th t).r1) (slp := false) (by
            unfold mPot awPot
            by_cases hc : ((S.th t).rd : Int) ≤ gateOf S (T.path t i)
            · simp [hc]
            · simp [hc]
              omega)
        simpa [doOp, doAwait, hs] using this
      · have : Down T rounds t S ⟨upd S.th t ⟨nxt (ops t) (2 * T.h - i), (S.th t).rd, (S.th t).r1, false⟩, S.cell⟩ := by
          refine down_calm ha gsame (fun j => by rw [h3t]; exact (nxt_dn (s := T.sz t) hl (i := 2 * T.h - i) (by omega) (by omega) j).2.2.2.1) ?_
          have := mrem_nxt (T := T) (rounds := rounds) hl (i := 2 * T.h - i) (rd := (S.th t).rd) (r1 := (S.th t).r1) (path := T.path t) (g := gateOf S) (p := T.pend S) (by omega)
          rw [hold]
          simp [mPot]
          omega
        simpa [doOp, hs] using this
    · have ho := T.dn_op t (2 * T.h - 1 - i) ht (by omega)
      rw [show 2 * T.h - 1 - (2 * T.h - 1 - i) = i by omega] at ho
      rw [ho] at hk ⊢
      have hk4 : k < 4 := hk
      have hi2 : i < 2 * T.h := by omega
      have hold : mRem T.h rounds (T.path t) (gateOf S) (T.pend S) (S.th t) = mBase T.h rounds ((S.th t).rd + 1) + 3 + (4 * (2 * T.h - 1 - i) + (4 - k)) := by
        rw [hx, mrem_dn hih]
      have h03 : k = 0 ∨ k = 1 ∨ k = 2 ∨ k = 3 := by omega
      rcases h03 with rfl | rfl | rfl | rfl
      · have : Down T rounds t S ⟨upd S.th t ⟨.op i 1, (S.th t).rd, (S.th t).r1, false⟩, S.cell⟩ := by
          refine down_calm ha gsame (fun j => by rw [hx, op_dn hih, op_dn hih]; simp) ?_
          rw [mrem_dn hih, hold]
          omega
        simpa [doOp, hs] using this
      · have : Down T rounds t S ⟨upd S.th t ⟨.op i 2, (S.th t).rd, (S.th t).r1, false⟩, upd S.cell (2 * T.path t (2 * T.h - 1 - i)) 0⟩ := by
          refine down_calm ha (fun v => by unfold gateOf; dsimp only; rw [upd_ne _ _ (by omega)]) (fun j => by rw [hx, op_dn hih, op_dn hih]; simp) ?_
          rw [mrem_dn hih, hold]
          omega
        simpa [doOp, hs] using this
      · have := down_gate h ha ht hs hph (by omega) hi2
        simpa [doOp, hs] using this
      · have := down_wake h ha ht hs hph (by omega) hi2
        simpa [doOp, hs] using this

/-- Central, Combine. -/
def mt_kind (T : MT ops n nc) (rounds : Nat) : Kind ops n nc rounds where
  I := fun S => MInv T rounds S ∧ T.alone S
  pot := fun S => sumN n fun t => T.left rounds S t
  wf := fun t ht i hi => by
    have hl := T.len t ht
    by_cases hih : i < T.h
    · rw [T.up_op t i ht hih]
      obtain ⟨n1, n2, n3⟩ := T.node t i ht hih
      exact ⟨n1, n2, n3, by omega⟩
    · have ho := T.dn_op t (2 * T.h - 1 - i) ht (by omega)
      rw [show 2 * T.h - 1 - (2 * T.h - 1 - i) = i by omega] at ho
      rw [ho]
      exact (T.node t (2 * T.h - 1 - i) ht (by omega)).1
  init := ⟨mt_inv0, fun u w j _ _ _ _ e _ => by cases e⟩
  step := fun S t h ht hs hf => by
    obtain ⟨d1, d2, d3⟩ := mt_down h.1 h.2 ht hs hf
    exact ⟨⟨h.1.step ht hs, d3⟩, sumN_drop ht d2 d1⟩
  poke := fun S t h ht => by
    have hl := fun u => poke_like (S := S) t u
    have hop : ∀ u j, opAt T.h 3 ((pokeS t S).th u) j = opAt T.h 3 (S.th u) j := fun u j => like_op (hl u) j
    have hp : T.pend (pokeS t S) = T.pend S := by
      funext v
      unfold MT.pend
      simp only [hop]
    refine ⟨⟨h.1.likes hl rfl, fun u w j hu hw hj e e1 e2 => h.2 u w j hu hw hj e (by rw [← hop]; exact e1) (by rw [← hop]; exact e2)⟩, sumN_grow ht (fun u hu hne => ?_) ?_⟩
    · unfold MT.left
      rw [hp]
      show mRem _ _ _ (gateOf S) _ (upd S.th t _ u) ≤ _
      rw [upd_ne _ _ hne]
      exact Nat.le_refl _
    · unfold MT.left
      rw [hp]
      show mRem _ _ _ (gateOf S) _ (upd S.th t { S.th t with slp := false } t) ≤ _
      rw [upd_same]
      unfold mRem
      cases (S.th t).ph with
      | op i k =>
        dsimp only
        split
        · have := mPot_awake (rd := (S.th t).rd) (r1 := (S.th t).r1) (g := gateOf S (T.path t i)) (p := T.pend S (T.path t i)) (slp := (S.th t).slp) (k := k)
          omega
        · omega
      | _ => dsimp only; omega
  wakes := fun S t m h hS ht => mt_wakes h.1 hS ht
  good := fun S t h ht => mt_good h.1 ht
  rd := fun S t h ht => ⟨(h.1.own t ht).rd.2.1, (h.1.own t ht).rd.2.2.1, fun e => (h.1.own t ht).rd.2.2.2.2 (.inr e)⟩
  live := fun S h hall => mt_live h.1 hall
end
end Go.Proofs.YtgkfhihnfllmhaaGreatDoor
