/-
  What comes of calls of a phaser, one behind the other: plain facts for the laws of chapter 19.
-/
import Derived.Test.YtaklikgdlalhdaaDoorKPhase
namespace Go.Proofs.YtaklikgdlalhdaaDoor
set_option maxRecDepth 100000

theorem phNext_over {x : PhS} (h : x.o = true) (a n : Int) : phNext x a n = (x, -1) := by
  unfold phNext
  rw [if_pos h]
theorem phNext_close {x : PhS} (h : x.o = false) : phNext x 11 0 = (⟨true, x.f, x.p, x.q⟩, 0) := by
  unfold phNext
  rw [if_neg (by rw [h]; decide), if_neg (by decide), if_neg (by decide), if_neg (by decide), if_pos rfl]
theorem phNext_watch {x : PhS} (h : x.o = false) (n : Int) : phNext x 10 n = (x, if x.f = n then -4 else x.f) := by
  unfold phNext
  rw [if_neg (by rw [h]; decide), if_neg (by decide), if_neg (by decide), if_neg (by decide), if_neg (by decide)]
theorem phNext_reg {x : PhS} (h : x.o = false) {n : Int} (hn : ¬ 65535 < x.p + n) : phNext x 6 n = (⟨x.o, x.f, x.p + n, x.q + n⟩, x.f) := by
  unfold phNext
  rw [if_neg (by rw [h]; decide), if_pos rfl, if_neg hn]
theorem phNext_full {x : PhS} (h : x.o = false) {n : Int} (hn : 65535 < x.p + n) : phNext x 6 n = (x, -3) := by
  unfold phNext
  rw [if_neg (by rw [h]; decide), if_pos rfl, if_pos hn]
theorem phNext_arrive {x : PhS} (h : x.o = false) : phNext x 7 0 = phArrive x 0 := by
  unfold phNext
  rw [if_neg (by rw [h]; decide), if_neg (by decide), if_pos rfl]
theorem phNext_leave {x : PhS} (h : x.o = false) : phNext x 8 0 = phArrive x 1 := by
  unfold phNext
  rw [if_neg (by rw [h]; decide), if_neg (by decide), if_neg (by decide), if_pos rfl]
theorem phArrive_more {x : PhS} {l : Int} (h : 2 ≤ x.q) : phArrive x l = (⟨x.o, x.f, x.p - l, x.q - 1⟩, x.f) := by
  unfold phArrive phTurn
  rw [if_neg (by omega), if_neg (by show ¬ x.q - 1 = 0; omega)]
theorem phArrive_last {x : PhS} {l : Int} (h : x.q = 1) : phArrive x l = (if x.p - l = 0 then ⟨true, x.f, x.p - l, x.q - 1⟩ else ⟨x.o, phUp x.f, x.p - l, x.p - l⟩, x.f) := by
  unfold phArrive phTurn
  rw [if_neg (by omega), if_pos (by show x.q - 1 = 0; omega)]
theorem phArrive_none {x : PhS} {l : Int} (h : x.q = 0) : phArrive x l = (x, -2) := by
  unfold phArrive
  rw [if_pos h]

/-! Two calls, in whichever order. -/
def dPar (a : Int) : Int := if a = 6 then 2 else if a = 8 then -1 else 0
def dWait (a : Int) : Int := if a = 6 then 2 else -1
def soft (a n : Int) : Prop := (a = 7 ∧ n = 0) ∨ (a = 8 ∧ n = 0) ∨ (a = 6 ∧ n = 2)
theorem phNext_calm {x : PhS} {a n : Int} (ho : x.o = false) (hq : 2 ≤ x.q) (hp : x.p ≤ 65000) (h : soft a n) : phNext x a n = (⟨false, x.f, x.p + dPar a, x.q + dWait a⟩, x.f) := by
  rcases h with ⟨rfl, rfl⟩ | ⟨rfl, rfl⟩ | ⟨rfl, rfl⟩
  · rw [phNext_arrive ho, phArrive_more hq, ho]
    show (PhS.mk false x.f (x.p - 0) (x.q - 1), x.f) = (PhS.mk false x.f (x.p + 0) (x.q + -1), x.f)
    rw [show x.p - 0 = x.p + 0 by omega, show x.q - 1 = x.q + -1 by omega]
  · rw [phNext_leave ho, phArrive_more hq, ho]
    show (PhS.mk false x.f (x.p - 1) (x.q - 1), x.f) = (PhS.mk false x.f (x.p + -1) (x.q + -1), x.f)
    rw [show x.p - 1 = x.p + -1 by omega, show x.q - 1 = x.q + -1 by omega]
  · rw [phNext_reg ho (by omega), ho]
    rfl
theorem ph_swaps {x : PhS} {a n b m : Int} (hq : 3 ≤ x.q) (hp : x.p ≤ 60000) (h : soft a n) (h' : soft b m) :
    (phNext (phNext x a n).1 b m).1 = (phNext (phNext x b m).1 a n).1 ∧ (phNext x a n).2 = (phNext (phNext x b m).1 a n).2 ∧ (phNext (phNext x a n).1 b m).2 = (phNext x b m).2 := by
  cases ho : x.o with
  | true =>
    rw [phNext_over ho, phNext_over ho]
    show x = (phNext x a n).1 ∧ (-1 : Int) = (phNext x a n).2 ∧ (-1 : Int) = -1
    rw [phNext_over ho]
    exact ⟨rfl, rfl, rfl⟩
  | false =>
    have d1 : -1 ≤ dWait a ∧ dPar a ≤ 2 := by
      unfold dWait dPar
      constructor
      · split <;> omega
      · split
        · omega
        · split <;> omega
    have d2 : -1 ≤ dWait b ∧ dPar b ≤ 2 := by
      unfold dWait dPar
      constructor
      · split <;> omega
      · split
        · omega
        · split <;> omega
    rw [phNext_calm ho (by omega) (by omega) h, phNext_calm ho (by omega) (by omega) h']
    show (phNext (PhS.mk false x.f (x.p + dPar a) (x.q + dWait a)) b m).1 = (phNext (PhS.mk false x.f (x.p + dPar b) (x.q + dWait b)) a n).1 ∧ x.f = (phNext (PhS.mk false x.f (x.p + dPar b) (x.q + dWait b)) a n).2 ∧ (phNext (PhS.mk false x.f (x.p + dPar a) (x.q + dWait a)) b m).2 = x.f
    rw [phNext_calm (x := ⟨false, x.f, x.p + dPar a, x.q + dWait a⟩) rfl (by show 2 ≤ x.q + dWait a; omega) (by show x.p + dPar a ≤ _; omega) h',
      phNext_calm (x := ⟨false, x.f, x.p + dPar b, x.q + dWait b⟩) rfl (by show 2 ≤ x.q + dWait b; omega) (by show x.p + dPar b ≤ _; omega) h]
    refine ⟨?_, rfl, rfl⟩
    show PhS.mk false x.f (x.p + dPar a + dPar b) (x.q + dWait a + dWait b) = PhS.mk false x.f (x.p + dPar b + dPar a) (x.q + dWait b + dWait a)
    rw [show x.p + dPar a + dPar b = x.p + dPar b + dPar a by omega, show x.q + dWait a + dWait b = x.q + dWait b + dWait a by omega]

/-- What a call leaves, of whatever right state: at most one phase on; what is over stays so; the answer. -/
def stays (x y : PhS) (k : Int) : Prop := y.ok ∧ (y.f = x.f ∨ y.f = (x.f + 1) % 2147483648) ∧ (x.o = true → y = x ∧ k = -1) ∧ -4 ≤ k
theorem ph_stays {x : PhS} {a n : Int} (h : x.ok) (hc : fitsC a n) : stays x (phNext x a n).1 (phNext x a n).2 := by
  have hf := h.1
  have arr : ∀ l, ((phArrive x l).1.f = x.f ∨ (phArrive x l).1.f = (x.f + 1) % 2147483648) ∧ -4 ≤ (phArrive x l).2 := by
    intro l
    by_cases h0 : x.q = 0
    · rw [phArrive_none h0]
      exact ⟨.inl rfl, by show (-4 : Int) ≤ -2; decide⟩
    · unfold phArrive
      rw [if_neg h0]
      refine ⟨?_, by show -4 ≤ x.f; omega⟩
      unfold phTurn
      split
      · split
        · exact .inl rfl
        · exact .inr (phUp_mod hf)
      · exact .inl rfl
  refine ⟨phNext_ok h hc, ?_, ?_, ?_⟩
  · cases ho : x.o with
    | true => rw [phNext_over ho]; exact .inl rfl
    | false =>
      unfold phNext
      rw [if_neg (by rw [ho]; decide)]
      split
      · split
        · exact .inl rfl
        · exact .inl rfl
      · split
        · exact (arr 0).1
        · split
          · exact (arr 1).1
          · split
            · exact .inl rfl
            · exact .inl rfl
  · intro ho
    rw [phNext_over ho]
    exact ⟨rfl, rfl⟩
  · cases ho : x.o with
    | true => rw [phNext_over ho]; show (-4 : Int) ≤ -1; decide
    | false =>
      unfold phNext
      rw [if_neg (by rw [ho]; decide)]
      split
      · split
        · show (-4 : Int) ≤ -3; decide
        · show -4 ≤ x.f; omega
      · split
        · exact (arr 0).2
        · split
          · exact (arr 1).2
          · split
            · show (-4 : Int) ≤ 0; decide
            · show -4 ≤ if x.f = n then -4 else x.f
              split <;> omega

/-! All arrive; all leave. -/
def arrK (f p q : Int) (k : Nat) : PhS := if (k : Int) < q then ⟨false, f, p, q - k⟩ else ⟨false, phUp f, p, p⟩
theorem arrK_step {f p q : Int} {k : Nat} (hk : (k : Int) < q) (hp : 1 ≤ p) : phNext (arrK f p q k) 7 0 = (arrK f p q (k + 1), f) := by
  unfold arrK
  rw [if_pos hk]
  rw [phNext_arrive rfl]
  by_cases h : ((k + 1 : Nat) : Int) < q
  · rw [if_pos h, phArrive_more (by show 2 ≤ q - (k : Int); omega)]
    show (PhS.mk false f (p - 0) (q - (k : Int) - 1), f) = (PhS.mk false f p (q - ((k + 1 : Nat) : Int)), f)
    rw [show p - 0 = p by omega, show q - (k : Int) - 1 = q - ((k + 1 : Nat) : Int) by omega]
  · rw [if_neg h, phArrive_last (by show q - (k : Int) = 1; omega)]
    rw [if_neg (by show ¬ p - 0 = 0; omega)]
    show (PhS.mk false (phUp f) (p - 0) (p - 0), f) = (PhS.mk false (phUp f) p p, f)
    rw [show p - 0 = p by omega]
def leaveK (f n : Int) (k : Nat) : PhS := if (k : Int) < n then ⟨false, f, n - k, n - k⟩ else ⟨true, f, 0, 0⟩
theorem leaveK_step {f n : Int} {k : Nat} (hk : (k : Int) < n) : phNext (leaveK f n k) 8 0 = (leaveK f n (k + 1), f) := by
  unfold leaveK
  rw [if_pos hk, phNext_leave rfl]
  by_cases h : ((k + 1 : Nat) : Int) < n
  · rw [if_pos h, phArrive_more (by show 2 ≤ n - (k : Int); omega)]
    show (PhS.mk false f (n - (k : Int) - 1) (n - (k : Int) - 1), f) = (PhS.mk false f (n - ((k + 1 : Nat) : Int)) (n - ((k + 1 : Nat) : Int)), f)
    rw [show n - (k : Int) - 1 = n - ((k + 1 : Nat) : Int) by omega]
  · rw [if_neg h, phArrive_last (by show n - (k : Int) = 1; omega)]
    rw [if_pos (by show n - (k : Int) - 1 = 0; omega)]
    show (PhS.mk true f (n - (k : Int) - 1) (n - (k : Int) - 1), f) = (PhS.mk true f 0 0, f)
    rw [show n - (k : Int) - 1 = 0 by omega]
end Go.Proofs.YtaklikgdlalhdaaDoor
