/-
  A whole without a body, told through.
-/
import Derived.Test.YtkmidefgmefohaaDoorKNums
namespace Go.Proofs.YtkmidefgmefohaaDoor
set_option maxRecDepth 100000

/-- A whole without a body. -/
def wholeP (r : Nat) : List Ins5 := [(1, 0, 1, 0, 0), (1, 7, (r : Int) + 1, 0, 0), (12, 0, 7, 4, 0), (0, 0, 0, 0, 0), (16, 1, 0, 0, 0), (16, 2, 0, 0, 0), (3, 0, 0, 1, 0), (10, 2, 0, 0, 0)]
/-- What such a whole says. -/
def evW (i : Nat) : Ev4 := (4 + 5 * ((i / 2 : Nat) : Int) + ((i % 2 : Nat) : Int), 1 + ((i % 2 : Nat) : Int), 0, 1 + ((i / 2 : Nat) : Int))
def evsW (j : Nat) : List Ev4 := (List.range (2 * j)).map evW
/-- Ahead of round j. -/
def wholeM (r j : Nat) : Mach := { progs := [wholeP r], at_ := [2], ended := [false], regs := [[(j : Int) + 1, 0, 0, 0, 0, 0, 0, (r : Int) + 1]], cells := [], lot := [], acts := [], events := evsW j, steps := 2 + 5 * j }
def wholeE (r : Nat) : Mach := { wholeM r r with at_ := [3], ended := [true], steps := 4 + 5 * r }

theorem step_is {m : Mach} {e : Eff} (hl : m.progs.length = 1) (he : m.ended = [false]) (ha : m.lot = []) (hs : m.steps < 20000) (h : effAt m 0 = e) : (stepM 20000 m 0).2 = doEff m 0 (insOf m 0).1 e := by
  unfold stepM
  rw [if_neg (by omega), if_neg (by rw [he]; decide), if_neg (by unfold asleepM; rw [ha]; decide), if_neg (by omega), show (0 : Int).toNat = 0 from rfl, h]

theorem evsW_succ (j : Nat) : evsW (j + 1) = evsW j ++ [(4 + 5 * (j : Int), 1, 0, 1 + (j : Int))] ++ [(5 + 5 * (j : Int), 2, 0, 1 + (j : Int))] := by
  unfold evsW
  rw [show 2 * (j + 1) = 2 * j + 1 + 1 by omega, List.range_succ, List.range_succ, List.map_append, List.map_append]
  have e1 : evW (2 * j) = (4 + 5 * (j : Int), 1, 0, 1 + (j : Int)) := by
    unfold evW
    rw [show 2 * j / 2 = j by omega, show 2 * j % 2 = 0 by omega]
    simp
  have e2 : evW (2 * j + 1) = (5 + 5 * (j : Int), 2, 0, 1 + (j : Int)) := by
    unfold evW
    rw [show (2 * j + 1) / 2 = j by omega, show (2 * j + 1) % 2 = 1 by omega]
    simp
    omega
  simp [e1, e2]

theorem small_mod {v : Int} (h0 : 0 ≤ v) (h1 : v < 1000) : v % m64 = v := by unfold m64; omega
theorem small_signed {v : Int} (h1 : v < 1000) : signed v = v := by unfold signed; rw [if_pos (by omega)]

theorem whole_round (r j n : Nat) (hj : j < r) (hr : r ≤ 20) : iterM 20000 (n + 5) (wholeM r j) = iterM 20000 n (wholeM r (j + 1)) := by
  have s1 : (stepM 20000 (wholeM r j) 0).2 = { wholeM r j with at_ := [4], steps := 3 + 5 * j } := by
    rw [step_is (e := .goto 4) rfl rfl rfl (by simp [wholeM]; omega) (by
      show (if (j : Int) + 1 < (r : Int) + 1 then Eff.goto 4 else .next) = _
      rw [if_pos (by omega)])]
    unfold doEff wholeM
    simp; omega
  have s2 : (stepM 20000 { wholeM r j with at_ := [4], steps := 3 + 5 * j } 0).2 = { wholeM r j with at_ := [5], events := evsW j ++ [(4 + 5 * (j : Int), 1, 0, 1 + (j : Int))], steps := 4 + 5 * j } := by
    rw [step_is (e := .say 1 (signed ((j : Int) + 1))) rfl rfl rfl (by show 3 + 5 * j < 20000; omega) rfl, small_signed (by omega)]
    unfold doEff wholeM
    simp; omega
  have s3 : (stepM 20000 { wholeM r j with at_ := [5], events := evsW j ++ [(4 + 5 * (j : Int), 1, 0, 1 + (j : Int))], steps := 4 + 5 * j } 0).2 = { wholeM r j with at_ := [6], events := evsW (j + 1), steps := 5 + 5 * j } := by
    rw [step_is (e := .say 2 (signed ((j : Int) + 1))) rfl rfl rfl (by show 4 + 5 * j < 20000; omega) rfl, small_signed (by omega), evsW_succ]
    unfold doEff wholeM
    simp; omega
  have s4 : (stepM 20000 { wholeM r j with at_ := [6], events := evsW (j + 1), steps := 5 + 5 * j } 0).2 = { wholeM r (j + 1) with at_ := [7], steps := 6 + 5 * j } := by
    rw [step_is (e := .set 0 (((j : Int) + 1 + 1) % m64)) rfl rfl rfl (by show 5 + 5 * j < 20000; omega) rfl, small_mod (by omega) (by omega)]
    unfold doEff wholeM
    simp; omega
  have s5 : (stepM 20000 { wholeM r (j + 1) with at_ := [7], steps := 6 + 5 * j } 0).2 = wholeM r (j + 1) := by
    rw [step_is (e := .goto 2) rfl rfl rfl (by show 6 + 5 * j < 20000; omega) rfl]
    unfold doEff wholeM
    simp; omega
  show iterM 20000 n (stepM 20000 (stepM 20000 (stepM 20000 (stepM 20000 (stepM 20000 (wholeM r j) 0).2 0).2 0).2 0).2 0).2 = _
  rw [s1, s2, s3, s4, s5]

theorem whole_rounds (r : Nat) (hr : r ≤ 20) (k : Nat) : ∀ j, j + k = r → ∀ n, iterM 20000 (n + 5 * k) (wholeM r j) = iterM 20000 n (wholeM r r) := by
  induction k with
  | zero => intro j hj n; rw [show j = r by omega]; rfl
  | succ k ih =>
    intro j hj n
    rw [show n + 5 * (k + 1) = n + 5 * k + 5 by omega, whole_round r j _ (by omega) hr]
    exact ih (j + 1) (by omega) n

theorem whole_end (r : Nat) (hr : r ≤ 20) : iterM 20000 (9 * r + 9) (newM [wholeP r] []) = wholeE r := by
  have s1 : (stepM 20000 (newM [wholeP r] []) 0).2 = { wholeM r 0 with at_ := [1], regs := [[1, 0, 0, 0, 0, 0, 0, 0]], steps := 1 } := by
    rw [step_is (e := .set 0 (1 % m64)) rfl rfl rfl (by show 0 < 20000; decide) rfl]
    rfl
  have s2 : (stepM 20000 { wholeM r 0 with at_ := [1], regs := [[1, 0, 0, 0, 0, 0, 0, 0]], steps := 1 } 0).2 = wholeM r 0 := by
    rw [step_is (e := .set 7 (((r : Int) + 1) % m64)) rfl rfl rfl (by show 1 < 20000; decide) rfl, small_mod (by omega) (by omega)]
    rfl
  have s3 : (stepM 20000 (wholeM r r) 0).2 = { wholeM r r with at_ := [3], steps := 3 + 5 * r } := by
    rw [step_is (e := .next) rfl rfl rfl (by show 2 + 5 * r < 20000; omega) (by
      show (if (r : Int) + 1 < (r : Int) + 1 then Eff.goto 4 else .next) = _
      rw [if_neg (by omega)])]
    unfold doEff wholeM
    simp; omega
  have s4 : (stepM 20000 { wholeM r r with at_ := [3], steps := 3 + 5 * r } 0).2 = wholeE r := by
    rw [step_is (e := .halt) rfl rfl rfl (by show 3 + 5 * r < 20000; omega) rfl]
    unfold doEff wholeE wholeM
    simp; omega
  rw [show 9 * r + 9 = 4 * r + 7 + 5 * r + 1 + 1 by omega]
  show iterM 20000 (4 * r + 7 + 5 * r) (stepM 20000 (stepM 20000 (newM [wholeP r] []) 0).2 0).2 = _
  rw [s1, s2, whole_rounds r hr r 0 (by omega)]
  show iterM 20000 (4 * r + 5) (stepM 20000 (stepM 20000 (wholeM r r) 0).2 0).2 = _
  rw [s3, s4]
  exact iterM_end _ (wholeE r) (Nat.zero_lt_one) rfl _
end Go.Proofs.YtkmidefgmefohaaDoor
