/-
  Small programs of chapter 4, told through: sums, fields, orders.
-/
import Derived.Test.YtkmidefgmefohaaDoorKLaws
namespace Go.Proofs.YtkmidefgmefohaaDoor
set_option maxRecDepth 100000

/-- The first thread goes on n times. -/
def iterM (most : Nat) : Nat → Mach → Mach
  | 0, m => m
  | n + 1, m => iterM most n (stepM most m 0).2
theorem iterM_add (most a b : Nat) : ∀ m, iterM most (a + b) m = iterM most b (iterM most a m) := by
  induction a with
  | zero => intro m; rw [Nat.zero_add]; rfl
  | succ a ih => intro m; rw [Nat.succ_add]; exact ih _
theorem iterM_end (most : Nat) (m : Mach) (h0 : 0 < m.progs.length) (h : m.ended.getD 0 false = true) : ∀ n, iterM most n m = m
  | 0 => rfl
  | n + 1 => by
    show iterM most n (stepM most m 0).2 = m
    rw [stepM_of_ended most m 0 (by decide) (by omega) h]
    exact iterM_end most m h0 h n

/-- What is told: a program behind its end, its number in cell 0. -/
def tailP (l : List Ins5) : List Ins5 := l ++ [(7, 0, 3, -1, 0), (0, 0, 0, 0, 0)]
def resM (l : List Ins5) : Mach := iterM 20000 100 (newM [tailP l] [0])

def Tells (l : List Ins5) (v : Int) : Prop := (resM l).cells = [v] ∧ (resM l).ended = [true]

theorem tells_of {l : List Ins5} {n : Nat} {m : Mach} {v : Int} (hn : n ≤ 100) (h : iterM 20000 n (newM [tailP l] [0]) = m) (h1 : 0 < m.progs.length) (h2 : m.ended = [true]) (h3 : m.cells = [v]) : Tells l v := by
  have e : resM l = m := by
    unfold resM
    obtain ⟨k, hk⟩ : ∃ k, 100 = n + k := ⟨100 - n, by omega⟩
    rw [hk, iterM_add, h]
    exact iterM_end _ _ h1 (by rw [h2]; rfl) _
  exact ⟨by rw [e, h3], by rw [e, h2]⟩

/-- One thread of the program p, at k, with registers r, on one cell. -/
def mid (p : List Ins5) (k : Int) (r : List Int) (c : Int) (a : List Act6) (s : Nat) : Mach := { progs := [p], at_ := [k], ended := [false], regs := [r], cells := [c], lot := [], acts := a, events := [], steps := s }

theorem step_eff {p : List Ins5} {k : Int} {r : List Int} {c : Int} {a : List Act6} {s : Nat} {e : Eff} (hs : s < 20000) (h : effAt (mid p k r c a s) 0 = e) : (stepM 20000 (mid p k r c a s) 0).2 = doEff (mid p k r c a s) 0 (insOf (mid p k r c a s) 0).1 e := by
  rcases stepM_cases 20000 (mid p k r c a s) 0 with ⟨c', e', c0, c13⟩ | ⟨_, _, _, _, _, e'⟩
  · unfold stepM at e'
    rw [if_neg (by simp [mid]), if_neg (by simp [mid]), if_neg (by simp [mid, asleepM]), if_neg (by simp [mid]; omega)] at e'
    injection e' with e' _
    rcases errEff_done (effAt (mid p k r c a s) (0 : Int).toNat) with q | q
    · exact absurd (e'.symm.trans q) c0
    · exact absurd (e'.symm.trans q) c13
  · rw [e', show (0 : Int).toNat = 0 from rfl, h]

theorem go_set {p : List Ins5} {k : Int} {r : List Int} {c : Int} {a : List Act6} {s q : Nat} {v : Int} {n : Nat} (hs : s < 20000) (h : effAt (mid p k r c a s) 0 = .set q v) : iterM 20000 (n + 1) (mid p k r c a s) = iterM 20000 n (mid p (k + 1) (r.set q v) c a (s + 1)) := by
  show iterM 20000 n (stepM 20000 (mid p k r c a s) 0).2 = _
  rw [step_eff hs h]
  rfl
theorem go_goto {p : List Ins5} {k : Int} {r : List Int} {c : Int} {a : List Act6} {s : Nat} {q : Int} {n : Nat} (hs : s < 20000) (h : effAt (mid p k r c a s) 0 = .goto q) : iterM 20000 (n + 1) (mid p k r c a s) = iterM 20000 n (mid p q r c a (s + 1)) := by
  show iterM 20000 n (stepM 20000 (mid p k r c a s) 0).2 = _
  rw [step_eff hs h]
  rfl
theorem go_next {p : List Ins5} {k : Int} {r : List Int} {c : Int} {a : List Act6} {s : Nat} {n : Nat} (hs : s < 20000) (h : effAt (mid p k r c a s) 0 = .next) : iterM 20000 (n + 1) (mid p k r c a s) = iterM 20000 n (mid p (k + 1) r c a (s + 1)) := by
  show iterM 20000 n (stepM 20000 (mid p k r c a s) 0).2 = _
  rw [step_eff hs h]
  rfl

/-- The end of it: a Store of register 3, a Halt; whatever is left of the 100. -/
theorem tells_end {l : List Ins5} {n : Nat} {k : Int} {r : List Int} {a : List Act6} {s : Nat} {v : Int} (hn : n + 2 ≤ 100) (hs : s + 1 < 20000) (h : iterM 20000 n (newM [tailP l] [0]) = mid (tailP l) k r 0 a s)
    (h1 : effAt (mid (tailP l) k r 0 a s) 0 = .mem 0 v none) (h2 : ∀ a', effAt (mid (tailP l) (k + 1) r v a' (s + 1)) 0 = .halt) : Tells l v := by
  have e1 : iterM 20000 (n + 1) (newM [tailP l] [0]) = mid (tailP l) (k + 1) r v (a ++ [((s : Int) + 1, 0, (insOf (mid (tailP l) k r 0 a s) 0).1, 0, 0, v)]) (s + 1) := by
    rw [iterM_add, h]
    show (stepM 20000 (mid (tailP l) k r 0 a s) 0).2 = _
    rw [step_eff (by omega) h1]
    rfl
  have e2 : iterM 20000 (n + 1 + 1) (newM [tailP l] [0]) = doEff (mid (tailP l) (k + 1) r v (a ++ [((s : Int) + 1, 0, (insOf (mid (tailP l) k r 0 a s) 0).1, 0, 0, v)]) (s + 1)) 0 (insOf (mid (tailP l) (k + 1) r v (a ++ [((s : Int) + 1, 0, (insOf (mid (tailP l) k r 0 a s) 0).1, 0, 0, v)]) (s + 1)) 0).1 .halt := by
    rw [iterM_add, e1]
    show (stepM 20000 _ 0).2 = _
    rw [step_eff hs (h2 _)]
  exact tells_of hn e2 (by show 0 < [tailP l].length; simp) rfl rfl

theorem sum_tells (x y : Int) : Tells [(1, 1, x, 0, 0), (1, 2, y, 0, 0), (4, 3, 1, 2, 0)] ((x % m64 + y % m64) % m64) :=
  tells_end (n := 3) (by decide) (by decide) (Eq.trans (b := iterM 20000 3 (mid _ 0 [0, 0, 0, 0, 0, 0, 0, 0] 0 [] 0)) rfl (Eq.trans (go_set (by decide) rfl) (Eq.trans (go_set (by decide) rfl) (go_set (by decide) rfl)))) rfl (fun _ => rfl)
theorem plus_tells (x y : Int) : Tells [(1, 1, y, 0, 0), (3, 3, 1, x, 0)] ((y % m64 + x) % m64) :=
  tells_end (n := 2) (by decide) (by decide) (Eq.trans (b := iterM 20000 2 (mid _ 0 [0, 0, 0, 0, 0, 0, 0, 0] 0 [] 0)) rfl (Eq.trans (go_set (by decide) rfl) (go_set (by decide) rfl))) rfl (fun _ => rfl)
theorem sums_same (x y : Int) : (x % m64 + y % m64) % m64 = (y % m64 + x) % m64 := by unfold m64; omega

theorem field_tells (x : Int) (c d : Int) : Tells [(1, 1, x, 0, 0), (5, 3, 1, c, d)] (x % m64 / 2 ^ c.toNat % 2 ^ d.toNat) :=
  tells_end (n := 2) (by decide) (by decide) (Eq.trans (b := iterM 20000 2 (mid _ 0 [0, 0, 0, 0, 0, 0, 0, 0] 0 [] 0)) rfl (Eq.trans (go_set (by decide) rfl) (go_set (by decide) rfl))) rfl (fun _ => rfl)

/-- A program that goes on elsewhere, or not. -/
def askP (op a b : Int) : List Ins5 := [(1, 1, a, 0, 0), (1, 2, b, 0, 0), (op, 1, 2, 5, 0), (1, 3, 7, 0, 0), (10, 6, 0, 0, 0), (1, 3, 9, 0, 0)]
def sameP (a b : Int) : List Ins5 := [(1, 1, a, 0, 0), (11, 1, b, 4, 0), (1, 3, 7, 0, 0), (10, 5, 0, 0, 0), (1, 3, 9, 0, 0)]

theorem ask_yes (op a b : Int) (h : effAt (mid (tailP (askP op a b)) 2 [0, a % m64, b % m64, 0, 0, 0, 0, 0] 0 [] 2) 0 = .goto 5) : Tells (askP op a b) 9 :=
  tells_end (n := 4) (by decide) (by decide) (Eq.trans (b := iterM 20000 4 (mid _ 0 [0, 0, 0, 0, 0, 0, 0, 0] 0 [] 0)) rfl (Eq.trans (go_set (by decide) rfl) (Eq.trans (go_set (by decide) rfl) (Eq.trans (go_goto (by decide) h) (go_set (by decide) rfl))))) rfl (fun _ => rfl)
theorem ask_no (op a b : Int) (h : effAt (mid (tailP (askP op a b)) 2 [0, a % m64, b % m64, 0, 0, 0, 0, 0] 0 [] 2) 0 = .next) : Tells (askP op a b) 7 :=
  tells_end (n := 5) (by decide) (by decide) (Eq.trans (b := iterM 20000 5 (mid _ 0 [0, 0, 0, 0, 0, 0, 0, 0] 0 [] 0)) rfl (Eq.trans (go_set (by decide) rfl) (Eq.trans (go_set (by decide) rfl) (Eq.trans (go_next (by decide) h) (Eq.trans (go_set (by decide) rfl) (go_goto (by decide) rfl)))))) rfl (fun _ => rfl)
theorem less_tells (a b : Int) : Tells (askP 12 a b) (if a % m64 < b % m64 then 9 else 7) := by
  have h : effAt (mid (tailP (askP 12 a b)) 2 [0, a % m64, b % m64, 0, 0, 0, 0, 0] 0 [] 2) 0 = if a % m64 < b % m64 then .goto 5 else .next := rfl
  split
  · exact ask_yes 12 a b (by rw [h, if_pos (by assumption)])
  · exact ask_no 12 a b (by rw [h, if_neg (by assumption)])
theorem equal_tells (a b : Int) : Tells (askP 13 a b) (if a % m64 = b % m64 then 9 else 7) := by
  have h : effAt (mid (tailP (askP 13 a b)) 2 [0, a % m64, b % m64, 0, 0, 0, 0, 0] 0 [] 2) 0 = if a % m64 = b % m64 then .goto 5 else .next := rfl
  split
  · exact ask_yes 13 a b (by rw [h, if_pos (by assumption)])
  · exact ask_no 13 a b (by rw [h, if_neg (by assumption)])
theorem same_tells (a b : Int) : Tells (sameP a b) (if a % m64 = b % m64 then 9 else 7) := by
  have h : effAt (mid (tailP (sameP a b)) 1 [0, a % m64, 0, 0, 0, 0, 0, 0] 0 [] 1) 0 = if a % m64 = b % m64 then .goto 4 else .next := rfl
  split
  · rename_i hc
    rw [if_pos hc] at h
    exact tells_end (n := 3) (by decide) (by decide) (Eq.trans (b := iterM 20000 3 (mid _ 0 [0, 0, 0, 0, 0, 0, 0, 0] 0 [] 0)) rfl (Eq.trans (go_set (by decide) rfl) (Eq.trans (go_goto (by decide) h) (go_set (by decide) rfl)))) rfl (fun _ => rfl)
  · rename_i hc
    rw [if_neg hc] at h
    exact tells_end (n := 4) (by decide) (by decide) (Eq.trans (b := iterM 20000 4 (mid _ 0 [0, 0, 0, 0, 0, 0, 0, 0] 0 [] 0)) rfl (Eq.trans (go_set (by decide) rfl) (Eq.trans (go_next (by decide) h) (Eq.trans (go_set (by decide) rfl) (go_goto (by decide) rfl))))) rfl (fun _ => rfl)
/-- The fact that the laws begin with: two threads, one of whom sleeps. -/
def goneP : List (List Ins5) := [[(8, 1, 0, 3, 0), (16, 3, 1, 0, 0), (0, 0, 0, 0, 0)], [(14, 0, 0, 0, 0), (0, 0, 0, 0, 0)]]
def gone0 : Mach := newM goneP [0]
def gone1 : Mach := { progs := goneP, at_ := [0, 1], ended := [false, false], regs := [[0, 0, 0, 0, 0, 0, 0, 0], [0, 0, 0, 0, 0, 0, 0, 0]], cells := [0], lot := [(1, 0)], acts := [], events := [], steps := 1 }
def gone2 : Mach := { progs := goneP, at_ := [1, 1], ended := [false, false], regs := [[0, 0, 0, 0, 0, 0, 0, 0], [0, 0, 0, 0, 0, 0, 0, 0]].set 0 [0, 0, 0, 0, 0, 0, 0, 0], cells := [3], lot := [(1, 0)], acts := [(2, 0, 8, 0, 0, 3)], events := [], steps := 2 }
def gone3 : Mach := { gone2 with at_ := [2, 1], events := [(3, 3, 0, 0)], steps := 3 }
def gone4 : Mach := { gone3 with ended := [true, false], steps := 4 }
theorem gone_1 : stepM 20000 gone0 1 = (0, gone1) := rfl
theorem gone_2 : stepM 20000 gone1 0 = (0, gone2) := rfl
theorem gone_3 : stepM 20000 gone2 0 = (0, gone3) := rfl
theorem gone_4 : stepM 20000 gone3 0 = (0, gone4) := rfl
theorem gone_5 : stepM 20000 gone4 0 = (6, gone4) := rfl
theorem gone_6 : stepM 20000 gone4 1 = (8, gone4) := rfl
theorem gone_run : runM 20000 [0, 0, 0, 1] gone2 = (2, gone4) := by
  simp only [runM, gone_3, gone_4, gone_5, gone_6]
  rfl
end Go.Proofs.YtkmidefgmefohaaDoor
