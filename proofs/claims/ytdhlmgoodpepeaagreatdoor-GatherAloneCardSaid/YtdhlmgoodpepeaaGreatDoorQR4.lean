/-
  When calls of a phaser took effect: the points, plainly; what each call did, out of a row of what was done and said When calls of a phaser took effect: what is within each call, out of all that was done and said When calls of a phaser took effect: all points, in the order of what was done When calls of a phaser took effect: thread by thread, and in the order of what was done: the same points What comes of a phaser's calls at the points at which they took effect: what the cell holds, what was answered As if each call of a phaser happened at once Points lie within their calls; what took effect has taken effect
-/
import Derived.Test.YtdhlmgoodpepeaaGreatDoorQR3
namespace Go.Proofs.YtdhlmgoodpepeaaGreatDoor
set_option maxRecDepth 100000
set_option linter.unusedVariables false
set_option linter.unusedSimpArgs false

theorem snoc_ind {α : Type} {motive : List α → Prop} (nil : motive []) (snoc : ∀ (l : List α) (e : α), motive l → motive (l ++ [e])) (l : List α) : motive l := by
  have h : ∀ l : List α, motive l.reverse := fun l => by
    induction l with
    | nil => exact nil
    | cons e l ih => rw [List.reverse_cons]; exact snoc _ _ ih
  have := h l.reverse
  rwa [List.reverse_reverse] at this
/-- A point: when, whose, which call, late or not. -/
structure PtG where
  s : Int
  t : Nat
  k : Nat
  late : Bool
def isChg (a : Act6) : Bool := decide (a.2.2.1 = 9 ∧ a.2.2.2.2.1 ≠ a.2.2.2.2.2)
/-! What a thread did within its kth call. -/
def seg (t : Nat) : Nat → List LE → List Act6
  | _, [] => []
  | k, .act u s op o v :: r => if u = t ∧ k = 0 then (s, (u : Int), op, 0, o, v) :: seg t k r else seg t k r
  | 0, .say u s v :: r => if u = t then [] else seg t 0 r
  | k + 1, .say u s v :: r => if u = t then seg t k r else seg t (k + 1) r
def saysT (t : Nat) (log : List LE) : Nat := (saidL t log).length

section
variable {t k : Nat} {log pre rest : List LE} {e : LE}
theorem saidL_cons (t : Nat) (e : LE) (r : List LE) : saidL t (e :: r) = e.said t ++ saidL t r := rfl
theorem saysT_say (t : Nat) (s v : Int) (r : List LE) : saysT t (.say t s v :: r) = saysT t r + 1 := by
  unfold saysT
  rw [saidL_cons]
  show ((if t = t then [v] else []) ++ _).length = _
  rw [if_pos rfl]
  simp
theorem saysT_other {u : Nat} (h : u ≠ t) (s v : Int) (r : List LE) : saysT t (.say u s v :: r) = saysT t r := by
  unfold saysT
  rw [saidL_cons]
  show ((if u = t then [v] else []) ++ _).length = _
  rw [if_neg h]
  rfl
theorem saysT_act (t u : Nat) (s op o v : Int) (r : List LE) : saysT t (.act u s op o v :: r) = saysT t r := rfl
theorem seg_act {u : Nat} {s op o v : Int} (t k : Nat) (r : List LE) : seg t k (.act u s op o v :: r) = if u = t ∧ k = 0 then (s, (u : Int), op, 0, o, v) :: seg t k r else seg t k r := by
  cases k <;> rfl
theorem seg_say0 {u : Nat} {s v : Int} (t : Nat) (r : List LE) : seg t 0 (.say u s v :: r) = if u = t then [] else seg t 0 r := rfl
theorem seg_say1 {u : Nat} {s v : Int} (t k : Nat) (r : List LE) : seg t (k + 1) (.say u s v :: r) = if u = t then seg t k r else seg t (k + 1) r := rfl
theorem seg_app (t : Nat) (rest : List LE) : ∀ (pre : List LE) (k : Nat), seg t k (pre ++ rest) = seg t k pre ++ (if k < saysT t pre then [] else seg t (k - saysT t pre) rest)
  | [], k => by
    show seg t k rest = [] ++ (if k < 0 then _ else seg t (k - 0) rest)
    rw [if_neg (by omega)]
    rfl
  | .act u s op o v :: pre, k => by
    rw [List.cons_append, seg_act, seg_act, saysT_act, seg_app t rest pre k]
    split
    · rfl
    · rfl
  | .say u s v :: pre, 0 => by
    rw [List.cons_append, seg_say0, seg_say0]
    by_cases h : u = t
    · subst h
      rw [if_pos rfl, if_pos rfl, saysT_say, if_pos (by omega)]
      rfl
    · rw [if_neg h, if_neg h, saysT_other h, seg_app t rest pre 0]
  | .say u s v :: pre, k + 1 => by
    rw [List.cons_append, seg_say1, seg_say1]
    by_cases h : u = t
    · subst h
      rw [if_pos rfl, if_pos rfl, saysT_say, seg_app u rest pre k]
      congr 1
      by_cases h1 : k < saysT u pre
      · rw [if_pos h1, if_pos (by omega)]
      · rw [if_neg h1, if_neg (by omega)]
        congr 1
        omega
    · rw [if_neg h, if_neg h, saysT_other h, seg_app t rest pre (k + 1)]
theorem saysT_app (t : Nat) (pre rest : List LE) : saysT t (pre ++ rest) = saysT t pre + saysT t rest := by
  unfold saysT saidL
  rw [List.flatMap_append, List.length_append]
theorem seg_late (t : Nat) : ∀ (log : List LE) (k : Nat), saysT t log < k → seg t k log = []
  | [], k, _ => rfl
  | .act u s op o v :: r, k, h => by
    rw [saysT_act] at h
    rw [seg_act, if_neg (by omega), seg_late t r k h]
  | .say u s v :: r, 0, h => by omega
  | .say u s v :: r, k + 1, h => by
    rw [seg_say1]
    by_cases e : u = t
    · subst e
      rw [saysT_say] at h
      rw [if_pos rfl, seg_late u r k (by omega)]
    · rw [saysT_other e] at h
      rw [if_neg e, seg_late t r (k + 1) h]
/-- One more entry. -/
theorem seg_snoc_act {u : Nat} {s op o v : Int} (t k : Nat) (log : List LE) : seg t k (log ++ [.act u s op o v]) = seg t k log ++ (if u = t ∧ k = saysT t log then [(s, (u : Int), op, 0, o, v)] else []) := by
  rw [seg_app, seg_act]
  congr 1
  by_cases h : k < saysT t log
  · rw [if_pos h, if_neg (by omega)]
  · rw [if_neg h]
    by_cases h1 : u = t ∧ k = saysT t log
    · rw [if_pos h1, if_pos ⟨h1.1, by omega⟩]
      rfl
    · rw [if_neg h1, if_neg (by omega)]
      rfl
theorem seg_snoc_say {u : Nat} {s v : Int} (t k : Nat) (log : List LE) : seg t k (log ++ [.say u s v]) = seg t k log := by
  rw [seg_app]
  have : ∀ j, seg t j [.say u s v] = [] := fun j => by
    cases j with
    | zero => rw [seg_say0]; split <;> rfl
    | succ j => rw [seg_say1]; split <;> rfl
  rw [this, ite_self, List.append_nil]
/-- What it did since its last answer. -/
theorem curL_seg (t : Nat) (log : List LE) : curL t log = (seg t (saysT t log) log).map fun a => (a.2.2.2.2.1, a.2.2.2.2.2) := by
  induction log using snoc_ind with
  | nil => rfl
  | snoc log e ih =>
    rw [curL_snoc]
    cases e with
    | act u s op o v =>
      have h1 : saysT t (log ++ [.act u s op o v]) = saysT t log := by rw [saysT_app]; rfl
      rw [seg_snoc_act, h1]
      show (if u = t then curL t log ++ [(o, v)] else curL t log) = _
      by_cases h : u = t
      · rw [if_pos h, if_pos ⟨h, rfl⟩, ih, List.map_append]
        rfl
      · rw [if_neg h, if_neg (fun q => h q.1), List.append_nil, ih]
    | say u s v =>
      rw [seg_snoc_say]
      show (if u = t then [] else curL t log) = _
      by_cases h : u = t
      · subst h
        rw [if_pos rfl, saysT_app, saysT_say, seg_late u log _ (by omega)]
        rfl
      · rw [if_neg h, saysT_app, saysT_other h, ih]
        rfl
end
end Go.Proofs.YtdhlmgoodpepeaaGreatDoor

namespace Go.Proofs.YtdhlmgoodpepeaaGreatDoor
set_option maxRecDepth 100000
set_option linter.unusedVariables false
set_option linter.unusedSimpArgs false

section
variable {n : Nat} {calls : Nat → List GC} {w0 v : Int} {log : List LE} {t u k : Nat} {s op o w a : Int}
end
end Go.Proofs.YtdhlmgoodpepeaaGreatDoor

namespace Go.Proofs.YtdhlmgoodpepeaaGreatDoor
set_option maxRecDepth 100000
set_option linter.unusedVariables false
set_option linter.unusedSimpArgs false

def ovA (a : Act6) : Int × Int := (a.2.2.2.2.1, a.2.2.2.2.2)
section
variable {n : Nat} {calls : Nat → List GC} {w0 v : Int} {log pre rest full : List LE} {t u k : Nat} {s op o w a : Int} {e : LE}
theorem snoc_inj {α : Type} {l m : List α} {a b : α} (h : l ++ [a] = m ++ [b]) : l = m ∧ a = b := by
  obtain ⟨h1, h2⟩ := List.append_inj' h rfl
  injection h2 with h2
  exact ⟨h1, h2⟩
theorem LogOK.inv_act (h : LogOK n calls w0 (pre ++ [.act t s op o w]) v) : v = w ∧ LogOK n calls w0 pre o ∧ t < n ∧ (∀ e ∈ pre, e.when < s) ∧ ∃ c, (calls t)[saysT t pre]? = some c ∧
    (w = o ∨ op = 9 ∧ chgs (curL t pre) = [] ∧ ∃ (x y : PhS) (m : Int), x.ok ∧ y.ok ∧ o = x.word ∧ w = y.word ∧ phNext x (askW c) c.n = (y, m)) := by
  generalize hL : pre ++ [LE.act t s op o w] = L at h
  cases h with
  | nil => simp at hL
  | act h ht hk hs h0 hn =>
    obtain ⟨rfl, h2⟩ := snoc_inj hL
    injection h2 with a1 a2 a3 a4 a5
    subst a1 a2 a3 a4 a5
    exact ⟨rfl, h, ht, hs, _, hk, hn⟩
  | say h ht hk hs h0 ha =>
    obtain ⟨_, h2⟩ := snoc_inj hL
    cases h2
theorem LogOK.inv_say (h : LogOK n calls w0 (pre ++ [.say t s a]) v) : LogOK n calls w0 pre v ∧ t < n ∧ (∀ e ∈ pre, e.when < s) ∧ ∃ c, (calls t)[saysT t pre]? = some c ∧ AnsOK c (curL t pre) a := by
  generalize hL : pre ++ [LE.say t s a] = L at h
  cases h with
  | nil => simp at hL
  | act h ht hk hs h0 hn =>
    obtain ⟨_, h2⟩ := snoc_inj hL
    cases h2
  | say h ht hk hs h0 ha =>
    obtain ⟨rfl, h2⟩ := snoc_inj hL
    injection h2 with a1 a2 a3
    subst a1 a2 a3
    exact ⟨h, ht, hs, _, hk, ha⟩
theorem LogOK.front (h : LogOK n calls w0 (pre ++ rest) v) : ∃ v', LogOK n calls w0 pre v' := by
  induction rest using snoc_ind generalizing v with
  | nil => rw [List.append_nil] at h; exact ⟨v, h⟩
  | snoc r e ih =>
    rw [← List.append_assoc] at h
    cases e with
    | act t s op o w => exact ih h.inv_act.2.1
    | say t s a => exact ih h.inv_say.1
theorem LogOK.at (h : LogOK n calls w0 (pre ++ e :: rest) v) : ∃ v', LogOK n calls w0 (pre ++ [e]) v' := by
  rw [show pre ++ e :: rest = (pre ++ [e]) ++ rest by simp] at h
  exact h.front
theorem LogOK.last (h : LogOK n calls w0 (pre ++ [e]) v) : ∀ x ∈ pre, x.when < e.when := by
  cases e with
  | act t s op o w => exact h.inv_act.2.2.2.1
  | say t s a => exact h.inv_say.2.2.1
theorem LogOK.before (h : LogOK n calls w0 (pre ++ e :: rest) v) : ∀ x ∈ pre, x.when < e.when := by
  obtain ⟨v', h⟩ := h.at
  exact h.last
theorem LogOK.behind (h : LogOK n calls w0 (pre ++ e :: rest) v) : ∀ x ∈ rest, e.when < x.when := by
  intro x hx
  obtain ⟨r1, r2, rfl⟩ := List.append_of_mem hx
  rw [show pre ++ e :: (r1 ++ x :: r2) = (pre ++ e :: r1) ++ x :: r2 by simp] at h
  exact h.before e (by simp)
/-- Each answer is right. -/
theorem ans_at (h : LogOK n calls w0 log v) : ∀ t k, k < saysT t log → t < n ∧ ∃ c a, (calls t)[k]? = some c ∧ (saidL t log)[k]? = some a ∧ AnsOK c ((seg t k log).map ovA) a := by
  induction h with
  | nil => intro t k hk; exact absurd hk (Nat.not_lt_zero _)
  | @act log v u s op now c h hu hc hs h0 hn ih =>
    intro t k hk
    rw [saysT_app] at hk
    have hk : k < saysT t log := hk
    rw [seg_snoc_act, if_neg (by omega), List.append_nil, saidL_snoc]
    show t < n ∧ ∃ c a, _ ∧ (saidL t log ++ [])[k]? = some a ∧ _
    rw [List.append_nil]
    exact ih t k hk
  | @say log v u s a c h hu hc hs h0 ha ih =>
    intro t k hk
    rw [seg_snoc_say, saidL_snoc]
    rw [saysT_app] at hk
    by_cases e : k < saysT t log
    · obtain ⟨h1, d, b, h2, h3, h4⟩ := ih t k e
      refine ⟨h1, d, b, h2, ?_, h4⟩
      rw [List.getElem?_append_left e]
      exact h3
    · by_cases e2 : u = t
      · subst e2
        rw [saysT_say] at hk
        have hk : k < saysT u log + (0 + 1) := hk
        obtain rfl : k = saysT u log := by omega
        refine ⟨hu, c, a, hc, ?_, by rw [curL_seg] at ha; exact ha⟩
        show (saidL u log ++ (if u = u then [a] else []))[(saidL u log).length]? = some a
        rw [if_pos rfl, List.getElem?_append_right (Nat.le_refl _), Nat.sub_self]
        rfl
      · rw [saysT_other e2] at hk
        exact absurd hk e
/-- Where it was done. -/
theorem seg_split {x : Act6} : ∀ {log : List LE} {k : Nat}, x ∈ seg t k log → ∃ pre rest s op o v, log = pre ++ LE.act t s op o v :: rest ∧ saysT t pre = k ∧ x = (s, (t : Int), op, 0, o, v)
  | [], _, h => by cases h
  | .act u s op o v :: r, k, h => by
    rw [seg_act] at h
    have more : x ∈ seg t k r → ∃ pre rest s' op' o' v', LE.act u s op o v :: r = pre ++ LE.act t s' op' o' v' :: rest ∧ saysT t pre = k ∧ x = (s', (t : Int), op', 0, o', v') := fun h => by
      obtain ⟨pre, rest, s', op', o', v', h1, h2, h3⟩ := seg_split h
      exact ⟨.act u s op o v :: pre, rest, s', op', o', v', by rw [h1]; rfl, h2, h3⟩
    split at h
    · next e =>
      rcases List.mem_cons.1 h with h2 | h2
      · obtain ⟨rfl, rfl⟩ := e
        exact ⟨[], r, s, op, o, v, rfl, rfl, h2⟩
      · exact more h2
    · exact more h
  | .say u s v :: r, k, h => by
    have more : ∀ j, x ∈ seg t j r → saysT t [.say u s v] + j = k → ∃ pre rest s' op' o' v', LE.say u s v :: r = pre ++ LE.act t s' op' o' v' :: rest ∧ saysT t pre = k ∧ x = (s', (t : Int), op', 0, o', v') := fun j h hj => by
      obtain ⟨pre, rest, s', op', o', v', h1, h2, h3⟩ := seg_split h
      refine ⟨.say u s v :: pre, rest, s', op', o', v', by rw [h1]; rfl, ?_, h3⟩
      rw [← List.singleton_append, saysT_app, h2, hj]
    cases k with
    | zero =>
      rw [seg_say0] at h
      split at h
      · cases h
      · next e => exact more 0 h (by rw [saysT_other e]; rfl)
    | succ k =>
      rw [seg_say1] at h
      split at h
      · next e => subst e; exact more k h (by rw [saysT_say]; show 0 + 1 + k = k + 1; omega)
      · next e => exact more (k + 1) h (by rw [saysT_other e]; show 0 + (k + 1) = k + 1; omega)

end
end Go.Proofs.YtdhlmgoodpepeaaGreatDoor

namespace Go.Proofs.YtdhlmgoodpepeaaGreatDoor
set_option maxRecDepth 100000
set_option linter.unusedVariables false
set_option linter.unusedSimpArgs false

section
variable {n : Nat} {calls : Nat → List GC} {w0 v : Int} {log pre rest full : List LE} {t u k : Nat} {s op o w a : Int} {e : LE}
theorem act_inv (h : LogOK n calls w0 (pre ++ .act t s op o w :: rest) v) : t < n ∧ LogOK n calls w0 pre o ∧ ∃ c, (calls t)[saysT t pre]? = some c ∧
    (w = o ∨ op = 9 ∧ chgs (curL t pre) = [] ∧ ∃ (x y : PhS) (m : Int), x.ok ∧ y.ok ∧ o = x.word ∧ w = y.word ∧ phNext x (askW c) c.n = (y, m)) := by
  obtain ⟨v', h'⟩ := h.at
  obtain ⟨_, h1, h2, _, h3⟩ := h'.inv_act
  exact ⟨h2, h1, h3⟩
end
end Go.Proofs.YtdhlmgoodpepeaaGreatDoor

namespace Go.Proofs.YtdhlmgoodpepeaaGreatDoor
set_option maxRecDepth 100000
set_option linter.unusedVariables false
set_option linter.unusedSimpArgs false

def set2 (got : Nat → Nat → Int) (t k : Nat) (a : Int) : Nat → Nat → Int := fun u j => if u = t ∧ j = k then a else got u j
section
variable {n : Nat} {calls : Nat → List GC} {w0 v : Int} {log pre rest full : List LE} {t u k : Nat} {s op o w a : Int} {e : LE}
theorem LogOK.val {v1 v2 : Int} (h1 : LogOK n calls w0 pre v1) (h2 : LogOK n calls w0 pre v2) : v1 = v2 := by
  have zero : ∀ {v : Int}, LogOK n calls w0 [] v → v = w0 := fun {v} h => by
    generalize hL : ([] : List LE) = L at h
    cases h with
    | nil => rfl
    | act => simp at hL
    | say => simp at hL
  induction pre using snoc_ind generalizing v1 v2 with
  | nil => rw [zero h1, zero h2]
  | snoc pre e ih =>
    cases e with
    | act t s op o w => rw [h1.inv_act.1, h2.inv_act.1]
    | say t s a => exact ih h1.inv_say.1 h2.inv_say.1
/-- What is so behind the points of a row's begin. -/
structure GotOK (calls : Nat → List GC) (full pre : List LE) (got : Nat → Nat → Int) : Prop where
  done : ∀ t k a, (saidL t full)[k]? = some a → seg t k pre = seg t k full → seg t k full ≠ [] → got t k = a
  chg : ∀ t k c b, b ∈ seg t k pre → isChg b = true → (calls t)[k]? = some c → (seg t k pre ≠ seg t k full ∨ saysT t full ≤ k) → ∃ (x y : PhS) (m : Int), x.ok ∧ b.2.2.2.2.1 = x.word ∧ phNext x (askW c) c.n = (y, m) ∧ got t k = m
theorem GotOK.same {got : Nat → Nat → Int} (h : GotOK calls full pre got) {pre' : List LE} (hs : ∀ t k, seg t k pre' = seg t k pre) : GotOK calls full pre' got :=
  ⟨fun t k a h1 h2 h3 => h.done t k a h1 (by rw [← hs]; exact h2) h3, fun t k c b h1 h2 h3 h4 => h.chg t k c b (by rw [← hs]; exact h1) h2 h3 (by rw [← hs]; exact h4)⟩
/-- One call has got on. -/
theorem GotOK.put {got : Nat → Nat → Int} (h : GotOK calls full pre got) {pre' : List LE} {t k : Nat} {g : Int} (hs : ∀ u j, ¬ (u = t ∧ j = k) → seg u j pre' = seg u j pre)
    (h1 : ∀ a, (saidL t full)[k]? = some a → seg t k pre' = seg t k full → seg t k full ≠ [] → g = a)
    (h2 : ∀ c b, b ∈ seg t k pre' → isChg b = true → (calls t)[k]? = some c → (seg t k pre' ≠ seg t k full ∨ saysT t full ≤ k) → ∃ (x y : PhS) (m : Int), x.ok ∧ b.2.2.2.2.1 = x.word ∧ phNext x (askW c) c.n = (y, m) ∧ g = m)
    {got' : Nat → Nat → Int} (hg : got' t k = g) (hg2 : ∀ u j, ¬ (u = t ∧ j = k) → got' u j = got u j) : GotOK calls full pre' got' := by
  refine ⟨fun u j a e1 e2 e3 => ?_, fun u j c b e1 e2 e3 e4 => ?_⟩
  · by_cases q : u = t ∧ j = k
    · obtain ⟨rfl, rfl⟩ := q
      rw [hg]
      exact h1 a e1 e2 e3
    · rw [hg2 u j q]
      exact h.done u j a e1 (by rw [← hs u j q]; exact e2) e3
  · by_cases q : u = t ∧ j = k
    · obtain ⟨rfl, rfl⟩ := q
      rw [hg]
      exact h2 c b e1 e2 e3 e4
    · rw [hg2 u j q]
      exact h.chg u j c b (by rw [← hs u j q]; exact e1) e2 e3 (by rw [← hs u j q]; exact e4)
theorem word_same {x y : PhS} (hx : x.ok) (hy : y.ok) (h : x.word = y.word) : x = y := (word_inj hx hy).1 h
end
end Go.Proofs.YtdhlmgoodpepeaaGreatDoor

namespace Go.Proofs.YtdhlmgoodpepeaaGreatDoor
set_option maxRecDepth 100000
set_option linter.unusedVariables false
set_option linter.unusedSimpArgs false

section
variable {n : Nat} {calls : Nat → List GC} {w0 v : Int} {log pre rest full : List LE} {t u k : Nat} {s op o w a : Int} {e : LE} {x x0 : PhS}
end
end Go.Proofs.YtdhlmgoodpepeaaGreatDoor

namespace Go.Proofs.YtdhlmgoodpepeaaGreatDoor
set_option maxRecDepth 100000
set_option linter.unusedVariables false
set_option linter.unusedSimpArgs false

/-! What comes behind. -/
section
variable {n : Nat} {calls : Nat → List GC} {acts A : List Act6} {events E : List Ev4} {s : Int} {t k : Nat}
end

/-! What a step adds is later than all that there is. -/
structure ExtM (m m' : Mach) : Prop where
  acts : ∃ A, m'.acts = m.acts ++ A ∧ ∀ x ∈ A, (m.steps : Int) < x.1
  events : ∃ E, m'.events = m.events ++ E ∧ ∀ x ∈ E, (m.steps : Int) < x.1
  steps : m.steps ≤ m'.steps
theorem ExtM.trans {m m1 m2 : Mach} (h : ExtM m m1) (h2 : ExtM m1 m2) : ExtM m m2 := by
  obtain ⟨⟨A, a1, a2⟩, ⟨E, e1, e2⟩, s1⟩ := h
  obtain ⟨⟨A2, b1, b2⟩, ⟨E2, f1, f2⟩, s2⟩ := h2
  refine ⟨⟨A ++ A2, by rw [b1, a1, List.append_assoc], fun x hx => ?_⟩, ⟨E ++ E2, by rw [f1, e1, List.append_assoc], fun x hx => ?_⟩, by omega⟩
  · rcases List.mem_append.1 hx with hx | hx
    · exact a2 x hx
    · have := b2 x hx; omega
  · rcases List.mem_append.1 hx with hx | hx
    · exact e2 x hx
    · have := f2 x hx; omega
end Go.Proofs.YtdhlmgoodpepeaaGreatDoor
