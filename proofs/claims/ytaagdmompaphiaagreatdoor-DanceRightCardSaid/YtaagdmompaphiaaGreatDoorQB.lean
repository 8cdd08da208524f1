/-
  Instructions as text, as plain functions on lists of bytes: how one is printed, and what text it is that is one. Of no program. The world in which package code runs: its table of forms, and the library's variables that Itoa and Atoi read; what is carried on. strings.Cut at a text of one byte; what a word is as a number. named: the Op of a name. Small functions of package code: known, bounds, numbers. parseLine: the instruction that a line is. Parse: the program that a text is. fits and Right: whether a program may be. Programs in memory: what a row of them reads as; slices.Equal, slices.Clone; one more behind a program. slices.Clone at programs; the fact that the laws ask first: a program that is written.
-/
import Derived.Lib.ItoaNum
import Derived.Lib.AtoiAll
import Derived.Lib.Bytealg
import Derived.Test.YtaagdmompaphiaaGreatDoorShelf
import Derived.Test.YtaagdmompaphiaaGreatDoorQA
import Derived.WalkSmall
import Derived.Lib.CutLaws
import Derived.BigRegion
import Derived.Deep.MidRow
import Derived.LaidEql
namespace Go.Proofs.YtaagdmompaphiaaGreatDoor
set_option maxRecDepth 100000

/-- An instruction: its Op, A, B, C, D. -/
abbrev In5 := Int × Int × Int × Int × Int

def nums (x : In5) : List Int := [x.2.1, x.2.2.1, x.2.2.2.1, x.2.2.2.2]

def names : List (List UInt8) := [[104, 97, 108, 116], [108, 101, 116], [99, 111, 112, 121], [112, 108, 117, 115], [115, 117, 109], [102, 105, 101, 108, 100], [108, 111, 97, 100], [115, 116, 111, 114, 101], [102, 101, 116, 99, 104], [115, 119, 97, 112], [106, 117, 109, 112], [115, 97, 109, 101], [108, 101, 115, 115], [101, 113, 117, 97, 108], [119, 97, 105, 116], [119, 97, 107, 101], [115, 97, 121]]
def kinds : List (List Nat) := [[0, 0, 0, 0], [1, 3, 0, 0], [1, 1, 0, 0], [1, 1, 3, 0], [1, 1, 1, 0], [1, 1, 6, 7], [1, 2, 0, 0], [2, 1, 5, 0], [1, 2, 3, 0], [1, 2, 1, 1], [4, 0, 0, 0], [1, 3, 4, 0], [1, 1, 4, 0], [1, 1, 4, 0], [2, 1, 0, 0], [2, 3, 5, 0], [3, 1, 0, 0]]

def nameOf (op : Nat) : List UInt8 := names.getD op []
def kindsOf (op : Nat) : List Nat := kinds.getD op []

/-- A number that an instruction has is printed behind a blank. -/
def piece (k : Nat) (n : Int) : List UInt8 := if k = 0 then [] else 32 :: Lib.itoa n

def pieces : List Nat → List Int → List UInt8
  | k :: ks, n :: ns => piece k n ++ pieces ks ns
  | _, _ => []

/-- An instruction's line, without its line feed. -/
def bodyL (x : In5) : List UInt8 := nameOf x.1.toNat ++ pieces (kindsOf x.1.toNat) (nums x)
def lineL (x : In5) : List UInt8 := bodyL x ++ [10]
def printL (l : List In5) : List UInt8 := l.flatMap lineL

def isInt (n : Int) : Prop := -9223372036854775808 ≤ n ∧ n ≤ 9223372036854775807
/-- Numbers where they are named, 0 elsewhere. -/
def zeros : List Nat → List Int → Prop
  | k :: ks, n :: ns => (k = 0 → n = 0) ∧ zeros ks ns
  | _, _ => True
/-- An instruction that is told whole by its line. -/
def okX (x : In5) : Prop := 0 ≤ x.1 ∧ x.1 < 17 ∧ (∀ n ∈ nums x, isInt n) ∧ zeros (kindsOf x.1.toNat) (nums x)

/-- Text ahead of the first byte c, behind it, and whether there is one. -/
def cutL (c : UInt8) : List UInt8 → List UInt8 × List UInt8 × Bool
  | [] => ([], [], false)
  | b :: l => if b = c then ([], l, true) else (b :: (cutL c l).1, (cutL c l).2.1, (cutL c l).2.2)

theorem cutL_no {c : UInt8} : ∀ {s : List UInt8}, c ∉ s → cutL c s = (s, [], false)
  | [], _ => rfl
  | b :: l, h => by
    have hb : b ≠ c := fun e => h (by simp [e])
    have hl : c ∉ l := fun e => h (by simp [e])
    rw [cutL, if_neg hb, cutL_no hl]

theorem cutL_at {c : UInt8} : ∀ {a b : List UInt8}, c ∉ a → cutL c (a ++ c :: b) = (a, b, true)
  | [], b, _ => by simp [cutL]
  | x :: a, b, h => by
    have hx : x ≠ c := fun e => h (by simp [e])
    have ha : c ∉ a := fun e => h (by simp [e])
    rw [List.cons_append, cutL, if_neg hx, cutL_at ha]

theorem cutL_cases (c : UInt8) (s : List UInt8) : (c ∉ s ∧ cutL c s = (s, [], false)) ∨ ∃ a b, s = a ++ c :: b ∧ c ∉ a ∧ cutL c s = (a, b, true) := by
  by_cases h : c ∈ s
  · obtain ⟨a, b, e, hn⟩ : ∃ a b, s = a ++ c :: b ∧ c ∉ a := by
      induction s with
      | nil => cases h
      | cons x s ih =>
        by_cases hx : x = c
        · exact ⟨[], s, by simp [hx], by simp⟩
        · have : c ∈ s := by
            rcases List.mem_cons.1 h with e | e
            · exact absurd e.symm hx
            · exact e
          obtain ⟨a, b, e, hn⟩ := ih this
          exact ⟨x :: a, b, by simp [e], by
            intro hm
            rcases List.mem_cons.1 hm with e2 | e2
            · exact hx e2.symm
            · exact hn e2⟩
    exact .inr ⟨a, b, e, hn, by rw [e, cutL_at hn]⟩
  · exact .inl ⟨h, cutL_no h⟩

/-- The number that a word is, if it is one, and printed so. -/
def numL (w : List UInt8) : Option Int := match Lib.atoiAll w with
  | .ok n => if Lib.itoa n = w then some n else none
  | _ => none

theorem atoiAll_int {w : List UInt8} {n : Int} (h : Lib.atoiAll w = .ok n) : isInt n := by
  unfold Lib.atoiAll at h
  cases w with
  | nil => cases h
  | cons c r =>
    simp only at h
    split at h
    · cases h
    · cases h
    · rename_i u _
      split at h
      · cases h
      · split at h
        · cases h
        · rename_i h1 h2
          injection h with h
          subst h
          unfold isInt
          split <;> rename_i hc <;> simp only [hc, true_and, false_and, not_true_eq_false, not_false_eq_true] at h1 h2 <;> omega

theorem numL_some {w : List UInt8} {n : Int} (h : numL w = some n) : Lib.itoa n = w ∧ isInt n := by
  unfold numL at h
  split at h
  · rename_i m hm
    split at h
    · rename_i he
      injection h with h
      subst h
      exact ⟨he, atoiAll_int hm⟩
    · cases h
  · cases h

theorem parse_append (l : List UInt8) (c : UInt8) : ∀ (acc v : Nat), Lib.parseUint10 acc l = .ok v → 48 ≤ c.toNat → c.toNat ≤ 57 → v < 1844674407370955162 → v * 10 + (c.toNat - 48) < 18446744073709551616 → Lib.parseUint10 acc (l ++ [c]) = .ok (v * 10 + (c.toNat - 48)) := by
  induction l with
  | nil =>
    intro acc v h h1 h2 h3 h4
    simp only [Lib.parseUint10] at h
    injection h with h
    subst h
    rw [List.nil_append, Lib.parseUint10, if_pos ⟨h1, h2⟩, if_neg (by omega), if_neg (by omega), Lib.parseUint10]
  | cons b l ih =>
    intro acc v h h1 h2 h3 h4
    rw [List.cons_append, Lib.parseUint10]
    rw [Lib.parseUint10] at h
    split at h
    · rename_i hb
      rw [if_pos hb]
      split at h
      · cases h
      · rename_i hb2
        rw [if_neg hb2]
        split at h
        · cases h
        · rename_i hb3
          rw [if_neg hb3]
          exact ih _ _ h h1 h2 h3 h4
    · cases h

theorem digit_toNat {d : Nat} (h : d < 10) : (UInt8.ofNat (48 + d)).toNat = 48 + d := by
  rw [UInt8.toNat_ofNat']
  omega

theorem parse_dec (u : Nat) (hu : u < 18446744073709551616) : Lib.parseUint10 0 (Lib.decDigits u) = .ok u := by
  induction u using Nat.strongRecOn with
  | _ u ih =>
    by_cases h : u < 10
    · rw [Lib.decDigits, dif_pos h, Lib.parseUint10, digit_toNat h, if_pos (by omega), if_neg (by omega), if_neg (by omega), Lib.parseUint10]
      congr 1
      omega
    · rw [Lib.decDigits, dif_neg h]
      have hd : u % 10 < 10 := Nat.mod_lt _ (by decide)
      have := parse_append (Lib.decDigits (u / 10)) (UInt8.ofNat (48 + u % 10)) 0 (u / 10) (ih _ (by omega) (by omega)) (by rw [digit_toNat hd]; omega) (by rw [digit_toNat hd]; omega) (by omega) (by rw [digit_toNat hd]; omega)
      rw [this, digit_toNat hd]
      congr 1
      omega

theorem decDigits_mem (u : Nat) : ∀ b ∈ Lib.decDigits u, 48 ≤ b.toNat ∧ b.toNat ≤ 57 := by
  induction u using Nat.strongRecOn with
  | _ u ih =>
    intro b hb
    by_cases h : u < 10
    · rw [Lib.decDigits, dif_pos h, List.mem_singleton] at hb
      subst hb
      rw [digit_toNat h]
      omega
    · rw [Lib.decDigits, dif_neg h, List.mem_append, List.mem_singleton] at hb
      rcases hb with hb | rfl
      · exact ih _ (by omega) b hb
      · rw [digit_toNat (Nat.mod_lt _ (by decide))]
        omega

theorem decDigits_ne (u : Nat) : Lib.decDigits u ≠ [] := by
  rw [Lib.decDigits]
  split
  · exact List.cons_ne_nil _ _
  · simp

theorem itoa_mem (n : Int) : ∀ b ∈ Lib.itoa n, b.toNat = 45 ∨ (48 ≤ b.toNat ∧ b.toNat ≤ 57) := by
  intro b hb
  unfold Lib.itoa at hb
  split at hb
  · rcases List.mem_cons.1 hb with rfl | hb
    · exact .inl rfl
    · exact .inr (decDigits_mem _ b hb)
  · exact .inr (decDigits_mem _ b hb)

theorem itoa_no (n : Int) (c : UInt8) (h : c.toNat < 45) : c ∉ Lib.itoa n := fun hm => by
  rcases itoa_mem n c hm with h1 | h1 <;> omega

theorem numL_itoa (n : Int) (h : isInt n) : numL (Lib.itoa n) = some n := by
  have he : Lib.atoiAll (Lib.itoa n) = .ok n := by
    obtain ⟨h1, h2⟩ := h
    unfold Lib.itoa
    by_cases hn : n < 0
    · rw [if_pos hn]
      unfold Lib.atoiAll Lib.parseMag
      simp only [show (45 : UInt8).toNat = 45 from rfl, or_true, if_true, decDigits_ne, if_false, parse_dec n.natAbs (by omega), not_true_eq_false, false_and, true_and]
      rw [if_neg (by omega)]
      congr 1
      omega
    · rw [if_neg hn]
      obtain ⟨c, r, hc⟩ : ∃ c r, Lib.decDigits n.toNat = c :: r := by
        cases hd : Lib.decDigits n.toNat with
        | nil => exact absurd hd (decDigits_ne _)
        | cons c r => exact ⟨c, r, rfl⟩
      have hm := decDigits_mem n.toNat c (by rw [hc]; simp)
      have hp := parse_dec n.toNat (by omega)
      rw [hc] at hp ⊢
      unfold Lib.atoiAll Lib.parseMag
      have g1 : ¬ (c.toNat = 43 ∨ c.toNat = 45) := by omega
      have g2 : ¬ c.toNat = 45 := by omega
      have g3 : (if c.toNat = 43 ∨ c.toNat = 45 then r else c :: r) = c :: r := if_neg g1
      simp only [g3, if_neg (List.cons_ne_nil c r), hp]
      simp only [g2, not_false_eq_true, true_and, false_and, if_false]
      rw [if_neg (by omega)]
      congr 1
      omega
  unfold numL
  rw [he]
  simp

/-- The numbers of a line: what is left, and whether more is told. -/
def argsL : List Nat → List UInt8 → Bool → Option (List Int × Bool)
  | [], _, m => some ([], m)
  | k :: ks, r, m => if k = 0 then (argsL ks r m).map fun y => (0 :: y.1, y.2) else if m = false then none else match numL (cutL 32 r).1 with
    | none => none
    | some n => (argsL ks (cutL 32 r).2.1 (cutL 32 r).2.2).map fun y => (n :: y.1, y.2)

/-- What stands behind what was read. -/
def tailL (r : List UInt8) (m : Bool) : List UInt8 := if m then 32 :: r else []

theorem cutL_tail (r : List UInt8) : r = (cutL 32 r).1 ++ tailL (cutL 32 r).2.1 (cutL 32 r).2.2 := by
  rcases cutL_cases 32 r with ⟨_, e⟩ | ⟨a, b, e, _, ec⟩
  · rw [e]; simp [tailL]
  · rw [ec, e]; simp [tailL]

theorem argsL_sound : ∀ (ks : List Nat) (r : List UInt8) (m : Bool) (l : List Int), argsL ks r m = some (l, false) → tailL r m = pieces ks l ∧ l.length = ks.length ∧ zeros ks l ∧ ∀ n ∈ l, isInt n
  | [], r, m, l, h => by
    simp only [argsL, Option.some.injEq, Prod.mk.injEq] at h
    obtain ⟨rfl, rfl⟩ := h
    exact ⟨rfl, rfl, trivial, fun n hn => by cases hn⟩
  | k :: ks, r, m, l, h => by
    rw [argsL] at h
    split at h
    · rename_i hk
      obtain ⟨y, hy, he⟩ := Option.map_eq_some_iff.1 h
      obtain ⟨y1, y2⟩ := y
      simp only [Prod.mk.injEq] at he
      obtain ⟨rfl, rfl⟩ := he
      obtain ⟨h1, h2, h3, h4⟩ := argsL_sound ks r m y1 hy
      refine ⟨by rw [pieces, piece, if_pos hk, List.nil_append, h1], by simp [h2], ⟨fun _ => rfl, h3⟩, fun n hn => ?_⟩
      rcases List.mem_cons.1 hn with rfl | hn
      · exact ⟨by decide, by decide⟩
      · exact h4 n hn
    · rename_i hk
      split at h
      · cases h
      · rename_i hm
        split at h
        · cases h
        · rename_i n hn
          obtain ⟨y, hy, he⟩ := Option.map_eq_some_iff.1 h
          obtain ⟨y1, y2⟩ := y
          simp only [Prod.mk.injEq] at he
          obtain ⟨rfl, rfl⟩ := he
          obtain ⟨h1, h2, h3, h4⟩ := argsL_sound ks _ _ y1 hy
          obtain ⟨g1, g2⟩ := numL_some hn
          have hm' : m = true := by simpa using hm
          refine ⟨?_, by simp [h2], ⟨fun e => absurd e hk, h3⟩, fun z hz => ?_⟩
          · rw [pieces, piece, if_neg hk, g1, List.cons_append, ← h1, ← cutL_tail, tailL, if_pos hm']
          · rcases List.mem_cons.1 hz with rfl | hz
            · exact g2
            · exact h4 z hz

theorem pieces_head : ∀ (ks : List Nat) (l : List Int), pieces ks l = [] ∨ ∃ r, pieces ks l = 32 :: r
  | [], _ => .inl rfl
  | _ :: _, [] => .inl rfl
  | k :: ks, n :: ns => by
    rw [pieces, piece]
    by_cases hk : k = 0
    · rw [if_pos hk, List.nil_append]
      exact pieces_head ks ns
    · rw [if_neg hk]
      exact .inr ⟨_, rfl⟩

/-- A word and what stands behind it, cut. -/
theorem cutL_word (w p : List UInt8) (hw : (32 : UInt8) ∉ w) (hp : p = [] ∨ ∃ r, p = 32 :: r) : (cutL 32 (w ++ p)).1 = w ∧ tailL (cutL 32 (w ++ p)).2.1 (cutL 32 (w ++ p)).2.2 = p := by
  rcases hp with rfl | ⟨r, rfl⟩
  · rw [List.append_nil, cutL_no hw]
    exact ⟨rfl, rfl⟩
  · rw [cutL_at hw]
    exact ⟨rfl, rfl⟩

theorem argsL_whole : ∀ (ks : List Nat) (r : List UInt8) (m : Bool) (l : List Int), l.length = ks.length → tailL r m = pieces ks l → zeros ks l → (∀ n ∈ l, isInt n) → argsL ks r m = some (l, false)
  | [], r, m, l, hl, ht, _, _ => by
    obtain rfl := List.eq_nil_of_length_eq_zero hl
    rw [argsL]
    cases m with
    | false => rfl
    | true => cases ht
  | k :: ks, r, m, [], hl, _, _, _ => by cases hl
  | k :: ks, r, m, n :: ns, hl, ht, hz, hi => by
    have hl' : ns.length = ks.length := by simpa using hl
    rw [argsL]
    rw [pieces, piece] at ht
    by_cases hk : k = 0
    · rw [if_pos hk] at ht ⊢
      rw [List.nil_append] at ht
      rw [argsL_whole ks r m ns hl' ht hz.2 (fun z hz => hi z (by simp [hz]))]
      have := hz.1 hk
      subst this
      rfl
    · rw [if_neg hk] at ht ⊢
      cases m with
      | false => cases ht
      | true =>
        rw [tailL, if_pos rfl, List.cons_append] at ht
        injection ht with _ ht
        obtain ⟨g1, g2⟩ := cutL_word (Lib.itoa n) (pieces ks ns) (itoa_no n 32 (by decide)) (pieces_head ks ns)
        rw [← ht] at g1 g2
        rw [if_neg (by simp), g1, numL_itoa n (hi n (by simp))]
        simp only
        rw [argsL_whole ks _ _ ns hl' g2 hz.2 (fun z hz => hi z (by simp [hz]))]
        rfl

/-- The Op of a name. -/
def namedL (s : List UInt8) : Option Nat := (List.range 17).find? fun op => nameOf op == s

theorem namedL_some {s : List UInt8} {op : Nat} (h : namedL s = some op) : op < 17 ∧ nameOf op = s := by
  unfold namedL at h
  have h1 := List.find?_some h
  have h2 := List.mem_of_find?_eq_some h
  exact ⟨List.mem_range.1 h2, by simpa using h1⟩

theorem namedL_name : ∀ op, op < 17 → namedL (nameOf op) = some op := by decide

theorem names_no (op : Nat) (h : op < 17) : (32 : UInt8) ∉ nameOf op ∧ (10 : UInt8) ∉ nameOf op := (by decide : ∀ op, op < 17 → (32 : UInt8) ∉ nameOf op ∧ (10 : UInt8) ∉ nameOf op) op h
theorem kinds_len (op : Nat) (h : op < 17) : (kindsOf op).length = 4 := (by decide : ∀ op, op < 17 → (kindsOf op).length = 4) op h

def toX (op : Nat) (l : List Int) : In5 := (op, l.getD 0 0, l.getD 1 0, l.getD 2 0, l.getD 3 0)

/-- The instruction that a line (without its line feed) is. -/
def parseX (line : List UInt8) : Option In5 := match namedL (cutL 32 line).1 with
  | none => none
  | some op => match argsL (kindsOf op) (cutL 32 line).2.1 (cutL 32 line).2.2 with
    | none => none
    | some y => if y.2 then none else some (toX op y.1)

theorem list4 {l : List Int} (h : l.length = 4) : [l.getD 0 0, l.getD 1 0, l.getD 2 0, l.getD 3 0] = l := by
  match l, h with
  | [a, b, c, d], _ => rfl

theorem parseX_sound {line : List UInt8} {x : In5} (h : parseX line = some x) : okX x ∧ bodyL x = line := by
  unfold parseX at h
  split at h
  · cases h
  · rename_i op hop
    split at h
    · cases h
    · rename_i y hy
      split at h
      · cases h
      · rename_i hm
        injection h with h
        subst h
        obtain ⟨y1, y2⟩ := y
        have hm' : y2 = false := by simpa using hm
        subst hm'
        obtain ⟨h1, h2, h3, h4⟩ := argsL_sound _ _ _ _ hy
        obtain ⟨g1, g2⟩ := namedL_some hop
        rw [kinds_len op g1] at h2
        have hn : nums (toX op y1) = y1 := list4 h2
        have ht : (toX op y1).1.toNat = op := by simp [toX]
        refine ⟨⟨by simp [toX], by simp only [toX]; omega, by rw [hn]; exact h4, by rw [hn, ht]; exact h3⟩, ?_⟩
        rw [bodyL, ht, hn, g2, ← h1, ← cutL_tail]

theorem parseX_whole {x : In5} (h : okX x) : parseX (bodyL x) = some x := by
  obtain ⟨h1, h2, h3, h4⟩ := h
  have hop : x.1.toNat < 17 := by omega
  obtain ⟨g1, g2⟩ := cutL_word (nameOf x.1.toNat) (pieces (kindsOf x.1.toNat) (nums x)) (names_no _ hop).1 (pieces_head _ _)
  unfold parseX
  rw [bodyL, g1, namedL_name _ hop]
  simp only
  rw [argsL_whole (kindsOf x.1.toNat) _ _ (nums x) (by rw [kinds_len _ hop]; rfl) g2 h4 h3]
  simp only [Bool.false_eq_true, if_false, Option.some.injEq]
  obtain ⟨o, a, b, c, d⟩ := x
  show ((o.toNat : Int), a, b, c, d) = _
  have : (o.toNat : Int) = o := by simp only at h1; omega
  rw [this]

theorem pieces_no : ∀ (ks : List Nat) (l : List Int), (10 : UInt8) ∉ pieces ks l
  | [], _ => by simp [pieces]
  | _ :: _, [] => by simp [pieces]
  | k :: ks, n :: ns => by
    rw [pieces, piece, List.mem_append]
    rintro (h | h)
    · split at h
      · cases h
      · rcases List.mem_cons.1 h with h | h
        · exact absurd h (by decide)
        · exact itoa_no n 10 (by decide) h
    · exact pieces_no ks ns h

theorem bodyL_no {x : In5} (h : okX x) : (10 : UInt8) ∉ bodyL x := by
  rw [bodyL, List.mem_append]
  rintro (hm | hm)
  · exact (names_no _ (by have := h.1; have := h.2.1; omega)).2 hm
  · exact pieces_no _ _ hm

/-- The first line of a text that is printed. -/
theorem cutL_print (x : In5) (l : List In5) (h : okX x) : cutL 10 (printL (x :: l)) = (bodyL x, printL l, true) := by
  show cutL 10 (lineL x ++ printL l) = _
  rw [lineL, List.append_assoc, List.singleton_append, cutL_at (bodyL_no h)]

theorem printL_nil : printL [] = [] := rfl
theorem printL_cons (x : In5) (l : List In5) : printL (x :: l) = bodyL x ++ 10 :: printL l := by
  show lineL x ++ printL l = _
  rw [lineL, List.append_assoc]
  rfl
theorem printL_append (l r : List In5) : printL (l ++ r) = printL l ++ printL r := by simp [printL]

/-- A text that begins as one that is printed goes on as one. -/
theorem printL_split : ∀ (l l' : List In5) (s : List UInt8), (∀ x ∈ l, okX x) → (∀ x ∈ l', okX x) → printL l' = printL l ++ s → ∃ r, l' = l ++ r ∧ printL r = s
  | [], l', s, _, _, h => ⟨l', rfl, h⟩
  | x :: l, [], s, _, _, h => by
    rw [printL_nil, printL_cons] at h
    simp at h
  | x :: l, y :: l', s, h1, h2, h => by
    have hx := h1 x (by simp)
    have hy := h2 y (by simp)
    have e1 := cutL_print y l' hy
    rw [h, printL_cons, List.append_assoc, List.cons_append, cutL_at (bodyL_no hx)] at e1
    simp only [Prod.mk.injEq, and_true] at e1
    obtain ⟨e1, e2⟩ := e1
    have hxy : x = y := by
      have := parseX_whole hx
      rw [e1, parseX_whole hy] at this
      injection this with this
      exact this.symm
    subst hxy
    obtain ⟨r, hr, hs⟩ := printL_split l l' s (fun z hz => h1 z (by simp [hz])) (fun z hz => h2 z (by simp [hz])) e2.symm
    exact ⟨r, by rw [hr]; rfl, hs⟩

theorem printL_inj {l l' : List In5} (h1 : ∀ x ∈ l, okX x) (h2 : ∀ x ∈ l', okX x) (h : printL l' = printL l) : l' = l := by
  obtain ⟨r, hr, hs⟩ := printL_split l l' [] h1 h2 (by rw [h, List.append_nil])
  cases r with
  | nil => rw [hr, List.append_nil]
  | cons x r =>
    rw [printL_cons] at hs
    simp at hs
end Go.Proofs.YtaagdmompaphiaaGreatDoor

namespace Go.Proofs.YtaagdmompaphiaaGreatDoor
set_option maxRecDepth 100000
open Go.RowKit

/-- The table of forms, cell for cell. -/
def formCells : Array Value := ((List.range 17).flatMap fun op => Value.string ⟨(nameOf op).toArray⟩ :: (kindsOf op).map fun (k : Nat) => Value.int .i64 (k : Int)).toArray

structure CW (w : World) : Prop where
  forms : w.var? Tryz.prog "quadrille/code.forms" = some formCells
  pow : Lib.TabIs Tryz.prog w "internal/strconv.uint64pow10" .u64 Lib.pow10Tab
  es : ∃ te pe, w.cell? ⟨3, 0, none⟩ = some (.iface te pe)
  er : ∃ te pe, w.cell? ⟨4, 0, none⟩ = some (.iface te pe)
  big : 6 ≤ w.heap.size

theorem g_forms : Tryz.prog.globalNamed "quadrille/code.forms" = some 0 := by kernel_rfl
theorem g_pow : Tryz.prog.globalNamed "internal/strconv.uint64pow10" = some 5 := by kernel_rfl

theorem CW.below {w w' : World} {B : Nat} (h : CW w) (hb : Below B w w') (hB : 6 ≤ B) : CW w' := by
  refine ⟨var?_below hb g_forms (by omega) h.forms, var?_below hb g_pow (by omega) h.pow, ?_, ?_, Nat.le_trans h.big hb.size⟩
  · obtain ⟨te, pe, he⟩ := h.es
    exact ⟨te, pe, (hb.cell (p := ⟨3, 0, none⟩) (show 3 < B by omega)).trans he⟩
  · obtain ⟨te, pe, he⟩ := h.er
    exact ⟨te, pe, (hb.cell (p := ⟨4, 0, none⟩) (show 4 < B by omega)).trans he⟩

theorem CW.old {w w' : World} (h : CW w) (hb : Below w.heap.size w w') : CW w' := h.below hb h.big

theorem formCells_name : ∀ op, op < 17 → formCells[op * 5]? = some (.string ⟨(nameOf op).toArray⟩)
  | 0, _ => rfl
  | 1, _ => rfl
  | 2, _ => rfl
  | 3, _ => rfl
  | 4, _ => rfl
  | 5, _ => rfl
  | 6, _ => rfl
  | 7, _ => rfl
  | 8, _ => rfl
  | 9, _ => rfl
  | 10, _ => rfl
  | 11, _ => rfl
  | 12, _ => rfl
  | 13, _ => rfl
  | 14, _ => rfl
  | 15, _ => rfl
  | 16, _ => rfl
  | n + 17, h => absurd h (by omega)
theorem formCells_kind : ∀ op i, op < 17 → i < 4 → formCells[op * 5 + 1 + i]? = some (.int .i64 ((kindsOf op).getD i 0 : Nat))
  | 0, 0, _, _ => rfl
  | 0, 1, _, _ => rfl
  | 0, 2, _, _ => rfl
  | 0, 3, _, _ => rfl
  | 1, 0, _, _ => rfl
  | 1, 1, _, _ => rfl
  | 1, 2, _, _ => rfl
  | 1, 3, _, _ => rfl
  | 2, 0, _, _ => rfl
  | 2, 1, _, _ => rfl
  | 2, 2, _, _ => rfl
  | 2, 3, _, _ => rfl
  | 3, 0, _, _ => rfl
  | 3, 1, _, _ => rfl
  | 3, 2, _, _ => rfl
  | 3, 3, _, _ => rfl
  | 4, 0, _, _ => rfl
  | 4, 1, _, _ => rfl
  | 4, 2, _, _ => rfl
  | 4, 3, _, _ => rfl
  | 5, 0, _, _ => rfl
  | 5, 1, _, _ => rfl
  | 5, 2, _, _ => rfl
  | 5, 3, _, _ => rfl
  | 6, 0, _, _ => rfl
  | 6, 1, _, _ => rfl
  | 6, 2, _, _ => rfl
  | 6, 3, _, _ => rfl
  | 7, 0, _, _ => rfl
  | 7, 1, _, _ => rfl
  | 7, 2, _, _ => rfl
  | 7, 3, _, _ => rfl
  | 8, 0, _, _ => rfl
  | 8, 1, _, _ => rfl
  | 8, 2, _, _ => rfl
  | 8, 3, _, _ => rfl
  | 9, 0, _, _ => rfl
  | 9, 1, _, _ => rfl
  | 9, 2, _, _ => rfl
  | 9, 3, _, _ => rfl
  | 10, 0, _, _ => rfl
  | 10, 1, _, _ => rfl
  | 10, 2, _, _ => rfl
  | 10, 3, _, _ => rfl
  | 11, 0, _, _ => rfl
  | 11, 1, _, _ => rfl
  | 11, 2, _, _ => rfl
  | 11, 3, _, _ => rfl
  | 12, 0, _, _ => rfl
  | 12, 1, _, _ => rfl
  | 12, 2, _, _ => rfl
  | 12, 3, _, _ => rfl
  | 13, 0, _, _ => rfl
  | 13, 1, _, _ => rfl
  | 13, 2, _, _ => rfl
  | 13, 3, _, _ => rfl
  | 14, 0, _, _ => rfl
  | 14, 1, _, _ => rfl
  | 14, 2, _, _ => rfl
  | 14, 3, _, _ => rfl
  | 15, 0, _, _ => rfl
  | 15, 1, _, _ => rfl
  | 15, 2, _, _ => rfl
  | 15, 3, _, _ => rfl
  | 16, 0, _, _ => rfl
  | 16, 1, _, _ => rfl
  | 16, 2, _, _ => rfl
  | 16, 3, _, _ => rfl
  | n + 17, _, h, _ => absurd h (by omega)
  | _, n + 4, _, h => absurd h (by omega)

theorem CW.name {w : World} (h : CW w) (op : Nat) (ho : op < 17) : w.cell? ⟨0, op * 5, none⟩ = some (.string ⟨(nameOf op).toArray⟩) := by
  rw [World.var?_cell g_forms h.forms, formCells_name op ho]
theorem CW.kind {w : World} (h : CW w) (op i : Nat) (ho : op < 17) (hi : i < 4) : w.cell? ⟨0, op * 5 + 1 + i, none⟩ = some (.int .i64 ((kindsOf op).getD i 0 : Nat)) := by
  rw [World.var?_cell g_forms h.forms, formCells_kind op i ho hi]
end Go.Proofs.YtaagdmompaphiaaGreatDoor

namespace Go.Proofs.YtaagdmompaphiaaGreatDoor
set_option maxRecDepth 100000
open Go.RowKit Go.Sort

/-- A text of bytes. -/
def strV (l : List UInt8) : Value := .string ⟨l.toArray⟩

theorem indexByte_no {c : UInt8} : ∀ {s : List UInt8}, c ∉ s → Lib.indexByte s c = -1
  | [], _ => rfl
  | b :: l, h => by
    have hb : (b == c) = false := by simpa using fun e => h (by simp [e])
    have hl : c ∉ l := fun e => h (by simp [e])
    rw [Lib.indexByte, hb, indexByte_no hl]
    rfl

theorem indexByte_at {c : UInt8} : ∀ {a b : List UInt8}, c ∉ a → Lib.indexByte (a ++ c :: b) c = (a.length : Int)
  | [], b, _ => by simp [Lib.indexByte]
  | x :: a, b, h => by
    have hx : (x == c) = false := by simpa using fun e => h (by simp [e])
    have ha : c ∉ a := fun e => h (by simp [e])
    rw [List.cons_append, Lib.indexByte, hx, indexByte_at ha]
    have : ((a.length : Int) == -1) = false := by simp
    simp [this]

set_option maxHeartbeats 1000000 in
theorem scut_any (s : List UInt8) (c : UInt8) (w : World) (hs : s.length ≤ 4294967280) :
    Calls Tryz.prog 77 #[strV s, .string ⟨#[c]⟩] w fun e w' => e = .returned (.tuple #[strV (cutL c s).1, strV (cutL c s).2.1, .bool (cutL c s).2.2]) ∧ ∃ n, w' = w.drewN n := by
  unfold strV
  have hI := Tryz.stringslite_Index_one ⟨s.toArray⟩ c w
  rcases cutL_cases c s with ⟨hn, e⟩ | ⟨a, b, rfl, hn, e⟩
  · rw [e]
    rw [show Lib.indexByte (⟨s.toArray⟩ : ByteArray).data.toList c = -1 by simpa using indexByte_no hn] at hI
    have HI := Lib.hid hI
    clear hI
    go_enter Tryz.func77, Tryz.ntmps77
    go_wp2_with fail
    refine HI.out.mono ?_
    rintro e w' ⟨rfl, rfl⟩
    go_wp2
    go_ret3
    exact ⟨rfl, 0, rfl⟩
  · rw [e]
    rw [show Lib.indexByte (⟨(a ++ c :: b).toArray⟩ : ByteArray).data.toList c = (a.length : Int) by simpa using indexByte_at hn] at hI
    have HI := Lib.hid hI
    have hsz : (⟨(a ++ c :: b).toArray⟩ : ByteArray).size = a.length + (b.length + 1) := by simp [ByteArray.size]
    have x1 : (⟨(a ++ c :: b).toArray⟩ : ByteArray).extract 0 a.length = ⟨a.toArray⟩ := by
      rw [Lib.extract_eq]
      simp
    have x2 : (⟨(a ++ c :: b).toArray⟩ : ByteArray).extract (a.length + 1) (⟨(a ++ c :: b).toArray⟩ : ByteArray).size = ⟨b.toArray⟩ := by
      rw [Lib.extract_eq, hsz]
      simp
      exact List.take_of_length_le (by omega)
    rw [hsz] at x2
    have c1 : (0 : Int) ≤ (a.length : Int) := by omega
    have c2 : (a.length : Int) ≤ ((⟨(a ++ c :: b).toArray⟩ : ByteArray).size : Int) := by rw [hsz]; omega
    have c3 : (0 : Int) ≤ (a.length : Int) + 1 := by omega
    have c4 : (a.length : Int) + 1 ≤ ((⟨(a ++ c :: b).toArray⟩ : ByteArray).size : Int) := by rw [hsz]; omega
    have hw : wrap64 ((a.length : Int) + 1) = (a.length : Int) + 1 := by
      have : (a ++ c :: b).length = a.length + (b.length + 1) := by simp
      unfold wrap64
      omega
    generalize (⟨(a ++ c :: b).toArray⟩ : ByteArray) = S at *
    clear hI
    go_enter Tryz.func77, Tryz.ntmps77
    go_wp2_with fail
    refine HI.out.mono ?_
    rintro e w' ⟨rfl, rfl⟩
    go_wp2
    go_region
    all_goals
      go_wp2
      go_ret3
      exact ⟨rfl, 1, rfl⟩

theorem cut_any (s : List UInt8) (c : UInt8) (w : World) (hs : s.length ≤ 4294967280) :
    Calls Tryz.prog 57 #[strV s, .string ⟨#[c]⟩] w fun e w' => e = .returned (.tuple #[strV (cutL c s).1, strV (cutL c s).2.1, .bool (cutL c s).2.2]) ∧ ∃ n, w' = w.drewN n := by
  have HI := Lib.hid (scut_any s c w hs)
  unfold strV at HI ⊢
  go_enter Tryz.func57, Tryz.ntmps57
  go_wp2_with fail
  refine HI.out.mono ?_
  rintro e w' ⟨rfl, n, rfl⟩
  go_wp2
  go_ret3
  exact ⟨rfl, n, rfl⟩

theorem old_bytes {w w' : World} (h : w' = w ∨ ∃ t, w' = Lib.bytesWorld w 5 t) : Below w.heap.size w w' := by
  rcases h with rfl | ⟨t, rfl⟩
  · exact Below.refl _ _
  · exact Lib.below_freeze ((Below.refl w.heap.size w).drew.alloc (Nat.le_refl _) _) (p := ⟨w.heap.size, _, none⟩) (Nat.le_refl _) _

theorem old_grow {w w' : World} (h : ∃ k os, w' = grow (w.drewN k) os) : Below w.heap.size w w' := by
  obtain ⟨k, os, rfl⟩ := h
  exact below_drewN (Below.refl _ _) k |>.trans ⟨rfl, rfl, rfl, by simp [grow], fun i hi => by
    show ((w.drewN k).heap ++ os)[i]? = _
    rw [Array.getElem?_append_left (by simpa using hi)]⟩

theorem itoa_any (n : Int) (hn : isInt n) (w : World) (h : CW w) : Calls Tryz.prog 107 #[.int .i64 n] w fun e w' => e = .returned (strV (Lib.itoa n)) ∧ Below w.heap.size w w' :=
  (Tryz.strconv_Itoa n hn.1 hn.2 w h.pow).mono fun _ _ ⟨he, hg⟩ => ⟨he, old_grow hg⟩

/-- What Atoi tells: a number and no error, or an error. -/
def ToldNum (s : List UInt8) (w : World) (e : Ending) (w' : World) : Prop := Below w.heap.size w w' ∧
  ((∃ n, Lib.atoiAll s = .ok n ∧ e = .returned (.tuple #[.int .i64 n, .nilIface])) ∨ ((∀ n, Lib.atoiAll s ≠ .ok n) ∧ ∃ n N, e = .returned (.tuple #[.int .i64 n, .iface 211 (.pointer (some ⟨N, 0, none⟩))])))

theorem atoi_any (s : List UInt8) (hs : s.length ≤ 4294967280) (w : World) (h : CW w) : Calls Tryz.prog 106 #[strV s] w (ToldNum s w) := by
  have hd : (⟨s.toArray⟩ : ByteArray).data.toList = s := by simp
  have hz : (⟨s.toArray⟩ : ByteArray).size = s.length := by simp [ByteArray.size]
  obtain ⟨t1, p1, hes⟩ := h.es
  obtain ⟨t2, p2, her⟩ := h.er
  rcases hr : Lib.atoiAll s with v | _ | _
  · exact (Tryz.strconv_Atoi_ok ⟨s.toArray⟩ (by omega) v (by rw [hd]; exact hr) w).mono fun _ _ ⟨he, hw⟩ => ⟨old_bytes hw, .inl ⟨v, hr, he⟩⟩
  · exact (Tryz.strconv_Atoi_syntax ⟨s.toArray⟩ (by omega) (by rw [hd, hr]; intro v hv; cases hv) (by rw [hd, hr]; intro hv; cases hv) _ w hes (.inr ⟨_, _, rfl⟩)).mono fun _ _ ⟨N, he, _, _, hb⟩ => ⟨hb, .inr ⟨(fun n hn => by rw [hr] at hn; cases hn), _, N, he⟩⟩
  · exact (Tryz.strconv_Atoi_range ⟨s.toArray⟩ (by omega) (by rw [hd]; exact hr) _ w her (.inr ⟨_, _, rfl⟩)).mono fun _ _ ⟨N, he, _, _, hb⟩ => ⟨hb, .inr ⟨(fun n hn => by rw [hr] at hn; cases hn), _, N, he⟩⟩

/-- What a word is told to be. -/
def ToldWord (s : List UInt8) (w : World) (e : Ending) (w' : World) : Prop := Below w.heap.size w w' ∧ ∃ m b, e = .returned (.tuple #[.int .i64 m, .bool b]) ∧ ((b = true ∧ numL s = some m) ∨ (b = false ∧ numL s = none))

set_option maxHeartbeats 1000000 in
theorem parseNumber_any (s : List UInt8) (hs : s.length ≤ 4294967280) (w : World) (h : CW w) : Calls Tryz.prog 79 #[strV s] w (ToldWord s w) := by
  have HA := Lib.hid (atoi_any s hs w h)
  have HC := Lib.hid h
  clear h
  unfold strV at HA ⊢
  go_enter Tryz.func79, Tryz.ntmps79
  go_wp2_with fail
  refine HA.out.mono ?_
  rintro e w1 ⟨hb, ⟨n, hn, rfl⟩ | ⟨hn, n, N, rfl⟩⟩
  · have HI := Lib.hid (itoa_any n (atoiAll_int hn) w1 (HC.out.old hb))
    by_cases he : Lib.itoa n = s
    · have hN : numL s = some n := by unfold numL; rw [hn]; simp [he]
      go_wp2_with fail
      refine HI.out.mono ?_
      rintro e w2 ⟨rfl, hb2⟩
      unfold strV
      rw [he]
      go_wp2
      go_ret2
      exact ⟨hb.trans (hb2.mono hb.size), n, true, rfl, .inl ⟨rfl, hN⟩⟩
    · have hN : numL s = none := by unfold numL; rw [hn]; simp [he]
      have hnb : ((⟨(Lib.itoa n).toArray⟩ : ByteArray).toList == (⟨s.toArray⟩ : ByteArray).toList) = false := by
        rw [Lib.toList_data, Lib.toList_data]
        simpa using he
      go_wp2_with fail
      refine HI.out.mono ?_
      rintro e w2 ⟨rfl, hb2⟩
      unfold strV
      generalize (⟨(Lib.itoa n).toArray⟩ : ByteArray) = S at *
      generalize (⟨s.toArray⟩ : ByteArray) = T at *
      go_wp2
      go_ret2
      exact ⟨hb.trans (hb2.mono hb.size), 0, false, rfl, .inr ⟨rfl, hN⟩⟩
  · have hN : numL s = none := by
      unfold numL
      rcases hr : Lib.atoiAll s with v | _ | _
      · exact absurd hr (hn v)
      all_goals rfl
    go_wp2
    go_ret2
    exact ⟨hb, 0, false, rfl, .inr ⟨rfl, hN⟩⟩
end Go.Proofs.YtaagdmompaphiaaGreatDoor

namespace Go.Proofs.YtaagdmompaphiaaGreatDoor
set_option maxRecDepth 100000
open Go.RowKit Go.Sort

def ToldOp (s : List UInt8) (w : World) (e : Ending) (w' : World) : Prop := Below w.heap.size w w' ∧
  ((∃ op : Nat, namedL s = some op ∧ e = .returned (.tuple #[.int .i64 op, .bool true])) ∨ (namedL s = none ∧ e = .returned (.tuple #[.int .i64 0, .bool false])))

/-- One form out of the table. -/
def formV (i : Nat) : Value := .agg #[strV (nameOf i), .int .i64 ((kindsOf i).getD 0 0 : Nat), .int .i64 ((kindsOf i).getD 1 0 : Nat), .int .i64 ((kindsOf i).getD 2 0 : Nat), .int .i64 ((kindsOf i).getD 3 0 : Nat)]

theorem index_form : ∀ (i : Nat), i < 17 → ∀ w : World, (Instr.index 123 (.agg formCells.toList.toArray) (.int .i64 (i : Int))).run Tryz.prog w = .ok (formV i) w
  | 0, _ => fun _ => by kernel_rfl
  | 1, _ => fun _ => by kernel_rfl
  | 2, _ => fun _ => by kernel_rfl
  | 3, _ => fun _ => by kernel_rfl
  | 4, _ => fun _ => by kernel_rfl
  | 5, _ => fun _ => by kernel_rfl
  | 6, _ => fun _ => by kernel_rfl
  | 7, _ => fun _ => by kernel_rfl
  | 8, _ => fun _ => by kernel_rfl
  | 9, _ => fun _ => by kernel_rfl
  | 10, _ => fun _ => by kernel_rfl
  | 11, _ => fun _ => by kernel_rfl
  | 12, _ => fun _ => by kernel_rfl
  | 13, _ => fun _ => by kernel_rfl
  | 14, _ => fun _ => by kernel_rfl
  | 15, _ => fun _ => by kernel_rfl
  | 16, _ => fun _ => by kernel_rfl
  | n + 17, h => absurd h (by omega)

set_option maxHeartbeats 1000000 in
theorem named_any (s : List UInt8) (w : World) (h : CW w) : Calls Tryz.prog 78 #[strV s] w (ToldOp s w) := by
  have HC := Lib.hid h
  clear h
  unfold strV
  go_enter Tryz.func78, Tryz.ntmps78
  go_wp2
  refine wp_load_mid 123 (.global 0) rfl 0 0 rfl formCells.toList _ ?hc Tryz.underlying123 rfl (by kernel_rfl) ?_
  case hc =>
    intro j v hv
    rw [World.var?_cell g_forms HC.out.forms]
    simpa using hv
  generalize hF : formCells.toList.toArray = F
  go_wp2
  go_loopw [7] (fun j wr => ∃ i : Nat, i ≤ 17 ∧ j = .int .i64 i ∧ (∀ k, k < i → nameOf k ≠ s) ∧ Below w.heap.size w wr) (fun j _ => 17 - (intOf j).toNat)
  case atStart => exact ⟨0, Nat.zero_le _, rfl, (fun k hk => absurd hk (Nat.not_lt_zero _)), Below.refl _ _⟩
  case round =>
    obtain ⟨i, hi, rfl, hno, hb⟩ := hrel
    by_cases hlt : i < 17
    · have hii : (i : Int) < 17 := by omega
      have hix := index_form i hlt
      rw [hF] at hix
      unfold formV strV at hix
      have hg := World.grownBy_alloc wr (.cells #[.string ⟨(nameOf i).toArray⟩, .int .i64 ((kindsOf i).getD 0 0 : Nat), .int .i64 ((kindsOf i).getD 1 0 : Nat), .int .i64 ((kindsOf i).getD 2 0 : Nat), .int .i64 ((kindsOf i).getD 3 0 : Nat)] 122) none
      have hb1 := hb.grown hg hb.size (by intro k hk; cases hk)
      by_cases he : nameOf i = s
      · have hop : namedL s = some i := by rw [← he]; exact namedL_name i hlt
        have hnb : ((⟨(nameOf i).toArray⟩ : ByteArray).toList == (⟨s.toArray⟩ : ByteArray).toList) = true := by
          rw [he]
          exact beq_self_eq_true _
        generalize (⟨(nameOf i).toArray⟩ : ByteArray) = S at *
        generalize (⟨s.toArray⟩ : ByteArray) = T at *
        go_wp2
        go_ret2
        exact ⟨hb1, .inl ⟨i, hop, rfl⟩⟩
      · have hnb : ((⟨(nameOf i).toArray⟩ : ByteArray).toList == (⟨s.toArray⟩ : ByteArray).toList) = false := by
          rw [Lib.toList_data, Lib.toList_data]
          simpa using he
        generalize (⟨(nameOf i).toArray⟩ : ByteArray) = S at *
        generalize (⟨s.toArray⟩ : ByteArray) = T at *
        go_wp2
        go_roundw
        case rel => exact ⟨i + 1, by omega, by go_num, fun k hk => by
          rcases Nat.lt_or_ge k i with h | h
          · exact hno k h
          · obtain rfl : k = i := by omega
            exact he, hb1⟩
        case measure => simp [intOf]; omega
    · obtain rfl : i = 17 := by omega
      have hnone : namedL s = none := by
        unfold namedL
        rw [List.find?_eq_none]
        intro k hk
        simpa using hno k (List.mem_range.1 hk)
      go_wp2
      go_ret2
      exact ⟨hb, .inr ⟨hnone, rfl⟩⟩
end Go.Proofs.YtaagdmompaphiaaGreatDoor

namespace Go.Proofs.YtaagdmompaphiaaGreatDoor
set_option maxRecDepth 100000
open Go.RowKit Go.Sort

/-- An instruction as a value. -/
def insV (x : In5) : Value := .agg #[.int .i64 x.1, .int .i64 x.2.1, .int .i64 x.2.2.1, .int .i64 x.2.2.2.1, .int .i64 x.2.2.2.2]

theorem known_yes (op : Nat) (h : op < 17) (w : World) : Calls Tryz.prog 38 #[.int .i64 op] w fun e w' => e = .returned (.bool true) ∧ w = w' := by
  have h0 : (0 : Int) ≤ (op : Int) := by omega
  have h1 : (op : Int) < 17 := by omega
  go_enter Tryz.func38, Tryz.ntmps38
  go_wp2
  go_ret
  exact ⟨rfl, rfl⟩

theorem known_no (op : Int) (h : op < 0 ∨ 17 ≤ op) (w : World) : Calls Tryz.prog 38 #[.int .i64 op] w fun e w' => e = .returned (.bool false) ∧ w = w' := by
  by_cases h0 : 0 ≤ op
  · have h1 : ¬ op < 17 := by omega
    clear h
    go_enter Tryz.func38, Tryz.ntmps38
    go_wp2
    go_ret
    exact ⟨rfl, rfl⟩
  · clear h
    go_enter Tryz.func38, Tryz.ntmps38
    go_wp2
    go_ret
    exact ⟨rfl, rfl⟩

/-- The least and the most that a number of a kind may be. -/
def boundsL (k : Nat) (n cells : Int) : Int × Int :=
  match k with
  | 1 => (0, 7)
  | 2 => (0, cells - 1)
  | 3 => (-9223372036854775808, 9223372036854775807)
  | 4 => (0, n - 1)
  | 5 => (-1, 7)
  | 6 => (0, 63)
  | 7 => (1, 63)
  | _ => (0, 0)

set_option maxHeartbeats 1000000 in
theorem bounds_any (k : Nat) (hk : k < 8) (n cells : Int) (hn0 : 0 ≤ n) (hn1 : n ≤ 600) (hc0 : 0 ≤ cells) (hc1 : cells ≤ 300) (w : World) :
    Calls Tryz.prog 61 #[.int .i64 k, .int .i64 n, .int .i64 cells] w fun e w' => e = .returned (.tuple #[.int .i64 (boundsL k n cells).1, .int .i64 (boundsL k n cells).2]) ∧ w = w' := by
  have wc : wrap64 (cells - 1) = cells - 1 := by unfold wrap64; omega
  have wn : wrap64 (n - 1) = n - 1 := by unfold wrap64; omega
  match k, hk with
  | 0, _ =>
    go_enter Tryz.func61, Tryz.ntmps61
    go_wp2
    go_ret2
    exact ⟨rfl, rfl⟩
  | 1, _ =>
    go_enter Tryz.func61, Tryz.ntmps61
    go_wp2
    go_ret2
    exact ⟨rfl, rfl⟩
  | 2, _ =>
    go_enter Tryz.func61, Tryz.ntmps61
    go_wp2
    go_ret2
    exact ⟨rfl, rfl⟩
  | 3, _ =>
    go_enter Tryz.func61, Tryz.ntmps61
    go_wp2
    go_ret2
    exact ⟨rfl, rfl⟩
  | 4, _ =>
    go_enter Tryz.func61, Tryz.ntmps61
    go_wp2
    go_ret2
    exact ⟨rfl, rfl⟩
  | 5, _ =>
    go_enter Tryz.func61, Tryz.ntmps61
    go_wp2
    go_ret2
    exact ⟨rfl, rfl⟩
  | 6, _ =>
    go_enter Tryz.func61, Tryz.ntmps61
    go_wp2
    go_ret2
    exact ⟨rfl, rfl⟩
  | 7, _ =>
    go_enter Tryz.func61, Tryz.ntmps61
    go_wp2
    go_ret2
    exact ⟨rfl, rfl⟩

theorem numbers_any (x : In5) (w : World) : Calls Tryz.prog 60 #[insV x] w fun e w' => e = .returned (.agg #[.int .i64 x.2.1, .int .i64 x.2.2.1, .int .i64 x.2.2.2.1, .int .i64 x.2.2.2.2]) ∧ w.grownBy w' none := by
  obtain ⟨o, a, b, c, d⟩ := x
  unfold insV
  go_enter Tryz.func60, Tryz.ntmps60
  go_wp2
  refine bodyPost_ret (v := .agg #[.int .i64 a, .int .i64 b, .int .i64 c, .int .i64 d]) (by simp [results, Tryz.results60, go_sem]) rfl ⟨rfl, ?_⟩
  exact (World.grownBy_alloc w _ none).andThen (World.grownBy_alloc _ _ none) (by intro j hj; cases hj)
/-- A program, cell for cell. -/
def cells5 (l : List In5) : List Value := l.flatMap fun x => [.int .i64 x.1, .int .i64 x.2.1, .int .i64 x.2.2.1, .int .i64 x.2.2.2.1, .int .i64 x.2.2.2.2]

theorem cells5_append (l r : List In5) : cells5 (l ++ r) = cells5 l ++ cells5 r := by simp [cells5]
theorem cells5_one (x : In5) : cells5 [x] = [.int .i64 x.1, .int .i64 x.2.1, .int .i64 x.2.2.1, .int .i64 x.2.2.2.1, .int .i64 x.2.2.2.2] := by simp [cells5]

theorem infoIns : (Tryz.prog.info? 81).map (fun i => (i.zero, i.size, i.bytes)) = some (some (.agg #[.int .i64 0, .int .i64 0, .int .i64 0, .int .i64 0, .int .i64 0]), 5, 40) := by kernel_rfl

theorem own_form {w : World} {B e sz : Nat} {v : Value} {n : Nat} {xs : List Value} (h : w.ownsRow B e sz v n xs) : ∃ A c, v = .slice A n c := by
  rcases h.2 with ⟨rfl, rfl⟩ | ⟨g, cap, _, rfl, _⟩
  · exact ⟨none, 0, rfl⟩
  · exact ⟨_, _, rfl⟩
theorem grown_of_old {w w' : World} (hb : Below w.heap.size w w') : w.grownBy w' none := ⟨hb.os, hb.tape, hb.output, hb.size, fun k hk _ => hb.block k hk⟩
end Go.Proofs.YtaagdmompaphiaaGreatDoor

namespace Go.Proofs.YtaagdmompaphiaaGreatDoor
set_option maxRecDepth 100000
open Go.RowKit Go.Sort

theorem argsL_step (ks : List Nat) (i : Nat) (hi : i < ks.length) (r : List UInt8) (m : Bool) : argsL (ks.drop i) r m = (if ks.getD i 0 = 0 then (argsL (ks.drop (i + 1)) r m).map fun y => (0 :: y.1, y.2) else if m = false then none else match numL (cutL 32 r).1 with
    | none => none
    | some n => (argsL (ks.drop (i + 1)) (cutL 32 r).2.1 (cutL 32 r).2.2).map fun y => (n :: y.1, y.2)) := by
  rw [List.drop_eq_getElem_cons hi, argsL]
  have : ks.getD i 0 = ks[i] := by rw [List.getD_eq_getElem?_getD, List.getElem?_eq_getElem hi]; rfl
  rw [this]
  all_goals rfl

theorem cutL_le (c : UInt8) (s : List UInt8) : (cutL c s).1.length ≤ s.length ∧ (cutL c s).2.1.length ≤ s.length := by
  rcases cutL_cases c s with ⟨_, e⟩ | ⟨a, b, e, _, ec⟩
  · rw [e]; simp
  · rw [ec, e]; simp; omega

/-- The four numbers' cells, i of them told. -/
def fourL (pre : List Int) : List Int := pre ++ List.replicate (4 - pre.length) 0
def fourC (pre : List Int) : Array Value := ((fourL pre).map (Value.int .i64)).toArray

theorem fourL_len {pre : List Int} (h : pre.length ≤ 4) : (fourL pre).length = 4 := by
  unfold fourL
  simp
  omega

theorem fourC_set {pre : List Int} (h : pre.length < 4) (n : Int) : (fourC pre).setIfInBounds pre.length (.int .i64 n) = fourC (pre ++ [n]) := by
  have e : 4 - pre.length = (4 - (pre.length + 1)) + 1 := by omega
  unfold fourC fourL
  rw [List.setIfInBounds_toArray]
  congr 1
  rw [e, List.replicate_succ, List.map_append, List.map_cons, List.set_append_right _ _ (by simp)]
  simp

theorem fourC_at {pre : List Int} (h : pre.length ≤ 4) (i : Nat) (hi : i < 4) : (fourC pre)[i]? = some (.int .i64 ((fourL pre).getD i 0)) := by
  have hl := fourL_len h
  unfold fourC
  rw [List.getElem?_toArray, List.getElem?_map, List.getD_eq_getElem?_getD, List.getElem?_eq_getElem (by omega)]
  rfl

theorem fourC_zero {pre : List Int} (h : pre.length < 4) : fourC (pre ++ [0]) = fourC pre := by
  have e : 4 - pre.length = (4 - (pre.length + 1)) + 1 := by omega
  unfold fourC fourL
  rw [e, List.replicate_succ]
  simp

/-- What holds at each head of parseLine's loop. -/
structure LineInv (w wr : World) (rb lb : Nat) (ks : List Nat) (r0 : List UInt8) (m0 : Bool) (pre : List Int) (r : List UInt8) (m : Bool) : Prop where
  len : pre.length ≤ 4
  args : argsL ks r0 m0 = (argsL (ks.drop pre.length) r m).map fun y => (pre ++ y.1, y.2)
  l : wr.heap[lb]? = some (.cells (fourC pre) 115 (0, 0))
  x : wr.heap[rb]? = some (.cells #[.int .i64 0, .int .i64 0, .int .i64 0, .int .i64 0, .int .i64 0] 81 (0, 0))
  old : Below w.heap.size w wr
  lo : w.heap.size ≤ rb ∧ w.heap.size ≤ lb
  small : r.length ≤ 4294967280

/-- What a line is told to be. -/
def ToldLine (s : List UInt8) (w : World) (e : Ending) (w' : World) : Prop := Below w.heap.size w w' ∧
  ∃ y b, e = .returned (.tuple #[insV y, .bool b]) ∧ ((b = true ∧ parseX s = some y) ∨ (b = false ∧ parseX s = none))

theorem index_kinds (a b c d : Nat) : ∀ (i : Nat), i < 4 → ∀ w : World, (Instr.index 120 (.agg #[.int .i64 a, .int .i64 b, .int .i64 c, .int .i64 d]) (.int .i64 (i : Int))).run Tryz.prog w = .ok (.int .i64 (([a, b, c, d].getD i 0 : Nat) : Int)) w
  | 0, _ => fun _ => by kernel_rfl
  | 1, _ => fun _ => by kernel_rfl
  | 2, _ => fun _ => by kernel_rfl
  | 3, _ => fun _ => by kernel_rfl
  | n + 4, h => absurd h (by omega)

/-- A whole instruction, stored cell by cell. -/
def set5 (w : World) (rb : Nat) (y : In5) : World :=
  ((((w.setCell ⟨rb, 0, none⟩ (.int .i64 y.1)).setCell ⟨rb, 1, none⟩ (.int .i64 y.2.1)).setCell ⟨rb, 2, none⟩ (.int .i64 y.2.2.1)).setCell ⟨rb, 3, none⟩ (.int .i64 y.2.2.2.1)).setCell ⟨rb, 4, none⟩ (.int .i64 y.2.2.2.2)

theorem set5_row {w : World} {rb : Nat} (y : In5) (h : w.heap[rb]? = some (.cells #[.int .i64 0, .int .i64 0, .int .i64 0, .int .i64 0, .int .i64 0] 81 (0, 0))) :
    (set5 w rb y).heap[rb]? = some (.cells #[.int .i64 y.1, .int .i64 y.2.1, .int .i64 y.2.2.1, .int .i64 y.2.2.2.1, .int .i64 y.2.2.2.2] 81 (0, 0)) :=
  heap_setCell_same _ rb 4 _ _ _ (heap_setCell_same _ rb 3 _ _ _ (heap_setCell_same _ rb 2 _ _ _ (heap_setCell_same _ rb 1 _ _ _ (heap_setCell_same _ rb 0 _ _ _ h))))

theorem set5_below {w0 w : World} {B rb : Nat} (y : In5) (h : Below B w0 w) (hB : B ≤ rb) : Below B w0 (set5 w rb y) :=
  ((((h.setCell (p := ⟨rb, 0, none⟩) hB _).setCell (p := ⟨rb, 1, none⟩) hB _).setCell (p := ⟨rb, 2, none⟩) hB _).setCell (p := ⟨rb, 3, none⟩) hB _).setCell (p := ⟨rb, 4, none⟩) hB _

theorem line_result {tmps : Array Value} {w : World} {rb : Nat} {y : In5} {b : Bool} (h2 : tmps.getD 2 undef = .pointer (some ⟨rb, 0, none⟩)) (h3 : tmps.getD 3 undef = .bool b)
    (hr : w.heap[rb]? = some (.cells #[.int .i64 y.1, .int .i64 y.2.1, .int .i64 y.2.2.1, .int .i64 y.2.2.2.1, .int .i64 y.2.2.2.2] 81 (0, 0))) :
    (results Tryz.f58 tmps).run Tryz.prog w = .ok (.tuple #[insV y, .bool b]) w := by
  have c0 : w.cell? ⟨rb, 0, none⟩ = some (.int .i64 y.1) := by rw [cell_of_row w rb 0 _ _ _ hr]; rfl
  have c1 : w.cell? ⟨rb, 1, none⟩ = some (.int .i64 y.2.1) := by rw [cell_of_row w rb 1 _ _ _ hr]; rfl
  have c2 : w.cell? ⟨rb, 2, none⟩ = some (.int .i64 y.2.2.1) := by rw [cell_of_row w rb 2 _ _ _ hr]; rfl
  have c3 : w.cell? ⟨rb, 3, none⟩ = some (.int .i64 y.2.2.2.1) := by rw [cell_of_row w rb 3 _ _ _ hr]; rfl
  have c4 : w.cell? ⟨rb, 4, none⟩ = some (.int .i64 y.2.2.2.2) := by rw [cell_of_row w rb 4 _ _ _ hr]; rfl
  simp only [Array.getD_eq_getD_getElem?] at h2 h3
  simp [results, Tryz.results58, go_sem, h2, h3, c0, c1, c2, c3, c4, insV]

set_option maxHeartbeats 2000000 in
theorem parseLine_any (s : List UInt8) (hs : s.length ≤ 4294967280) (w : World) (h : CW w) : Calls Tryz.prog 58 #[strV s] w (ToldLine s w) := by
  have HC := Lib.hid h
  have hcl := cutL_le 32 s
  have HCut := Lib.hid (fun w => cut_any s 32 w hs)
  have hPX : parseX s = parseX s := rfl
  conv at hPX => rhs; unfold parseX
  obtain ⟨nm, hnm⟩ : ∃ a, (cutL 32 s).1 = a := ⟨_, rfl⟩
  obtain ⟨r0, hr0⟩ : ∃ a, (cutL 32 s).2.1 = a := ⟨_, rfl⟩
  obtain ⟨m0, hm0⟩ : ∃ a, (cutL 32 s).2.2 = a := ⟨_, rfl⟩
  rw [hnm, hr0] at hcl
  rw [hnm, hr0, hm0] at hPX
  have HCut' := Lib.hid (fun w => (by have := HCut.out w; rw [hnm, hr0, hm0] at this; exact this : Calls Tryz.prog 57 #[strV s, .string ⟨#[32]⟩] w fun e w' => e = .returned (.tuple #[strV nm, strV r0, .bool m0]) ∧ ∃ n, w' = w.drewN n))
  have HP := Lib.hid hPX
  clear h hnm hr0 hm0 HCut hPX
  unfold strV at HCut' ⊢
  go_enter Tryz.func58, Tryz.ntmps58
  go_wp2_with fail
  refine (HCut'.out _).mono ?_
  rintro e w1 ⟨rfl, hq⟩
  have hx1 : w1.heap[w.heap.size]? = some (.cells #[.int .i64 0, .int .i64 0, .int .i64 0, .int .i64 0, .int .i64 0] 81 (0, 0)) := by
    obtain ⟨q, rfl⟩ := hq
    exact heap_alloc_new w _
  have hb1 : Below w.heap.size w w1 := by
    obtain ⟨q, rfl⟩ := hq
    exact below_drewN ((Below.refl w.heap.size w).alloc (Nat.le_refl _) _) q
  clear hq
  obtain ⟨rb, hrb⟩ : ∃ rb, w.heap.size = rb := ⟨_, rfl⟩
  have hlo : w.heap.size ≤ rb := by omega
  rw [hrb] at hx1
  have HN := Lib.hid (named_any nm w1 (HC.out.old hb1))
  unfold strV at HN
  rw [hrb]
  clear hrb
  go_wp2_with fail
  refine HN.out.mono ?_
  rintro e w2 ⟨hb2, ⟨op, hop, rfl⟩ | ⟨hop, rfl⟩⟩
  · obtain ⟨ho, hnm⟩ := namedL_some hop
    have hx2 := (hb2.block rb (lt_of_block hx1)).trans hx1
    have hbb := hb1.trans (hb2.mono hb1.size)
    have hC2 := HC.out.old hbb
    have hrb2 := lt_of_block hx2
    have k0 : w2.cell? ⟨0, op * 5 + 1, none⟩ = _ := hC2.kind op 0 ho (by omega)
    have hne0 : 0 ≠ w2.heap.size := by have := hC2.big; omega
    have hpos0 : 0 < w2.heap.size := by have := hC2.big; omega
    have hne1 : rb ≠ w2.heap.size := by omega
    have k1 := hC2.kind op 1 ho (by omega)
    have k2 := hC2.kind op 2 ho (by omega)
    have k3 := hC2.kind op 3 ho (by omega)
    have hkl := kinds_len op ho
    have hop17 : (op : Int) < 17 := by omega
    have hop0 : (0 : Int) ≤ (op : Int) := by omega
    have hP : parseX s = match argsL (kindsOf op) r0 m0 with | none => none | some y => if y.2 then none else some (toX op y.1) := by
      rw [HP.out, hop]
      all_goals rfl
    have HX := Lib.hid hx2
    have HBB := Lib.hid hbb
    have HP2 := Lib.hid hP
    clear hx2 hbb hP hb1 hb2 hx1 HN HP HCut' hC2
    generalize kindsOf op = ks at *
    obtain ⟨ka, kb, kc, kd, rfl⟩ : ∃ a b c d, ks = [a, b, c, d] := by
      match ks, hkl with
      | [a, b, c, d], _ => exact ⟨a, b, c, d, rfl⟩
    have HK := Lib.hid (index_kinds ka kb kc kd)
    go_wp2
    have hI : LineInv w (w2.alloc (.cells #[.int .i64 0, .int .i64 0, .int .i64 0, .int .i64 0] 115)) rb w2.heap.size [ka, kb, kc, kd] r0 m0 [] r0 m0 := by
      refine ⟨Nat.zero_le _, ?_, heap_alloc_new w2 _, (heap_alloc_old w2 _ hrb2).trans HX.out, HBB.out.alloc HBB.out.size _, ⟨hlo, HBB.out.size⟩, by omega⟩
      cases h : argsL ([ka, kb, kc, kd].drop ([] : List Int).length) r0 m0 with
      | none => exact h
      | some y => exact h
    obtain ⟨lb, hlb⟩ : ∃ lb, w2.heap.size = lb := ⟨_, rfl⟩
    have HI := Lib.hid hI
    rw [hlb] at HI
    clear hI k0 k1 k2 k3 HX HBB hne0 hpos0 hrb2 hcl
    rw [hlb] at hne1 ⊢
    clear hlb
    go_loopw [5, 6, 31] (fun rv mv j wr => ∃ pre r m, LineInv w wr rb lb [ka, kb, kc, kd] r0 m0 pre r m ∧ rv = .string ⟨r.toArray⟩ ∧ mv = .bool m ∧ j = .int .i64 (pre.length : Int)) (fun _ _ j _ => 4 - (intOf j).toNat)
    case atStart => exact ⟨[], r0, m0, HI.out, rfl, rfl, rfl⟩
    case round =>
      obtain ⟨pre, r, m, hJ, rfl, rfl, rfl⟩ := hrel
      clear HI
      have hJl := hJ.len
      by_cases hlt : pre.length < 4
      · have hii : (pre.length : Int) < 4 := by omega
        have hix := HK.out pre.length hlt
        have hst := argsL_step [ka, kb, kc, kd] pre.length (by simpa using hlt) r m
        obtain ⟨k, hk⟩ : ∃ k, [ka, kb, kc, kd].getD pre.length 0 = k := ⟨_, rfl⟩
        rw [hk] at hix hst
        have HST := Lib.hid hst
        clear hst hk
        by_cases hk0 : k = 0
        · subst hk0
          have HJ := Lib.hid (show LineInv w wr rb lb [ka, kb, kc, kd] r0 m0 (pre ++ [0]) r m from ⟨by rw [List.length_append, List.length_singleton]; omega, by
            rw [hJ.args, HST.out, if_pos rfl, Option.map_map]
            simp only [List.length_append, List.length_singleton]
            congr 1
            funext y
            simp, by rw [fourC_zero hlt]; exact hJ.l, hJ.x, hJ.old, hJ.lo, hJ.small⟩)
          clear hJ HST
          go_wp2
          go_roundw
          case rel => exact ⟨pre ++ [0], r, m, HJ.out, rfl, rfl, by simp⟩
          case measure => simp [intOf]; omega
        · have hkb : ((k : Int) == 0) = false := by
            have : (k : Int) ≠ 0 := by omega
            simpa using hk0
          rw [if_neg hk0] at HST
          cases m with
          | false =>
            rw [if_pos rfl] at HST
            have hrow := hJ.x
            have hA : argsL [ka, kb, kc, kd] r0 m0 = none := by rw [hJ.args, HST.out]; rfl
            have hPn : parseX s = none := by rw [HP2.out, hA]
            have HF := Lib.hid (set5_row (0, 0, 0, 0, 0) hrow)
            have HB := Lib.hid (set5_below (0, 0, 0, 0, 0) hJ.old hlo)
            have f0 := frozen_of_row wr rb 0 _ _ hrow
            have f1 := frozen_of_row wr rb 1 _ _ hrow
            have f2 := frozen_of_row wr rb 2 _ _ hrow
            have f3 := frozen_of_row wr rb 3 _ _ hrow
            have f4 := frozen_of_row wr rb 4 _ _ hrow
            have c0 : wr.cell? ⟨rb, 0, none⟩ = some (.int .i64 0) := by rw [cell_of_row _ rb 0 _ _ _ hrow]; rfl
            have c1 : wr.cell? ⟨rb, 1, none⟩ = some (.int .i64 0) := by rw [cell_of_row _ rb 1 _ _ _ hrow]; rfl
            have c2 : wr.cell? ⟨rb, 2, none⟩ = some (.int .i64 0) := by rw [cell_of_row _ rb 2 _ _ _ hrow]; rfl
            have c3 : wr.cell? ⟨rb, 3, none⟩ = some (.int .i64 0) := by rw [cell_of_row _ rb 3 _ _ _ hrow]; rfl
            have c4 : wr.cell? ⟨rb, 4, none⟩ = some (.int .i64 0) := by rw [cell_of_row _ rb 4 _ _ _ hrow]; rfl
            clear hJ HST hrow
            go_wp2
            exact bodyPost_ret (line_result (y := (0, 0, 0, 0, 0)) (b := false) rfl rfl HF.out) rfl ⟨HB.out, (0, 0, 0, 0, 0), false, rfl, .inr ⟨rfl, hPn⟩⟩
          | true =>
            rw [if_neg (by simp)] at HST
            have hle := cutL_le 32 r
            have hsm := hJ.small
            have HC1 := Lib.hid (fun w => cut_any r 32 w hsm)
            obtain ⟨wd, hwd⟩ : ∃ a, (cutL 32 r).1 = a := ⟨_, rfl⟩
            obtain ⟨r', hr'⟩ : ∃ a, (cutL 32 r).2.1 = a := ⟨_, rfl⟩
            obtain ⟨m', hm'⟩ : ∃ a, (cutL 32 r).2.2 = a := ⟨_, rfl⟩
            rw [hwd, hr'] at hle
            rw [hwd, hr', hm'] at HST
            have HC2 := Lib.hid (fun w => (by have := HC1.out w; rw [hwd, hr', hm'] at this; exact this : Calls Tryz.prog 57 #[strV r, .string ⟨#[32]⟩] w fun e w' => e = .returned (.tuple #[strV wd, strV r', .bool m']) ∧ ∃ n, w' = w.drewN n))
            have HN := Lib.hid (fun w h => parseNumber_any wd (by omega) w h)
            have HJ := Lib.hid hJ
            clear hwd hr' hm' HC1 hJ
            unfold strV at HC2 HN
            go_wp2_with fail
            refine (HC2.out _).mono ?_
            rintro e w3 ⟨rfl, hq⟩
            have hb3 : Below wr.heap.size wr w3 := by
              obtain ⟨q, rfl⟩ := hq
              exact below_drewN (Below.refl _ _) q
            clear hq
            go_wp2_with fail
            refine (HN.out _ ((HC.out.old HJ.out.old).old hb3)).mono ?_
            rintro e w4 ⟨hb4, n, bn, rfl, hn⟩
            have hb34 := hb3.trans (hb4.mono hb3.size)
            have hl4 := (hb34.block lb (lt_of_block HJ.out.l)).trans HJ.out.l
            have hx4 := (hb34.block rb (lt_of_block HJ.out.x)).trans HJ.out.x
            have ho4 : Below w.heap.size w w4 := HJ.out.old.trans (hb34.mono HJ.out.old.size)
            have cl : w4.cell? ⟨lb, pre.length, none⟩ = _ := (cell_of_row _ lb pre.length _ _ _ hl4).trans (fourC_at hJl _ hlt)
            have fl : w4.frozen? ⟨lb, pre.length, none⟩ = false := frozen_of_row _ lb _ _ _ hl4
            have hl5 := heap_setCell_same w4 lb pre.length _ _ (.int .i64 n) hl4
            rw [fourC_set hlt] at hl5
            have hx5 : (w4.setCell ⟨lb, pre.length, none⟩ (.int .i64 n)).heap[rb]? = _ := (heap_setCell_other w4 ⟨lb, pre.length, none⟩ rb (.int .i64 n) hne1).trans hx4
            have ho5 : Below w.heap.size w (w4.setCell ⟨lb, pre.length, none⟩ (.int .i64 n)) := ho4.setCell (p := ⟨lb, pre.length, none⟩) HJ.out.lo.2 _
            rcases hn with ⟨rfl, hn⟩ | ⟨rfl, hn⟩
            · have HJ2 := Lib.hid (show LineInv w (w4.setCell ⟨lb, pre.length, none⟩ (.int .i64 n)) rb lb [ka, kb, kc, kd] r0 m0 (pre ++ [n]) r' m' from ⟨by rw [List.length_append, List.length_singleton]; omega, by
                rw [HJ.out.args, HST.out, hn]
                simp only [Option.map_map, List.length_append, List.length_singleton]
                congr 1
                funext y
                simp, hl5, hx5, ho5, HJ.out.lo, by omega⟩)
              clear HJ HST HC2 HN hl4 hx4 ho4 hl5 hx5 ho5 hb3 hb4 hb34 hn
              go_wp2
              go_roundw
              case rel => exact ⟨pre ++ [n], r', m', HJ2.out, rfl, rfl, by simp⟩
              case measure => simp [intOf]; omega
            · have hA : argsL [ka, kb, kc, kd] r0 m0 = none := by
                rw [HJ.out.args, HST.out, hn]
                rfl
              clear hl4 hx4 ho4 hl5
              have hPn : parseX s = none := by rw [HP2.out, hA]
              have HF := Lib.hid (set5_row (0, 0, 0, 0, 0) hx5)
              have HB := Lib.hid (set5_below (0, 0, 0, 0, 0) ho5 hlo)
              have f0 := frozen_of_row (w4.setCell ⟨lb, pre.length, none⟩ (.int .i64 n)) rb 0 _ _ hx5
              have f1 := frozen_of_row (w4.setCell ⟨lb, pre.length, none⟩ (.int .i64 n)) rb 1 _ _ hx5
              have f2 := frozen_of_row (w4.setCell ⟨lb, pre.length, none⟩ (.int .i64 n)) rb 2 _ _ hx5
              have f3 := frozen_of_row (w4.setCell ⟨lb, pre.length, none⟩ (.int .i64 n)) rb 3 _ _ hx5
              have f4 := frozen_of_row (w4.setCell ⟨lb, pre.length, none⟩ (.int .i64 n)) rb 4 _ _ hx5
              have c0 : (w4.setCell ⟨lb, pre.length, none⟩ (.int .i64 n)).cell? ⟨rb, 0, none⟩ = some (.int .i64 0) := by rw [cell_of_row _ rb 0 _ _ _ hx5]; rfl
              have c1 : (w4.setCell ⟨lb, pre.length, none⟩ (.int .i64 n)).cell? ⟨rb, 1, none⟩ = some (.int .i64 0) := by rw [cell_of_row _ rb 1 _ _ _ hx5]; rfl
              have c2 : (w4.setCell ⟨lb, pre.length, none⟩ (.int .i64 n)).cell? ⟨rb, 2, none⟩ = some (.int .i64 0) := by rw [cell_of_row _ rb 2 _ _ _ hx5]; rfl
              have c3 : (w4.setCell ⟨lb, pre.length, none⟩ (.int .i64 n)).cell? ⟨rb, 3, none⟩ = some (.int .i64 0) := by rw [cell_of_row _ rb 3 _ _ _ hx5]; rfl
              have c4 : (w4.setCell ⟨lb, pre.length, none⟩ (.int .i64 n)).cell? ⟨rb, 4, none⟩ = some (.int .i64 0) := by rw [cell_of_row _ rb 4 _ _ _ hx5]; rfl
              clear HJ HST HC2 HN hx5 ho5 hb3 hb4 hb34 hn
              go_wp2
              exact bodyPost_ret (line_result (y := (0, 0, 0, 0, 0)) (b := false) rfl rfl HF.out) rfl ⟨HB.out, (0, 0, 0, 0, 0), false, rfl, .inr ⟨rfl, hPn⟩⟩
      · have h4 : pre.length = 4 := by omega
        have hii : ¬ (pre.length : Int) < 4 := by omega
        have hrow := hJ.x
        have hl := hJ.l
        have hA : argsL [ka, kb, kc, kd] r0 m0 = some (pre, m) := by
          rw [hJ.args, h4]
          simp [argsL]
        have hF : fourL pre = pre := by unfold fourL; rw [h4]; simp
        have l0 : wr.cell? ⟨lb, 0, none⟩ = some (.int .i64 (pre.getD 0 0)) := by rw [cell_of_row _ lb 0 _ _ _ hl, fourC_at hJl 0 (by omega), hF]
        have l1 : wr.cell? ⟨lb, 1, none⟩ = some (.int .i64 (pre.getD 1 0)) := by rw [cell_of_row _ lb 1 _ _ _ hl, fourC_at hJl 1 (by omega), hF]
        have l2 : wr.cell? ⟨lb, 2, none⟩ = some (.int .i64 (pre.getD 2 0)) := by rw [cell_of_row _ lb 2 _ _ _ hl, fourC_at hJl 2 (by omega), hF]
        have l3 : wr.cell? ⟨lb, 3, none⟩ = some (.int .i64 (pre.getD 3 0)) := by rw [cell_of_row _ lb 3 _ _ _ hl, fourC_at hJl 3 (by omega), hF]
        have hPn : parseX s = if m then none else some (toX op pre) := by rw [HP2.out, hA]
        have HF := Lib.hid (set5_row (toX op pre) hrow)
        have HB := Lib.hid (set5_below (toX op pre) hJ.old hlo)
        unfold toX at HF HB hPn
        generalize pre.getD 0 0 = n0 at *
        generalize pre.getD 1 0 = n1 at *
        generalize pre.getD 2 0 = n2 at *
        generalize pre.getD 3 0 = n3 at *
        have f0 := frozen_of_row wr rb 0 _ _ hrow
        have f1 := frozen_of_row wr rb 1 _ _ hrow
        have f2 := frozen_of_row wr rb 2 _ _ hrow
        have f3 := frozen_of_row wr rb 3 _ _ hrow
        have f4 := frozen_of_row wr rb 4 _ _ hrow
        have c0 : wr.cell? ⟨rb, 0, none⟩ = some (.int .i64 0) := by rw [cell_of_row _ rb 0 _ _ _ hrow]; rfl
        have c1 : wr.cell? ⟨rb, 1, none⟩ = some (.int .i64 0) := by rw [cell_of_row _ rb 1 _ _ _ hrow]; rfl
        have c2 : wr.cell? ⟨rb, 2, none⟩ = some (.int .i64 0) := by rw [cell_of_row _ rb 2 _ _ _ hrow]; rfl
        have c3 : wr.cell? ⟨rb, 3, none⟩ = some (.int .i64 0) := by rw [cell_of_row _ rb 3 _ _ _ hrow]; rfl
        have c4 : wr.cell? ⟨rb, 4, none⟩ = some (.int .i64 0) := by rw [cell_of_row _ rb 4 _ _ _ hrow]; rfl
        clear hJ hl hrow hA hF
        go_wp2
        refine bodyPost_ret (line_result (y := ((op : Int), n0, n1, n2, n3)) (b := !m) rfl rfl HF.out) rfl ⟨HB.out, _, !m, rfl, ?_⟩
        cases m with
        | true => exact .inr ⟨rfl, hPn⟩
        | false => exact .inl ⟨rfl, hPn⟩
  · have hx2 := (hb2.block rb (lt_of_block hx1)).trans hx1
    have hbb := hb1.trans (hb2.mono hb1.size)
    have hP : parseX s = none := by rw [HP.out, hop]
    have f0 := frozen_of_row w2 rb 0 _ _ hx2
    have f1 := frozen_of_row w2 rb 1 _ _ hx2
    have f2 := frozen_of_row w2 rb 2 _ _ hx2
    have f3 := frozen_of_row w2 rb 3 _ _ hx2
    have f4 := frozen_of_row w2 rb 4 _ _ hx2
    have c0 : w2.cell? ⟨rb, 0, none⟩ = some (.int .i64 0) := by rw [cell_of_row w2 rb 0 _ _ _ hx2]; rfl
    have c1 : w2.cell? ⟨rb, 1, none⟩ = some (.int .i64 0) := by rw [cell_of_row w2 rb 1 _ _ _ hx2]; rfl
    have c2 : w2.cell? ⟨rb, 2, none⟩ = some (.int .i64 0) := by rw [cell_of_row w2 rb 2 _ _ _ hx2]; rfl
    have c3 : w2.cell? ⟨rb, 3, none⟩ = some (.int .i64 0) := by rw [cell_of_row w2 rb 3 _ _ _ hx2]; rfl
    have c4 : w2.cell? ⟨rb, 4, none⟩ = some (.int .i64 0) := by rw [cell_of_row w2 rb 4 _ _ _ hx2]; rfl
    have HR := Lib.hid (set5_row (0, 0, 0, 0, 0) hx2)
    have HB := Lib.hid (set5_below (0, 0, 0, 0, 0) hbb hlo)
    clear hx2 hbb hb1 hb2 hx1 HN
    go_wp2
    exact bodyPost_ret (line_result (y := (0, 0, 0, 0, 0)) (b := false) rfl rfl HR.out) rfl ⟨HB.out, (0, 0, 0, 0, 0), false, rfl, .inr ⟨rfl, hP⟩⟩
end Go.Proofs.YtaagdmompaphiaaGreatDoor

namespace Go.Proofs.YtaagdmompaphiaaGreatDoor
set_option maxRecDepth 100000
open Go.RowKit Go.Sort

def strLen : Value → Nat
  | .string s => s.size
  | _ => 0

structure ParseInv (w wr : World) (S : List UInt8) (l : List In5) (v : Value) (s : List UInt8) : Prop where
  own : wr.ownsRow w.heap.size 81 5 v l.length (cells5 l)
  ok : ∀ x ∈ l, okX x
  text : S = printL l ++ s
  few : l.length ≤ 600
  old : Below w.heap.size w wr

/-- What a text is told to be: a program, or none. -/
def ToldParse (S : List UInt8) (w : World) (e : Ending) (w' : World) : Prop := Below w.heap.size w w' ∧
  ((∃ l A c, e = .returned (.tuple #[.slice A l.length c, .nilIface]) ∧ w'.ownsRow w.heap.size 81 5 (.slice A l.length c) l.length (cells5 l) ∧ (∀ x ∈ l, okX x) ∧ printL l = S ∧ l.length ≤ 600) ∨
   (∃ t p, e = .returned (.tuple #[.slice none 0 0, .iface t p]) ∧ ∀ l, (∀ x ∈ l, okX x) → printL l = S → 600 < l.length))

/-- What is left is told by the instructions that are left. -/
theorem left_first {l l' : List In5} {s : List UInt8} (h1 : ∀ x ∈ l, okX x) (h2 : ∀ x ∈ l', okX x) (hs : s ≠ []) (h : printL l' = printL l ++ s) : ∃ x r, l' = l ++ x :: r ∧ okX x ∧ cutL 10 s = (bodyL x, printL r, true) := by
  obtain ⟨r, hr, hp⟩ := printL_split l l' s h1 h2 h
  cases r with
  | nil =>
    rw [printL_nil] at hp
    exact absurd hp.symm hs
  | cons x r =>
    have hx : okX x := h2 x (by rw [hr]; simp)
    exact ⟨x, r, hr, hx, by rw [← hp]; exact cutL_print x r hx⟩

set_option maxHeartbeats 2000000 in
theorem parse_any (S : List UInt8) (hS : S.length ≤ 4294967280) (w : World) (h : CW w) : Calls Tryz.prog 35 #[strV S] w (ToldParse S w) := by
  obtain ⟨i0, hi, hz0, hz1, hz2⟩ := info_parts infoIns
  have HC := Lib.hid h
  have hI0 : ParseInv w w S [] (.slice none 0 0) S := ⟨World.ownsRow_nil _ _ _ _, (fun x hx => by cases hx), rfl, Nat.zero_le _, Below.refl _ _⟩
  have HI := Lib.hid hI0
  clear h hI0
  unfold strV
  go_enter Tryz.func35, Tryz.ntmps35
  go_wp2
  go_loopw [0, 4] (fun sv pv wr => ∃ l A c s, ParseInv w wr S l (.slice A l.length c) s ∧ sv = .string ⟨s.toArray⟩ ∧ pv = .slice A l.length c) (fun sv _ _ => strLen sv)
  case atStart => exact ⟨[], none, 0, S, HI.out, rfl, rfl⟩
  case round =>
    obtain ⟨l, A, c, s, hJ, rfl, rfl⟩ := hrel
    clear HI
    have hsz : (⟨s.toArray⟩ : ByteArray).size = s.length := by simp [ByteArray.size]
    by_cases hne : s = []
    · subst hne
      have HJ := Lib.hid hJ
      clear hJ
      go_wp2
      go_ret2
      exact ⟨HJ.out.old, .inl ⟨l, A, c, rfl, HJ.out.own, HJ.out.ok, by have := HJ.out.text; rw [List.append_nil] at this; exact this.symm, HJ.out.few⟩⟩
    · have hpos : (0 : Int) < ((⟨s.toArray⟩ : ByteArray).size : Int) := by
        have := List.length_pos_iff.2 hne
        rw [hsz]
        omega
      have hsl : s.length ≤ 4294967280 := by
        have := congrArg List.length hJ.text
        rw [List.length_append] at this
        omega
      have hle := cutL_le 10 s
      have HC1 := Lib.hid (fun w => cut_any s 10 w hsl)
      have hcases := cutL_cases 10 s
      have HF := Lib.hid (fun l' h2 (h : printL l' = S) => left_first (l := l) (l' := l') hJ.ok h2 hne (h.trans hJ.text))
      obtain ⟨line, hline⟩ : ∃ a, (cutL 10 s).1 = a := ⟨_, rfl⟩
      obtain ⟨rest, hrest⟩ : ∃ a, (cutL 10 s).2.1 = a := ⟨_, rfl⟩
      obtain ⟨ended, hended⟩ : ∃ a, (cutL 10 s).2.2 = a := ⟨_, rfl⟩
      have hcut : cutL 10 s = (line, rest, ended) := by rw [← hline, ← hrest, ← hended]
      rw [hcut] at hle HF
      have HC2 := Lib.hid (fun w => (by have := HC1.out w; rw [hcut] at this; exact this : Calls Tryz.prog 57 #[strV s, .string ⟨#[10]⟩] w fun e w' => e = .returned (.tuple #[strV line, strV rest, .bool ended]) ∧ ∃ n, w' = w.drewN n))
      have HL := Lib.hid (fun w h => parseLine_any line (Nat.le_trans hle.1 hsl) w h)
      have HCC := Lib.hid hcases
      have HJ := Lib.hid hJ
      clear hJ hline hrest hended HC1 hcases
      unfold strV at HC2 HL
      have HS := Lib.hid hsz
      generalize hSB : (⟨s.toArray⟩ : ByteArray) = SB at *
      go_wp2_with fail
      refine (HC2.out _).mono ?_
      rintro e w3 ⟨rfl, hq⟩
      have hb3 : Below wr.heap.size wr w3 := by
        obtain ⟨q, rfl⟩ := hq
        exact below_drewN (Below.refl _ _) q
      have ho3 : w3.ownsRow w.heap.size 81 5 (.slice A l.length c) l.length (cells5 l) := by
        obtain ⟨q, rfl⟩ := hq
        exact HJ.out.own
      clear hq
      go_wp2_with fail
      refine (HL.out _ ((HC.out.old HJ.out.old).old hb3)).mono ?_
      rintro e w4 ⟨hb4, y, b, rfl, hy⟩
      have ho4 := ho3.kept (grown_of_old hb4) (Classical.em _)
      have hold : Below w.heap.size w w4 := HJ.out.old.trans ((hb3.trans (hb4.mono hb3.size)).mono HJ.out.old.size)
      clear hb3 hb4 ho3 HC2 HL
      obtain ⟨y0, y1, y2, y3, y4⟩ := y
      unfold insV
      rcases hy with ⟨rfl, hy⟩ | ⟨rfl, hy⟩
      · cases ended with
        | false =>
          have HE := Lib.hid (show ∀ l', (∀ x ∈ l', okX x) → printL l' = S → 600 < l'.length from fun l' h2 h => by
            obtain ⟨x, r, _, _, hc⟩ := HF.out l' h2 h
            simp at hc)
          have HB := Lib.hid (fun o1 o2 => (hold.alloc hold.size o1).alloc (o := o2) (hold.alloc hold.size o1).size)
          clear HJ HF HCC ho4 hy hold HS
          go_wp2
          go_ret2
          exact ⟨HB.out _ _, .inr ⟨_, _, rfl, HE.out⟩⟩
        | true =>
          obtain ⟨hok, hbody⟩ := parseX_sound hy
          have hsplit : s = line ++ 10 :: rest := by
            rcases HCC.out with ⟨_, e⟩ | ⟨a, b, e, _, ec⟩
            · rw [hcut] at e
              simp at e
            · rw [hcut] at ec
              simp only [Prod.mk.injEq, and_true] at ec
              obtain ⟨rfl, rfl⟩ := ec
              exact e
          by_cases hfull : l.length = 600
          · have HE := Lib.hid (show ∀ l', (∀ x ∈ l', okX x) → printL l' = S → 600 < l'.length from fun l' h2 h => by
              obtain ⟨x, r, hr, _, _⟩ := HF.out l' h2 h
              rw [hr, List.length_append, List.length_cons]
              omega)
            have HB := Lib.hid (fun o1 => hold.alloc hold.size o1)
            clear HJ HF HCC ho4 hy hold HS hok hbody hsplit
            have hfl : ((l.length : Int) == 600) = true := by rw [hfull]; rfl
            go_wp2
            go_ret2
            exact ⟨HB.out _, .inr ⟨_, _, rfl, HE.out⟩⟩
          · have hfl : ((l.length : Int) == 600) = false := by
              have : (l.length : Int) ≠ 600 := by omega
              simpa using this
            have hfew := HJ.out.few
            have hown5 := (ho4.alloc (.cells #[.int .i64 y0, .int .i64 y1, .int .i64 y2, .int .i64 y3, .int .i64 y4] 81)).alloc (.cells #[.int .i64 y0, .int .i64 y1, .int .i64 y2, .int .i64 y3, .int .i64 y4] 81)
            have hnews := World.news_of_block (cs := #[.int .i64 y0, .int .i64 y1, .int .i64 y2, .int .i64 y3, .int .i64 y4]) (heap_alloc_new (w4.alloc (.cells #[.int .i64 y0, .int .i64 y1, .int .i64 y2, .int .i64 y3, .int .i64 y4] 81)) (.cells #[.int .i64 y0, .int .i64 y1, .int .i64 y2, .int .i64 y3, .int .i64 y4] 81))
            have hoc : ∀ u ∈ [Value.int .i64 y0, .int .i64 y1, .int .i64 y2, .int .i64 y3, .int .i64 y4], u.oneCell' = true := by
              intro u hu
              simp at hu
              rcases hu with rfl | rfl | rfl | rfl | rfl <;> rfl
            have HO5 := Lib.hid hown5
            have HNW := Lib.hid hnews
            have HOC := Lib.hid hoc
            have HB := Lib.hid (fun o1 o2 => (hold.alloc hold.size o1).alloc (o := o2) (hold.alloc hold.size o1).size)
            have HOK := Lib.hid (show ∀ x ∈ l ++ [(y0, y1, y2, y3, y4)], okX x from fun x hx => by
              rcases List.mem_append.1 hx with hx | hx
              · exact HJ.out.ok x hx
              · rw [List.mem_singleton.1 hx]; exact hok)
            have HT := Lib.hid (show S = printL (l ++ [(y0, y1, y2, y3, y4)]) ++ rest by
              rw [HJ.out.text, hsplit, printL_append, ← hbody]
              simp [printL, lineL])
            have hlr : rest.length < s.length := by rw [hsplit]; simp; omega
            have HLR := Lib.hid hlr
            have hsz4 := hold.size
            clear HJ HF HCC ho4 hy hold hok hbody hsplit hown5 hnews hoc hle hlr hcut
            go_wp2_with (at_builtin; refine wpList_append_own _ rfl (.tmp 39) (.tmp 41) 43 rfl w.heap.size 81 i0 (.agg #[.int .i64 0, .int .i64 0, .int .i64 0, .int .i64 0, .int .i64 0]) 5 40 Tryz.underlying43 hi hz0 hz1 hz2 rfl (by decide) _ l.length (cells5 l) rfl HO5.out ⟨w4.heap.size + 1, 0, none⟩ 1 1 [.int .i64 y0, .int .i64 y1, .int .i64 y2, .int .i64 y3, .int .i64 y4] rfl rfl ?c1 HOC.out ?c3 ?c4 ?c5 ?_)
            case c1 => have := HNW.out; simpa using this
            case c3 => unfold maxLen; omega
            case c4 => omega
            case c5 => simp; omega
            intro v' w6 hown6 hg6 _
            obtain ⟨A6, c6, rfl⟩ := own_form hown6
            have hown6' : w6.ownsRow w.heap.size 81 5 (.slice A6 (l ++ [(y0, y1, y2, y3, y4)]).length c6) (l ++ [(y0, y1, y2, y3, y4)]).length (cells5 (l ++ [(y0, y1, y2, y3, y4)])) := by
              rw [cells5_append, cells5_one, List.length_append]
              exact hown6
            have HJ2 := Lib.hid (show ParseInv w w6 S (l ++ [(y0, y1, y2, y3, y4)]) (.slice A6 (l ++ [(y0, y1, y2, y3, y4)]).length c6) rest from ⟨hown6', HOK.out, HT.out, by rw [List.length_append, List.length_singleton]; omega, (HB.out _ _).grown hg6 (by have := (HB.out (.cells #[.int .i64 y0, .int .i64 y1, .int .i64 y2, .int .i64 y3, .int .i64 y4] 81) (.cells #[.int .i64 y0, .int .i64 y1, .int .i64 y2, .int .i64 y3, .int .i64 y4] 81)).size; exact this) (fun k hk => (HO5.out.lt k hk).1)⟩)
            clear hown6 hg6 hown6' HB HO5 HNW
            go_wp2
            go_roundw
            case rel => exact ⟨l ++ [(y0, y1, y2, y3, y4)], A6, c6, rest, HJ2.out, rfl, by simp⟩
            case measure =>
              have h1 := HLR.out
              have h2 := HS.out
              have h3 : (⟨rest.toArray⟩ : ByteArray).size = rest.length := by simp [ByteArray.size]
              show (⟨rest.toArray⟩ : ByteArray).size < SB.size
              omega
      · have HE := Lib.hid (show ∀ l', (∀ x ∈ l', okX x) → printL l' = S → 600 < l'.length from fun l' h2 h => by
          obtain ⟨x, r, _, hx, hc⟩ := HF.out l' h2 h
          simp only [Prod.mk.injEq] at hc
          rw [hc.1, parseX_whole hx] at hy
          cases hy)
        have HB := Lib.hid (fun o1 o2 => (hold.alloc hold.size o1).alloc (o := o2) (hold.alloc hold.size o1).size)
        clear HJ HF HCC ho4 hy hold HS
        go_wp2
        go_ret2
        exact ⟨HB.out _ _, .inr ⟨_, _, rfl, HE.out⟩⟩
end Go.Proofs.YtaagdmompaphiaaGreatDoor

namespace Go.Proofs.YtaagdmompaphiaaGreatDoor
set_option maxRecDepth 100000
open Go.RowKit Go.Sort

/-- Each number is one that may stand there. -/
def fitsL (n cells : Int) : List Nat → List Int → Bool
  | k :: ks, v :: vs => !(decide (v < (boundsL k n cells).1)) && !(decide ((boundsL k n cells).2 < v)) && fitsL n cells ks vs
  | _, _ => true

theorem fitsL_step (n cells : Int) (ks : List Nat) (vs : List Int) (i : Nat) (h1 : i < ks.length) (h2 : i < vs.length) :
    fitsL n cells (ks.drop i) (vs.drop i) = (!(decide (vs.getD i 0 < (boundsL (ks.getD i 0) n cells).1)) && !(decide ((boundsL (ks.getD i 0) n cells).2 < vs.getD i 0)) && fitsL n cells (ks.drop (i + 1)) (vs.drop (i + 1))) := by
  rw [List.drop_eq_getElem_cons h1, List.drop_eq_getElem_cons h2, fitsL]
  have e1 : ks.getD i 0 = ks[i] := by rw [List.getD_eq_getElem?_getD, List.getElem?_eq_getElem h1]; rfl
  have e2 : vs.getD i 0 = vs[i] := by rw [List.getD_eq_getElem?_getD, List.getElem?_eq_getElem h2]; rfl
  rw [e1, e2]

theorem kinds_lt : ∀ op, op < 17 → ∀ i, i < 4 → (kindsOf op).getD i 0 < 8 := by decide

theorem index_int4 (a b c d : Int) : ∀ (i : Nat), i < 4 → ∀ w : World, (Instr.index 115 (.agg #[.int .i64 a, .int .i64 b, .int .i64 c, .int .i64 d]) (.int .i64 (i : Int))).run Tryz.prog w = .ok (.int .i64 ([a, b, c, d].getD i 0)) w
  | 0, _ => fun _ => by kernel_rfl
  | 1, _ => fun _ => by kernel_rfl
  | 2, _ => fun _ => by kernel_rfl
  | 3, _ => fun _ => by kernel_rfl
  | n + 4, h => absurd h (by omega)

set_option maxHeartbeats 2000000 in
theorem fits_any (op : Nat) (hop : op < 17) (a b c d n cells : Int) (hn0 : 0 ≤ n) (hn1 : n ≤ 600) (hc0 : 0 ≤ cells) (hc1 : cells ≤ 300) (w : World) (h : CW w) :
    Calls Tryz.prog 39 #[insV (op, a, b, c, d), .int .i64 n, .int .i64 cells] w fun e w' => e = .returned (.bool (fitsL n cells (kindsOf op) [a, b, c, d])) ∧ Below w.heap.size w w' := by
  have HN := Lib.hid (fun w => numbers_any (op, a, b, c, d) w)
  have HC := Lib.hid h
  have hbig := h.big
  have hop17 : (op : Int) < 17 := by omega
  have hop0 : (0 : Int) ≤ (op : Int) := by omega
  clear h
  obtain ⟨r, hr⟩ : ∃ r, fitsL n cells (kindsOf op) [a, b, c, d] = r := ⟨_, rfl⟩
  rw [hr]
  unfold insV at HN ⊢
  go_enter Tryz.func39, Tryz.ntmps39
  go_wp2_with fail
  refine (HN.out _).mono ?_
  rintro e w2 ⟨rfl, hg⟩
  obtain ⟨xb, hxb⟩ : ∃ xb, w.heap.size = xb := ⟨_, rfl⟩
  have hx2 : w2.heap[xb]? = some (.cells #[.int .i64 op, .int .i64 a, .int .i64 b, .int .i64 c, .int .i64 d] 81 (0, 0)) := by
    rw [← hxb]
    exact (hg.block w.heap.size (by simp) (by simp)).trans (heap_alloc_new w _)
  have hb2 : Below w.heap.size w w2 := ((Below.refl w.heap.size w).alloc (Nat.le_refl _) _).grown hg (by simp) (by intro k hk; cases hk)
  have hC2 := HC.out.old hb2
  rw [hxb]
  clear hg hxb HN
  have c0 : w2.cell? ⟨xb, 0, none⟩ = some (.int .i64 op) := by rw [cell_of_row w2 xb 0 _ _ _ hx2]; rfl
  have hks := kinds_len op hop
  have hkl := kinds_lt op hop
  have hk : ∀ i, i < 4 → w2.cell? ⟨0, op * 5 + 1 + i, none⟩ = some (.int .i64 ((kindsOf op).getD i 0 : Nat)) := fun i hi => hC2.kind op i hop hi
  have HK := Lib.hid hk
  have HKL := Lib.hid hkl
  have HIX := Lib.hid (index_int4 a b c d)
  have HB := Lib.hid hb2
  clear hk hkl hb2 hC2 hx2
  generalize kindsOf op = ks at *
  go_wp2
  go_loopw [13] (fun j wr => ∃ i : Nat, i ≤ 4 ∧ j = .int .i64 i ∧ wr = w2 ∧ r = fitsL n cells (ks.drop i) ([a, b, c, d].drop i)) (fun j _ => 4 - (intOf j).toNat)
  case atStart => exact ⟨0, by omega, rfl, rfl, hr.symm⟩
  case round =>
    obtain ⟨i, hi, rfl, rfl, hF⟩ := hrel
    by_cases hlt : i < 4
    · have hii : (i : Int) < 4 := by omega
      have hix := HIX.out i hlt
      have hki := HK.out i hlt
      have hst := fitsL_step n cells ks [a, b, c, d] i (by omega) (by simpa using hlt)
      have hlk := HKL.out i hlt
      rw [hst] at hF
      generalize ks.getD i 0 = k at *
      generalize [a, b, c, d].getD i 0 = v at *
      have HBD := Lib.hid (fun w => bounds_any k hlk n cells hn0 hn1 hc0 hc1 w)
      generalize (boundsL k n cells).1 = lo at *
      generalize (boundsL k n cells).2 = hh at *
      clear hst
      go_wp2_with fail
      refine (HBD.out _).mono ?_
      rintro e w3 ⟨rfl, rfl⟩
      by_cases h1 : v < lo
      · have hT : r = false := by
          rw [hF, decide_eq_true h1]
          rfl
        clear hF
        subst hT
        go_wp2
        go_ret
        exact ⟨rfl, HB.out⟩
      · by_cases h2 : hh < v
        · have hT : r = false := by
            rw [hF, decide_eq_false h1, decide_eq_true h2]
            rfl
          clear hF
          subst hT
          go_wp2
          go_ret
          exact ⟨rfl, HB.out⟩
        · have hF2 : r = fitsL n cells (ks.drop (i + 1)) ([a, b, c, d].drop (i + 1)) := by
            rw [hF, decide_eq_false h1, decide_eq_false h2]
            rfl
          clear hF
          go_wp2
          go_roundw
          case rel => exact ⟨i + 1, by omega, by go_num, by first | trivial | rfl, hF2⟩
          case measure => simp [intOf]; omega
    · obtain rfl : i = 4 := by omega
      have hT : r = true := by
        rw [hF]
        have : ks.drop 4 = [] := List.drop_eq_nil_of_le (by omega)
        rw [this]
        rfl
      subst hT
      go_wp2
      go_ret
      first
        | exact ⟨rfl, HB.out⟩
        | exact ⟨trivial, HB.out⟩

/-- A slice of instructions. -/
structure Inss (w : World) (B : Nat) (A : Option Addr) (n : Nat) (xs : List In5) : Prop where
  len : xs.length = n
  row : 0 < n → ∃ b off, A = some ⟨b, off, none⟩ ∧ b < B ∧ ∀ i, i < n → w.cell? ⟨b, off + i * 5, none⟩ = some (.int .i64 (xs.getD i default).1) ∧ w.cell? ⟨b, off + i * 5 + 1, none⟩ = some (.int .i64 (xs.getD i default).2.1) ∧ w.cell? ⟨b, off + i * 5 + 2, none⟩ = some (.int .i64 (xs.getD i default).2.2.1) ∧ w.cell? ⟨b, off + i * 5 + 3, none⟩ = some (.int .i64 (xs.getD i default).2.2.2.1) ∧ w.cell? ⟨b, off + i * 5 + 4, none⟩ = some (.int .i64 (xs.getD i default).2.2.2.2)

theorem Inss.keep {w w' : World} {B B' : Nat} {A : Option Addr} {n : Nat} {xs : List In5} (h : Inss w B A n xs) (hB : B ≤ B') (hc : ∀ p : Addr, p.block < B → w'.cell? p = w.cell? p) : Inss w' B' A n xs :=
  ⟨h.len, fun h0 => by
    obtain ⟨b, off, e, hb, hx⟩ := h.row h0
    refine ⟨b, off, e, by omega, fun i hi => ?_⟩
    obtain ⟨h1, h2, h3, h4, h5⟩ := hx i hi
    exact ⟨(hc _ hb).trans h1, (hc _ hb).trans h2, (hc _ hb).trans h3, (hc _ hb).trans h4, (hc _ hb).trans h5⟩⟩

theorem Inss.below {w w' : World} {B : Nat} {A : Option Addr} {n : Nat} {xs : List In5} (h : Inss w B A n xs) (hb : Below B w w') : Inss w' B A n xs :=
  h.keep (Nat.le_refl _) fun _ hp => hb.cell hp

theorem Inss.old {w w' : World} {A : Option Addr} {n : Nat} {xs : List In5} (h : Inss w w.heap.size A n xs) (hb : Below w.heap.size w w') : Inss w' w'.heap.size A n xs :=
  h.keep hb.size fun _ hp => hb.cell hp

/-- A program that may be. -/
def goodX (n cells : Int) (x : In5) : Prop := 0 ≤ x.1 ∧ x.1 < 17 ∧ fitsL n cells (kindsOf x.1.toNat) (nums x) = true
def RightL (l : List In5) (cells : Int) : Prop := 0 ≤ cells ∧ cells ≤ 300 ∧ 0 < l.length ∧ l.length ≤ 600 ∧ (∀ i, i < l.length → goodX l.length cells (l.getD i default)) ∧ ((l.getD (l.length - 1) default).1 = 0 ∨ (l.getD (l.length - 1) default).1 = 10)

def ToldRight (l : List In5) (cells : Int) (w : World) (e : Ending) (w' : World) : Prop := Below w.heap.size w w' ∧
  ((e = .returned .nilIface ∧ RightL l cells) ∨ (∃ t p, e = .returned (.iface t p) ∧ ¬ RightL l cells))

set_option maxHeartbeats 4000000 in
theorem right_any (l : List In5) (A : Option Addr) (n c : Nat) (cells : Int) (w : World) (h : CW w) (hl : Inss w w.heap.size A n l) :
    Calls Tryz.prog 16 #[.slice A n c, .int .i64 cells] w (ToldRight l cells w) := by
  have hlen := hl.len
  have hb0 := Below.refl w.heap.size w
  by_cases hc0 : cells < 0
  · have hR : ¬ RightL l cells := fun h => by have := h.1; omega
    go_enter Tryz.func16, Tryz.ntmps16
    go_wp2
    go_ret
    exact ⟨hb0, .inr ⟨_, _, rfl, hR⟩⟩
  by_cases hc1 : 300 < cells
  · have hR : ¬ RightL l cells := fun h => by have := h.2.1; omega
    go_enter Tryz.func16, Tryz.ntmps16
    go_wp2
    go_ret
    exact ⟨hb0, .inr ⟨_, _, rfl, hR⟩⟩
  by_cases hn0 : n = 0
  · have hR : ¬ RightL l cells := fun h => by have := h.2.2.1; omega
    subst hn0
    go_enter Tryz.func16, Tryz.ntmps16
    go_wp2
    go_ret
    exact ⟨hb0, .inr ⟨_, _, rfl, hR⟩⟩
  have hnb : ((n : Int) == 0) = false := by simpa using hn0
  by_cases hn1 : 600 < n
  · have hR : ¬ RightL l cells := fun h => by have := h.2.2.2.1; omega
    have hni : (600 : Int) < (n : Int) := by omega
    go_enter Tryz.func16, Tryz.ntmps16
    go_wp2
    go_ret
    exact ⟨hb0, .inr ⟨_, _, rfl, hR⟩⟩
  have hni : ¬ (600 : Int) < (n : Int) := by omega
  have HL := Lib.hid hl
  have HC := Lib.hid h
  have HB0 := Lib.hid hb0
  clear h hl hb0
  go_enter Tryz.func16, Tryz.ntmps16
  go_wp2
  go_loopw [25] (fun j wr => ∃ i : Nat, i ≤ n ∧ j = .int .i64 i ∧ (∀ k, k < i → goodX l.length cells (l.getD k default)) ∧ Below w.heap.size w wr) (fun j _ => n - (intOf j).toNat)
  case atStart => exact ⟨0, Nat.zero_le _, rfl, (fun k hk => absurd hk (Nat.not_lt_zero _)), HB0.out⟩
  case round =>
    obtain ⟨i, hi, rfl, hgood, hb⟩ := hrel
    clear HB0
    by_cases hlt : i < n
    · have hii : (i : Int) < (n : Int) := by omega
      obtain ⟨b, off, rfl, hbl, hc⟩ := (HL.out.below hb).row (by omega)
      obtain ⟨c1, c2, c3, c4, c5⟩ := hc i hlt
      have hbw : b < wr.heap.size := Nat.lt_of_lt_of_le hbl hb.size
      have hbne : b ≠ wr.heap.size := by omega
      obtain ⟨x, hx⟩ : ∃ x, l.getD i default = x := ⟨_, rfl⟩
      rw [hx] at c1 c2 c3 c4 c5
      obtain ⟨x1, x2, x3, x4, x5⟩ := x
      dsimp only at c1 c2 c3 c4 c5
      have hbx := fun o => hb.alloc hb.size o
      have HX := Lib.hid hx
      have HG := Lib.hid hgood
      clear hc hx hgood
      by_cases hk : x1 < 0 ∨ 17 ≤ x1
      · have hR : ¬ RightL l cells := fun h => by
          have := h.2.2.2.2.1 i (by omega)
          rw [HX.out] at this
          have h1 := this.1
          have h2 := this.2.1
          dsimp only at h1 h2
          omega
        have HKN := Lib.hid (fun w => known_no x1 hk w)
        have HBX := Lib.hid (fun o1 o2 => (hbx o1).alloc (o := o2) (hbx o1).size)
        clear hb hbx HG hk
        go_wp2_with fail
        refine (HKN.out _).mono ?_
        rintro e w3 ⟨rfl, rfl⟩
        go_wp2
        go_ret
        exact ⟨HBX.out _ _, .inr ⟨_, _, rfl, hR⟩⟩
      · obtain ⟨op, rfl⟩ : ∃ op : Nat, x1 = (op : Int) := ⟨x1.toNat, by omega⟩
        have hop : op < 17 := by omega
        have HKN := Lib.hid (fun w => known_yes op hop w)
        have hCx := HC.out.old (hbx (.cells #[.int .i64 op, .int .i64 x2, .int .i64 x3, .int .i64 x4, .int .i64 x5] 81))
        have HFT := Lib.hid (fits_any op hop x2 x3 x4 x5 (n : Int) cells (by omega) (by omega) (by omega) (by omega) _ hCx)
        have HBX := Lib.hid (hbx (.cells #[.int .i64 op, .int .i64 x2, .int .i64 x3, .int .i64 x4, .int .i64 x5] 81))
        clear hb hbx hk hCx
        unfold insV at HFT
        go_wp2_with fail
        refine (HKN.out _).mono ?_
        rintro e w3 ⟨rfl, rfl⟩
        go_wp2_with fail
        refine HFT.out.mono ?_
        rintro e w4 ⟨rfl, hb4⟩
        have hb04 := HBX.out.trans (hb4.mono HBX.out.size)
        obtain ⟨r, hr⟩ : ∃ r, fitsL (n : Int) cells (kindsOf op) [x2, x3, x4, x5] = r := ⟨_, rfl⟩
        rw [hr]
        cases r with
        | false =>
          have hR : ¬ RightL l cells := fun h => by
            have := h.2.2.2.2.1 i (by omega)
            rw [HX.out] at this
            have h2 := this.2.2
            rw [hlen] at h2
            have h3 : fitsL (n : Int) cells (kindsOf op) [x2, x3, x4, x5] = true := h2
            rw [hr] at h3
            cases h3
          have HBX := Lib.hid (fun o1 => hb04.alloc hb04.size o1)
          clear hb4 hb04 HFT HG
          go_wp2
          go_ret
          exact ⟨HBX.out _, .inr ⟨_, _, rfl, hR⟩⟩
        | true =>
          have HG2 := Lib.hid (show ∀ k, k < i + 1 → goodX l.length cells (l.getD k default) from fun k hk => by
            rcases Nat.lt_or_ge k i with h | h
            · exact HG.out k h
            · obtain rfl : k = i := by omega
              rw [HX.out, hlen]
              exact ⟨by dsimp only; omega, by dsimp only; omega, hr⟩)
          have HB4 := Lib.hid hb04
          clear hb4 hb04 HFT HG
          go_wp2
          go_roundw
          case rel => exact ⟨i + 1, by omega, by go_num, HG2.out, HB4.out⟩
          case measure => simp [intOf]; omega
    · obtain rfl : i = n := by omega
      obtain ⟨b, off, rfl, hbl, hc⟩ := (HL.out.below hb).row (by omega)
      obtain ⟨m, rfl⟩ : ∃ m, i = m + 1 := ⟨i - 1, by omega⟩
      obtain ⟨c1, _⟩ := hc m (by omega)
      obtain ⟨z, hz⟩ : ∃ z, (l.getD m default).1 = z := ⟨_, rfl⟩
      rw [hz] at c1
      have hii : ¬ ((m + 1 : Nat) : Int) < ((m + 1 : Nat) : Int) := by omega
      have hw1 : wrap64 (((m + 1 : Nat) : Int) - 1) = (m : Int) := by unfold wrap64; omega
      have hw2 : wrap64 (m : Int) = (m : Int) := by unfold wrap64; omega
      have hm0 : (0 : Int) ≤ (m : Int) := by omega
      have hm1 : (m : Int) < ((m + 1 : Nat) : Int) := by omega
      have hm2 : (m : Int) < (m : Int) + 1 := by omega
      have HBX := Lib.hid (fun o1 => hb.alloc hb.size o1)
      have HB := Lib.hid hb
      have hR1 : (z = 0 ∨ z = 10) → RightL l cells := fun hz2 => ⟨by omega, by omega, by omega, by omega, fun k hk => hgood k (by omega), by rw [hlen, Nat.add_sub_cancel, hz]; exact hz2⟩
      have hR2 : ¬ (z = 0 ∨ z = 10) → ¬ RightL l cells := fun hz2 h => hz2 (by have := h.2.2.2.2.2; rw [hlen, Nat.add_sub_cancel, hz] at this; exact this)
      have HR1 := Lib.hid hR1
      have HR2 := Lib.hid hR2
      clear hc hgood hb hR1 hR2
      by_cases z0 : z = 0
      · subst z0
        go_wp2
        go_ret
        exact ⟨HB.out, .inl ⟨rfl, HR1.out (by simp)⟩⟩
      · have zb0 : (z != 0) = true := by simpa using z0
        by_cases z1 : z = 10
        · subst z1
          go_wp2
          go_ret
          exact ⟨HB.out, .inl ⟨rfl, HR1.out (by simp)⟩⟩
        · have zb1 : (z != 10) = true := by simpa using z1
          go_wp2
          go_ret
          exact ⟨HBX.out _, .inr ⟨_, _, rfl, HR2.out (by rintro (h | h); exact z0 h; exact z1 h)⟩⟩
end Go.Proofs.YtaagdmompaphiaaGreatDoor

namespace Go.Proofs.YtaagdmompaphiaaGreatDoor
set_option maxRecDepth 100000
open Go.RowKit Go.Sort

theorem cells5_len (l : List In5) : (cells5 l).length = l.length * 5 := by
  induction l with
  | nil => rfl
  | cons x l ih => rw [show x :: l = [x] ++ l from rfl, cells5_append, cells5_one, List.length_append, ih]; simp; omega

theorem cells5_at : ∀ (l : List In5) (i : Nat), i < l.length → (cells5 l)[i * 5]? = some (.int .i64 (l.getD i default).1) ∧ (cells5 l)[i * 5 + 1]? = some (.int .i64 (l.getD i default).2.1) ∧ (cells5 l)[i * 5 + 2]? = some (.int .i64 (l.getD i default).2.2.1) ∧ (cells5 l)[i * 5 + 3]? = some (.int .i64 (l.getD i default).2.2.2.1) ∧ (cells5 l)[i * 5 + 4]? = some (.int .i64 (l.getD i default).2.2.2.2)
  | [], i, h => absurd h (Nat.not_lt_zero _)
  | x :: l, 0, _ => ⟨rfl, rfl, rfl, rfl, rfl⟩
  | x :: l, i + 1, h => by
    have := cells5_at l i (by simpa using h)
    have e : ∀ j, (cells5 (x :: l))[(i + 1) * 5 + j]? = (cells5 l)[i * 5 + j]? := fun j => by
      rw [show x :: l = [x] ++ l from rfl, cells5_append, cells5_one, List.getElem?_append_right (by simp; omega)]
      congr 1
      simp
      omega
    have e0 := e 0
    simp only [Nat.add_zero] at e0
    rw [e0, e 1, e 2, e 3, e 4]
    exact this

theorem Inss.of_own {w : World} {B n : Nat} {A : Option Addr} {c : Nat} {l : List In5} (h : w.ownsRow B 81 5 (.slice A n c) n (cells5 l)) (hl : l.length = n) : Inss w w.heap.size A n l := by
  refine ⟨hl, fun hn => ?_⟩
  obtain ⟨g, cap, hv, hb, hlt⟩ := h.form hn
  obtain ⟨rfl, rfl⟩ : A = some ⟨g, 0, none⟩ ∧ c = cap := by injection hv with h1 _ h3; exact ⟨h1, h3⟩
  refine ⟨g, 0, rfl, hlt, fun i hi => ?_⟩
  obtain ⟨h1, h2, h3, h4, h5⟩ := cells5_at l i (by omega)
  have hl5 := cells5_len l
  simp only [Nat.zero_add]
  exact ⟨(h.cellAt _ (by omega)).trans h1, (h.cellAt _ (by omega)).trans h2, (h.cellAt _ (by omega)).trans h3, (h.cellAt _ (by omega)).trans h4, (h.cellAt _ (by omega)).trans h5⟩

theorem news_of_inss {w : World} {B : Nat} {ad : Addr} {n : Nat} {l : List In5} (h : Inss w B (some ad) n l) : ∀ j u, (cells5 l)[j]? = some u → w.cell? (ad.add j) = some u := by
  intro j u hu
  have hl := h.len
  have hj : j < (cells5 l).length := (List.getElem?_eq_some_iff.1 hu).1
  rw [cells5_len] at hj
  obtain ⟨b, off, e, _, hc⟩ := h.row (by omega)
  obtain rfl : ad = ⟨b, off, none⟩ := by injection e
  obtain ⟨c1, c2, c3, c4, c5⟩ := hc (j / 5) (by omega)
  obtain ⟨h1, h2, h3, h4, h5⟩ := cells5_at l (j / 5) (by omega)
  have ha : (⟨b, off, none⟩ : Addr).add j = ⟨b, off + j, none⟩ := by unfold Addr.add; split <;> simp_all
  rw [ha]
  have hr : j % 5 = 0 ∨ j % 5 = 1 ∨ j % 5 = 2 ∨ j % 5 = 3 ∨ j % 5 = 4 := by omega
  rcases hr with hr | hr | hr | hr | hr
  · rw [show off + j = off + j / 5 * 5 by omega, c1, ← h1, show j / 5 * 5 = j by omega, hu]
  · rw [show off + j = off + j / 5 * 5 + 1 by omega, c2, ← h2, show j / 5 * 5 + 1 = j by omega, hu]
  · rw [show off + j = off + j / 5 * 5 + 2 by omega, c3, ← h3, show j / 5 * 5 + 2 = j by omega, hu]
  · rw [show off + j = off + j / 5 * 5 + 3 by omega, c4, ← h4, show j / 5 * 5 + 3 = j by omega, hu]
  · rw [show off + j = off + j / 5 * 5 + 4 by omega, c5, ← h5, show j / 5 * 5 + 4 = j by omega, hu]

theorem oneCell5 {l : List In5} : ∀ u ∈ cells5 l, u.oneCell' = true := by
  intro u hu
  unfold cells5 at hu
  obtain ⟨x, _, hx⟩ := List.mem_flatMap.1 hu
  simp at hx
  rcases hx with rfl | rfl | rfl | rfl | rfl <;> rfl

set_option maxHeartbeats 1000000 in
theorem equalN_same (A C : Option Addr) (n c d : Nat) (l : List In5) (w : World) (hn : n ≤ 9223372036854775807) (B B' : Nat) (ha : Inss w B A n l) (hc : Inss w B' C n l) :
    Calls Tryz.prog 36 #[.slice A n c, .slice C n d] w fun e w' => e = .returned (.bool true) ∧ ∃ q, w' = w.drewN q := by
  have hne : ((n : Int) != (n : Int)) = false := by simp
  go_enter Tryz.func36, Tryz.ntmps36
  go_wp2
  go_loopw [5, 13] (fun i j wr => ∃ k : Nat, k ≤ n ∧ j = .int .i64 k ∧ ∃ q, wr = w.drewN q) (fun _ j _ => n - (intOf j).toNat)
  case atStart => exact ⟨0, Nat.zero_le _, rfl, 0, rfl⟩
  case round =>
    obtain ⟨k, hk, rfl, q, rfl⟩ := hrel
    by_cases hlt : k < n
    · obtain ⟨b, off, rfl, _, hx⟩ := ha.row (by omega)
      obtain ⟨b', off', rfl, _, hy⟩ := hc.row (by omega)
      obtain ⟨x1, x2, x3, x4, x5⟩ := hx k hlt
      obtain ⟨y1, y2, y3, y4, y5⟩ := hy k hlt
      have hkn : (k : Int) < (n : Int) := by omega
      clear hx hy ha hc
      generalize (l.getD k default).1 = z1 at *
      generalize (l.getD k default).2.1 = z2 at *
      generalize (l.getD k default).2.2.1 = z3 at *
      generalize (l.getD k default).2.2.2.1 = z4 at *
      generalize (l.getD k default).2.2.2.2 = z5 at *
      have h1 : (z1 == z1) = true := by simp
      have h2 : (z2 == z2) = true := by simp
      have h3 : (z3 == z3) = true := by simp
      have h4 : (z4 == z4) = true := by simp
      have h5 : (z5 == z5) = true := by simp
      go_wp2
      go_quiet (fail)
      go_wp2
      go_roundw
      case rel => exact ⟨k + 1, by omega, by go_num, q + nq, by simp⟩
      case measure => simp [intOf]; omega
    · have hkn : ¬ (k : Int) < (n : Int) := by omega
      go_wp2
      go_ret
      exact ⟨rfl, q, rfl⟩

end Go.Proofs.YtaagdmompaphiaaGreatDoor

namespace Go.Proofs.YtaagdmompaphiaaGreatDoor
set_option maxRecDepth 100000
open Go.RowKit Go.Sort

set_option maxHeartbeats 1000000 in
theorem cloneN_any {w : World} {B : Nat} (A : Option Addr) (n c : Nat) (xs : List In5) (h : Inss w B A n xs) (hn : n ≤ 1000000) :
    Calls Tryz.prog 66 #[.slice A n c] w fun e w' => ∃ v, e = .returned v ∧ w'.ownsRow w.heap.size 81 5 v n (cells5 xs) ∧ w.grownBy w' none := by
  rcases A with _ | ad
  · have h0 : n = 0 := by
      rcases Nat.eq_zero_or_pos n with h0 | h0
      · exact h0
      · obtain ⟨_, _, e, _⟩ := h.row h0
        cases e
    subst h0
    have hx : xs = [] := List.eq_nil_of_length_eq_zero h.len
    subst hx
    have hq := fun (w : World) => Lib.run_eql_slice_nil (P := Tryz.prog) w 43 81 none 0 c 0 0 Tryz.underlying43
    clear h
    go_enter Tryz.func66, Tryz.ntmps66
    go_wp2
    go_ret
    exact ⟨_, rfl, World.ownsRow_nil _ _ _ _, World.grownBy.refl w _⟩
  · have hq := fun (w : World) => Lib.run_eql_slice_nil (P := Tryz.prog) w 43 81 (some ad) n c 0 0 Tryz.underlying43
    have hnews := news_of_inss h
    have hl := h.len
    obtain ⟨i0, hi, hz0, hz1, hz2⟩ := info_parts infoIns
    clear h
    go_enter Tryz.func66, Tryz.ntmps66
    have hown0 := World.ownsRow_made (base := w.heap.size) (e := 81) (size := 5) w #[] 0 (Nat.le_refl _) (by decide) rfl
    have hnews' : ∀ j u, (cells5 xs)[j]? = some u → (w.alloc (.cells #[] 81)).cell? (ad.add j) = some u := fun j u hu => Lib.cell?_alloc_some _ (hnews j u hu)
    have H0 := Lib.hid hown0
    have H1 := Lib.hid hnews'
    have H2 := Lib.hid hl
    clear hown0 hnews' hl hnews
    go_wp2_with (at_builtin; refine wpList_append_own _ rfl (.tmp 5) (.tmp 6) 43 rfl w.heap.size 81 i0 (.agg #[.int .i64 0, .int .i64 0, .int .i64 0, .int .i64 0, .int .i64 0]) 5 40 Tryz.underlying43 hi hz0 hz1 hz2 rfl (by decide) _ 0 [] rfl H0.out ad n c (cells5 xs) rfl ?c1 H1.out ?c2 ?c3 ?c4 ?c5 ?_)
    case c1 => rw [cells5_len, H2.out]
    case c2 => exact oneCell5
    case c3 => unfold maxLen; omega
    case c4 => omega
    case c5 => simp
    intro v' w1 hown1 hg1 _
    have hg := (World.grownBy_alloc w (.cells #[] 81) none).andThen hg1 (by intro j hj; simp only [Value.ownBlock, Option.some.injEq] at hj; omega)
    have H3 := Lib.hid hown1
    have H4 := Lib.hid hg1
    clear hown1 hg1 H0 H1
    go_wp2
    go_ret
    exact ⟨v', rfl, by simpa using H3.out, hg⟩

def writtenS : List UInt8 := [108, 101, 116, 32, 48, 32, 45, 53, 10, 115, 116, 111, 114, 101, 32, 49, 32, 48, 32, 45, 49, 10, 104, 97, 108, 116, 10]
def writtenL : List In5 := [(1, 0, -5, 0, 0), (7, 1, 0, -1, 0), (0, 0, 0, 0, 0)]

theorem itoa_small (n : Nat) (h : n < 10) : Lib.itoa (n : Int) = [UInt8.ofNat (48 + n)] := by
  unfold Lib.itoa
  rw [if_neg (by omega), Int.toNat_natCast, Lib.decDigits, dif_pos h]
theorem itoa_neg (n : Nat) (h : n < 10) (h0 : 0 < n) : Lib.itoa (-(n : Int)) = [45, UInt8.ofNat (48 + n)] := by
  unfold Lib.itoa
  rw [if_pos (by omega), show (-(n : Int)).natAbs = n by omega, Lib.decDigits, dif_pos h]

theorem written_print : printL writtenL = writtenS := by
  have z : Lib.itoa 0 = [48] := itoa_small 0 (by decide)
  have o : Lib.itoa 1 = [49] := itoa_small 1 (by decide)
  have m5 : Lib.itoa (-5) = [45, 53] := itoa_neg 5 (by decide) (by decide)
  have m1 : Lib.itoa (-1) = [45, 49] := itoa_neg 1 (by decide) (by decide)
  have b0 : bodyL (1, 0, -5, 0, 0) = [108, 101, 116, 32, 48, 32, 45, 53] := by
    show nameOf 1 ++ pieces [1, 3, 0, 0] [0, -5, 0, 0] = _
    simp only [pieces, piece, z, m5]
    rfl
  have b1 : bodyL (7, 1, 0, -1, 0) = [115, 116, 111, 114, 101, 32, 49, 32, 48, 32, 45, 49] := by
    show nameOf 7 ++ pieces [2, 1, 5, 0] [1, 0, -1, 0] = _
    simp only [pieces, piece, z, o, m1]
    rfl
  have b2 : bodyL (0, 0, 0, 0, 0) = [104, 97, 108, 116] := by
    show nameOf 0 ++ pieces [0, 0, 0, 0] [0, 0, 0, 0] = _
    simp only [pieces, piece]
    rfl
  unfold writtenL
  rw [printL_cons, printL_cons, printL_cons, b0, b1, b2]
  rfl

theorem written_ok : ∀ x ∈ writtenL, okX x := by
  intro x hx
  unfold writtenL at hx
  simp only [List.mem_cons, List.not_mem_nil, or_false] at hx
  rcases hx with rfl | rfl | rfl
  · exact ⟨by decide, by decide, by unfold isInt; decide, ⟨by decide, by decide, by decide, by decide, trivial⟩⟩
  · exact ⟨by decide, by decide, by unfold isInt; decide, ⟨by decide, by decide, by decide, by decide, trivial⟩⟩
  · exact ⟨by decide, by decide, by unfold isInt; decide, ⟨by decide, by decide, by decide, by decide, trivial⟩⟩

theorem written_right : RightL writtenL 2 := by
  refine ⟨by decide, by decide, by decide, by decide, fun i hi => ?_, by decide⟩
  match i, hi with
  | 0, _ => exact ⟨by decide, by decide, by decide⟩
  | 1, _ => exact ⟨by decide, by decide, by decide⟩
  | 2, _ => exact ⟨by decide, by decide, by decide⟩
theorem written_wrong : ¬ RightL writtenL 1 := fun h => by
  have h1 := (h.2.2.2.2.1 1 (by decide)).2.2
  exact absurd h1 (by decide)

def writtenC : Array Value := #[.int .i64 1, .int .i64 0, .int .i64 (-5), .int .i64 0, .int .i64 0, .int .i64 7, .int .i64 1, .int .i64 0, .int .i64 (-1), .int .i64 0, .int .i64 0, .int .i64 0, .int .i64 0, .int .i64 0, .int .i64 0]

theorem written_inss (w : World) : Inss (w.alloc (.cells writtenC 81)) (w.alloc (.cells writtenC 81)).heap.size (some ⟨w.heap.size, 0, none⟩) 3 writtenL := by
  have h := World.ownsRow_lit (base := w.heap.size) (e := 81) (size := 5) w writtenC 3 (Nat.le_refl _) (by decide) rfl
  exact Inss.of_own (c := 3) h rfl

set_option maxHeartbeats 4000000 in
theorem written_true (w : World) (h : CW w) : Calls Tryz.prog 13 #[] w fun e w' => e = .returned (.bool true) ∧ Below w.heap.size w w' := by
  have HP := Lib.hid (parse_any writtenS (by decide) w h)
  have HC := Lib.hid h
  clear h
  unfold strV writtenS at HP
  go_enter Tryz.func13, Tryz.ntmps13
  go_wp2_with fail
  refine HP.out.mono ?_
  rintro e w1 ⟨hb1, ⟨l, A, c, rfl, hown, hok, hpr, hle⟩ | ⟨t, p, rfl, hno⟩⟩
  · obtain rfl : l = writtenL := printL_inj written_ok hok (hpr.trans written_print.symm)
    have hI := Inss.of_own hown rfl
    have hN : writtenL.length = 3 := rfl
    rw [hN] at hI hown ⊢
    have hba := hb1.alloc hb1.size (.cells writtenC 81)
    have hI2 : Inss (w1.alloc (.cells writtenC 81)) (w1.alloc (.cells writtenC 81)).heap.size A 3 writtenL := hI.old ((Below.refl _ _).alloc (Nat.le_refl _) _)
    have HE := Lib.hid (show Calls Tryz.prog 36 #[.slice A 3 c, .slice (some ⟨w1.heap.size, 0, none⟩) 3 3] (w1.alloc (.cells #[.int .i64 1, .int .i64 0, .int .i64 (-5), .int .i64 0, .int .i64 0, .int .i64 7, .int .i64 1, .int .i64 0, .int .i64 (-1), .int .i64 0, .int .i64 0, .int .i64 0, .int .i64 0, .int .i64 0, .int .i64 0] 81)) _ from equalN_same A (some ⟨w1.heap.size, 0, none⟩) 3 c 3 writtenL _ (by decide) _ _ hI2 (written_inss w1))
    have HI2 := Lib.hid hI2
    have HBA := Lib.hid hba
    clear hI2 hba hI hown hb1 hok hpr hle HP hN
    go_wp2_with fail
    refine HE.out.mono ?_
    rintro e w3 ⟨rfl, q, hq⟩
    have hb3 : Below w.heap.size w w3 := by rw [hq]; exact below_drewN HBA.out q
    have hI3 : Inss w3 w3.heap.size A 3 writtenL := by rw [hq]; exact ⟨HI2.out.len, HI2.out.row⟩
    clear hq HE HBA HI2
    have HR2 := Lib.hid (right_any writtenL A 3 c 2 w3 (HC.out.old hb3) hI3)
    have HB3 := Lib.hid hb3
    have HI3 := Lib.hid hI3
    clear hb3 hI3
    go_wp2_with fail
    refine HR2.out.mono ?_
    rintro e w4 ⟨hb4, ⟨rfl, _⟩ | ⟨t, p, rfl, hno⟩⟩
    · have hb4' := HB3.out.trans (hb4.mono HB3.out.size)
      have HR1 := Lib.hid (right_any writtenL A 3 c 1 w4 (HC.out.old hb4') (HI3.out.old hb4))
      have HB4 := Lib.hid hb4'
      clear hb4 hb4' HR2
      go_wp2_with fail
      refine HR1.out.mono ?_
      rintro e w5 ⟨hb5, ⟨rfl, hyes⟩ | ⟨t, p, rfl, hno⟩⟩
      · exact absurd hyes written_wrong
      · have HB5 := Lib.hid (HB4.out.trans (hb5.mono HB4.out.size))
        clear hb5 hno
        go_wp2
        go_ret
        exact ⟨rfl, HB5.out⟩
    · exact absurd written_right hno
  · exact absurd (hno writtenL written_ok written_print) (by decide)
end Go.Proofs.YtaagdmompaphiaaGreatDoor
