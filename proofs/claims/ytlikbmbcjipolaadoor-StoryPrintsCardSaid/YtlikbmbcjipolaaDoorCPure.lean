/-
  Instructions as text, as plain functions on lists of bytes: how one is printed, and what text it is that is one. Of no program.
-/
import Derived.Lib.ItoaNum
import Derived.Lib.AtoiAll
import Derived.Lib.Bytealg
namespace Go.Proofs.YtlikbmbcjipolaaDoor
set_option maxRecDepth 100000

/-- An instruction: its Op, A, B, C, D. -/
abbrev In5 := Int × Int × Int × Int × Int

def nums (x : In5) : List Int := [x.2.1, x.2.2.1, x.2.2.2.1, x.2.2.2.2]

def names : List (List UInt8) := [[104, 97, 108, 116], [108, 101, 116], [99, 111, 112, 121], [112, 108, 117, 115], [115, 117, 109], [102, 105, 101, 108, 100], [108, 111, 97, 100], [115, 116, 111, 114, 101], [102, 101, 116, 99, 104], [115, 119, 97, 112], [106, 117, 109, 112], [115, 97, 109, 101], [108, 101, 115, 115], [101, 113, 117, 97, 108], [119, 97, 105, 116], [119, 97, 107, 101], [115, 97, 121]]
def kinds : List (List Nat) := [[0, 0, 0, 0], [1, 3, 0, 0], [1, 1, 0, 0], [1, 1, 3, 0], [1, 1, 1, 0], [1, 1, 6, 7], [1, 2, 0, 0], [2, 1, 5, 0], [1, 2, 3, 0], [1, 2, 1, 1], [4, 0, 0, 0], [1, 3, 4, 0], [1, 1, 4, 0], [1, 1, 4, 0], [2, 1, 0, 0], [2, 3, 5, 0], [3, 1, 0, 0]]

def nameOf (op : Nat) : List UInt8 := names.getD op []
def kindsOf (op : Nat) : List Nat := kinds.getD op []

/-- A number that an instruction has is printed behind a blank. -/
def piece (k : Nat) (n : Int) : List UInt8 := if k = 0 then [] else 32 :: Lib.itoa n

def pieces : List Nat → List Int → List UInt8
  | k :: ks, n :: ns => piece k n ++ pieces ks ns
  | _, _ => []

/-- An instruction's line, without its line feed. -/
def bodyL (x : In5) : List UInt8 := nameOf x.1.toNat ++ pieces (kindsOf x.1.toNat) (nums x)
def lineL (x : In5) : List UInt8 := bodyL x ++ [10]
def printL (l : List In5) : List UInt8 := l.flatMap lineL

def isInt (n : Int) : Prop := -9223372036854775808 ≤ n ∧ n ≤ 9223372036854775807
/-- Numbers where they are named, 0 elsewhere. -/
def zeros : List Nat → List Int → Prop
  | k :: ks, n :: ns => (k = 0 → n = 0) ∧ zeros ks ns
  | _, _ => True
/-- An instruction that is told whole by its line. -/
def okX (x : In5) : Prop := 0 ≤ x.1 ∧ x.1 < 17 ∧ (∀ n ∈ nums x, isInt n) ∧ zeros (kindsOf x.1.toNat) (nums x)

/-- Text ahead of the first byte c, behind it, and whether there is one. -/
def cutL (c : UInt8) : List UInt8 → List UInt8 × List UInt8 × Bool
  | [] => ([], [], false)
  | b :: l => if b = c then ([], l, true) else (b :: (cutL c l).1, (cutL c l).2.1, (cutL c l).2.2)

theorem cutL_no {c : UInt8} : ∀ {s : List UInt8}, c ∉ s → cutL c s = (s, [], false)
  | [], _ => rfl
  | b :: l, h => by
    have hb : b ≠ c := fun e => h (by simp [e])
    have hl : c ∉ l := fun e => h (by simp [e])
    rw [cutL, if_neg hb, cutL_no hl]

theorem cutL_at {c : UInt8} : ∀ {a b : List UInt8}, c ∉ a → cutL c (a ++ c :: b) = (a, b, true)
  | [], b, _ => by simp [cutL]
  | x :: a, b, h => by
    have hx : x ≠ c := fun e => h (by simp [e])
    have ha : c ∉ a := fun e => h (by simp [e])
    rw [List.cons_append, cutL, if_neg hx, cutL_at ha]

theorem cutL_cases (c : UInt8) (s : List UInt8) : (c ∉ s ∧ cutL c s = (s, [], false)) ∨ ∃ a b, s = a ++ c :: b ∧ c ∉ a ∧ cutL c s = (a, b, true) := by
  by_cases h : c ∈ s
  · obtain ⟨a, b, e, hn⟩ : ∃ a b, s = a ++ c :: b ∧ c ∉ a := by
      induction s with
      | nil => cases h
      | cons x s ih =>
        by_cases hx : x = c
        · exact ⟨[], s, by simp [hx], by simp⟩
        · have : c ∈ s := by
            rcases List.mem_cons.1 h with e | e
            · exact absurd e.symm hx
            · exact e
          obtain ⟨a, b, e, hn⟩ := ih this
          exact ⟨x :: a, b, by simp [e], by
            intro hm
            rcases List.mem_cons.1 hm with e2 | e2
            · exact hx e2.symm
            · exact hn e2⟩
    exact .inr ⟨a, b, e, hn, by rw [e, cutL_at hn]⟩
  · exact .inl ⟨h, cutL_no h⟩

/-- The number that a word is, if it is one, and printed so. -/
def numL (w : List UInt8) : Option Int := match Lib.atoiAll w with
  | .ok n => if Lib.itoa n = w then some n else none
  | _ => none

theorem atoiAll_int {w : List UInt8} {n : Int} (h : Lib.atoiAll w = .ok n) : isInt n := by
  unfold Lib.atoiAll at h
  cases w with
  | nil => cases h
  | cons c r =>
    simp only at h
    split at h
    · cases h
    · cases h
    · rename_i u _
      split at h
      · cases h
      · split at h
        · cases h
        · rename_i h1 h2
          injection h with h
          subst h
          unfold isInt
          split <;> rename_i hc <;> simp only [hc, true_and, false_and, not_true_eq_false, not_false_eq_true] at h1 h2 <;> omega

theorem numL_some {w : List UInt8} {n : Int} (h : numL w = some n) : Lib.itoa n = w ∧ isInt n := by
  unfold numL at h
  split at h
  · rename_i m hm
    split at h
    · rename_i he
      injection h with h
      subst h
      exact ⟨he, atoiAll_int hm⟩
    · cases h
  · cases h

theorem parse_append (l : List UInt8) (c : UInt8) : ∀ (acc v : Nat), Lib.parseUint10 acc l = .ok v → 48 ≤ c.toNat → c.toNat ≤ 57 → v < 1844674407370955162 → v * 10 + (c.toNat - 48) < 18446744073709551616 → Lib.parseUint10 acc (l ++ [c]) = .ok (v * 10 + (c.toNat - 48)) := by
  induction l with
  | nil =>
    intro acc v h h1 h2 h3 h4
    simp only [Lib.parseUint10] at h
    injection h with h
    subst h
    rw [List.nil_append, Lib.parseUint10, if_pos ⟨h1, h2⟩, if_neg (by omega), if_neg (by omega), Lib.parseUint10]
  | cons b l ih =>
    intro acc v h h1 h2 h3 h4
    rw [List.cons_append, Lib.parseUint10]
    rw [Lib.parseUint10] at h
    split at h
    · rename_i hb
      rw [if_pos hb]
      split at h
      · cases h
      · rename_i hb2
        rw [if_neg hb2]
        split at h
        · cases h
        · rename_i hb3
          rw [if_neg hb3]
          exact ih _ _ h h1 h2 h3 h4
    · cases h

theorem digit_toNat {d : Nat} (h : d < 10) : (UInt8.ofNat (48 + d)).toNat = 48 + d := by
  rw [UInt8.toNat_ofNat']
  omega

theorem parse_dec (u : Nat) (hu : u < 18446744073709551616) : Lib.parseUint10 0 (Lib.decDigits u) = .ok u := by
  induction u using Nat.strongRecOn with
  | _ u ih =>
    by_cases h : u < 10
    · rw [Lib.decDigits, dif_pos h, Lib.parseUint10, digit_toNat h, if_pos (by omega), if_neg (by omega), if_neg (by omega), Lib.parseUint10]
      congr 1
      omega
    · rw [Lib.decDigits, dif_neg h]
      have hd : u % 10 < 10 := Nat.mod_lt _ (by decide)
      have := parse_append (Lib.decDigits (u / 10)) (UInt8.ofNat (48 + u % 10)) 0 (u / 10) (ih _ (by omega) (by omega)) (by rw [digit_toNat hd]; omega) (by rw [digit_toNat hd]; omega) (by omega) (by rw [digit_toNat hd]; omega)
      rw [this, digit_toNat hd]
      congr 1
      omega

theorem decDigits_mem (u : Nat) : ∀ b ∈ Lib.decDigits u, 48 ≤ b.toNat ∧ b.toNat ≤ 57 := by
  induction u using Nat.strongRecOn with
  | _ u ih =>
    intro b hb
    by_cases h : u < 10
    · rw [Lib.decDigits, dif_pos h, List.mem_singleton] at hb
      subst hb
      rw [digit_toNat h]
      omega
    · rw [Lib.decDigits, dif_neg h, List.mem_append, List.mem_singleton] at hb
      rcases hb with hb | rfl
      · exact ih _ (by omega) b hb
      · rw [digit_toNat (Nat.mod_lt _ (by decide))]
        omega

theorem decDigits_ne (u : Nat) : Lib.decDigits u ≠ [] := by
  rw [Lib.decDigits]
  split
  · exact List.cons_ne_nil _ _
  · simp

theorem itoa_mem (n : Int) : ∀ b ∈ Lib.itoa n, b.toNat = 45 ∨ (48 ≤ b.toNat ∧ b.toNat ≤ 57) := by
  intro b hb
  unfold Lib.itoa at hb
  split at hb
  · rcases List.mem_cons.1 hb with rfl | hb
    · exact .inl rfl
    · exact .inr (decDigits_mem _ b hb)
  · exact .inr (decDigits_mem _ b hb)

theorem itoa_no (n : Int) (c : UInt8) (h : c.toNat < 45) : c ∉ Lib.itoa n := fun hm => by
  rcases itoa_mem n c hm with h1 | h1 <;> omega

theorem numL_itoa (n : Int) (h : isInt n) : numL (Lib.itoa n) = some n := by
  have he : Lib.atoiAll (Lib.itoa n) = .ok n := by
    obtain ⟨h1, h2⟩ := h
    unfold Lib.itoa
    by_cases hn : n < 0
    · rw [if_pos hn]
      unfold Lib.atoiAll Lib.parseMag
      simp only [show (45 : UInt8).toNat = 45 from rfl, or_true, if_true, decDigits_ne, if_false, parse_dec n.natAbs (by omega), not_true_eq_false, false_and, true_and]
      rw [if_neg (by omega)]
      congr 1
      omega
    · rw [if_neg hn]
      obtain ⟨c, r, hc⟩ : ∃ c r, Lib.decDigits n.toNat = c :: r := by
        cases hd : Lib.decDigits n.toNat with
        | nil => exact absurd hd (decDigits_ne _)
        | cons c r => exact ⟨c, r, rfl⟩
      have hm := decDigits_mem n.toNat c (by rw [hc]; simp)
      have hp := parse_dec n.toNat (by omega)
      rw [hc] at hp ⊢
      unfold Lib.atoiAll Lib.parseMag
      have g1 : ¬ (c.toNat = 43 ∨ c.toNat = 45) := by omega
      have g2 : ¬ c.toNat = 45 := by omega
      have g3 : (if c.toNat = 43 ∨ c.toNat = 45 then r else c :: r) = c :: r := if_neg g1
      simp only [g3, if_neg (List.cons_ne_nil c r), hp]
      simp only [g2, not_false_eq_true, true_and, false_and, if_false]
      rw [if_neg (by omega)]
      congr 1
      omega
  unfold numL
  rw [he]
  simp

/-- The numbers of a line: what is left, and whether more is told. -/
def argsL : List Nat → List UInt8 → Bool → Option (List Int × Bool)
  | [], _, m => some ([], m)
  | k :: ks, r, m => if k = 0 then (argsL ks r m).map fun y => (0 :: y.1, y.2) else if m = false then none else match numL (cutL 32 r).1 with
    | none => none
    | some n => (argsL ks (cutL 32 r).2.1 (cutL 32 r).2.2).map fun y => (n :: y.1, y.2)

/-- What stands behind what was read. -/
def tailL (r : List UInt8) (m : Bool) : List UInt8 := if m then 32 :: r else []

theorem cutL_tail (r : List UInt8) : r = (cutL 32 r).1 ++ tailL (cutL 32 r).2.1 (cutL 32 r).2.2 := by
  rcases cutL_cases 32 r with ⟨_, e⟩ | ⟨a, b, e, _, ec⟩
  · rw [e]; simp [tailL]
  · rw [ec, e]; simp [tailL]

theorem argsL_sound : ∀ (ks : List Nat) (r : List UInt8) (m : Bool) (l : List Int), argsL ks r m = some (l, false) → tailL r m = pieces ks l ∧ l.length = ks.length ∧ zeros ks l ∧ ∀ n ∈ l, isInt n
  | [], r, m, l, h => by
    simp only [argsL, Option.some.injEq, Prod.mk.injEq] at h
    obtain ⟨rfl, rfl⟩ := h
    exact ⟨rfl, rfl, trivial, fun n hn => by cases hn⟩
  | k :: ks, r, m, l, h => by
    rw [argsL] at h
    split at h
    · rename_i hk
      obtain ⟨y, hy, he⟩ := Option.map_eq_some_iff.1 h
      obtain ⟨y1, y2⟩ := y
      simp only [Prod.mk.injEq] at he
      obtain ⟨rfl, rfl⟩ := he
      obtain ⟨h1, h2, h3, h4⟩ := argsL_sound ks r m y1 hy
      refine ⟨by rw [pieces, piece, if_pos hk, List.nil_append, h1], by simp [h2], ⟨fun _ => rfl, h3⟩, fun n hn => ?_⟩
      rcases List.mem_cons.1 hn with rfl | hn
      · exact ⟨by decide, by decide⟩
      · exact h4 n hn
    · rename_i hk
      split at h
      · cases h
      · rename_i hm
        split at h
        · cases h
        · rename_i n hn
          obtain ⟨y, hy, he⟩ := Option.map_eq_some_iff.1 h
          obtain ⟨y1, y2⟩ := y
          simp only [Prod.mk.injEq] at he
          obtain ⟨rfl, rfl⟩ := he
          obtain ⟨h1, h2, h3, h4⟩ := argsL_sound ks _ _ y1 hy
          obtain ⟨g1, g2⟩ := numL_some hn
          have hm' : m = true := by simpa using hm
          refine ⟨?_, by simp [h2], ⟨fun e => absurd e hk, h3⟩, fun z hz => ?_⟩
          · rw [pieces, piece, if_neg hk, g1, List.cons_append, ← h1, ← cutL_tail, tailL, if_pos hm']
          · rcases List.mem_cons.1 hz with rfl | hz
            · exact g2
            · exact h4 z hz

theorem pieces_head : ∀ (ks : List Nat) (l : List Int), pieces ks l = [] ∨ ∃ r, pieces ks l = 32 :: r
  | [], _ => .inl rfl
  | _ :: _, [] => .inl rfl
  | k :: ks, n :: ns => by
    rw [pieces, piece]
    by_cases hk : k = 0
    · rw [if_pos hk, List.nil_append]
      exact pieces_head ks ns
    · rw [if_neg hk]
      exact .inr ⟨_, rfl⟩

/-- A word and what stands behind it, cut. -/
theorem cutL_word (w p : List UInt8) (hw : (32 : UInt8) ∉ w) (hp : p = [] ∨ ∃ r, p = 32 :: r) : (cutL 32 (w ++ p)).1 = w ∧ tailL (cutL 32 (w ++ p)).2.1 (cutL 32 (w ++ p)).2.2 = p := by
  rcases hp with rfl | ⟨r, rfl⟩
  · rw [List.append_nil, cutL_no hw]
    exact ⟨rfl, rfl⟩
  · rw [cutL_at hw]
    exact ⟨rfl, rfl⟩

theorem argsL_whole : ∀ (ks : List Nat) (r : List UInt8) (m : Bool) (l : List Int), l.length = ks.length → tailL r m = pieces ks l → zeros ks l → (∀ n ∈ l, isInt n) → argsL ks r m = some (l, false)
  | [], r, m, l, hl, ht, _, _ => by
    obtain rfl := List.eq_nil_of_length_eq_zero hl
    rw [argsL]
    cases m with
    | false => rfl
    | true => cases ht
  | k :: ks, r, m, [], hl, _, _, _ => by cases hl
  | k :: ks, r, m, n :: ns, hl, ht, hz, hi => by
    have hl' : ns.length = ks.length := by simpa using hl
    rw [argsL]
    rw [pieces, piece] at ht
    by_cases hk : k = 0
    · rw [if_pos hk] at ht ⊢
      rw [List.nil_append] at ht
      rw [argsL_whole ks r m ns hl' ht hz.2 (fun z hz => hi z (by simp [hz]))]
      have := hz.1 hk
      subst this
      rfl
    · rw [if_neg hk] at ht ⊢
      cases m with
      | false => cases ht
      | true =>
        rw [tailL, if_pos rfl, List.cons_append] at ht
        injection ht with _ ht
        obtain ⟨g1, g2⟩ := cutL_word (Lib.itoa n) (pieces ks ns) (itoa_no n 32 (by decide)) (pieces_head ks ns)
        rw [← ht] at g1 g2
        rw [if_neg (by simp), g1, numL_itoa n (hi n (by simp))]
        simp only
        rw [argsL_whole ks _ _ ns hl' g2 hz.2 (fun z hz => hi z (by simp [hz]))]
        rfl

/-- The Op of a name. -/
def namedL (s : List UInt8) : Option Nat := (List.range 17).find? fun op => nameOf op == s

theorem namedL_some {s : List UInt8} {op : Nat} (h : namedL s = some op) : op < 17 ∧ nameOf op = s := by
  unfold namedL at h
  have h1 := List.find?_some h
  have h2 := List.mem_of_find?_eq_some h
  exact ⟨List.mem_range.1 h2, by simpa using h1⟩

theorem namedL_name : ∀ op, op < 17 → namedL (nameOf op) = some op := by decide

theorem names_no (op : Nat) (h : op < 17) : (32 : UInt8) ∉ nameOf op ∧ (10 : UInt8) ∉ nameOf op := (by decide : ∀ op, op < 17 → (32 : UInt8) ∉ nameOf op ∧ (10 : UInt8) ∉ nameOf op) op h
theorem kinds_len (op : Nat) (h : op < 17) : (kindsOf op).length = 4 := (by decide : ∀ op, op < 17 → (kindsOf op).length = 4) op h

def toX (op : Nat) (l : List Int) : In5 := (op, l.getD 0 0, l.getD 1 0, l.getD 2 0, l.getD 3 0)

/-- The instruction that a line (without its line feed) is. -/
def parseX (line : List UInt8) : Option In5 := match namedL (cutL 32 line).1 with
  | none => none
  | some op => match argsL (kindsOf op) (cutL 32 line).2.1 (cutL 32 line).2.2 with
    | none => none
    | some y => if y.2 then none else some (toX op y.1)

theorem list4 {l : List Int} (h : l.length = 4) : [l.getD 0 0, l.getD 1 0, l.getD 2 0, l.getD 3 0] = l := by
  match l, h with
  | [a, b, c, d], _ => rfl

theorem parseX_sound {line : List UInt8} {x : In5} (h : parseX line = some x) : okX x ∧ bodyL x = line := by
  unfold parseX at h
  split at h
  · cases h
  · rename_i op hop
    split at h
    · cases h
    · rename_i y hy
      split at h
      · cases h
      · rename_i hm
        injection h with h
        subst h
        obtain ⟨y1, y2⟩ := y
        have hm' : y2 = false := by simpa using hm
        subst hm'
        obtain ⟨h1, h2, h3, h4⟩ := argsL_sound _ _ _ _ hy
        obtain ⟨g1, g2⟩ := namedL_some hop
        rw [kinds_len op g1] at h2
        have hn : nums (toX op y1) = y1 := list4 h2
        have ht : (toX op y1).1.toNat = op := by simp [toX]
        refine ⟨⟨by simp [toX], by simp only [toX]; omega, by rw [hn]; exact h4, by rw [hn, ht]; exact h3⟩, ?_⟩
        rw [bodyL, ht, hn, g2, ← h1, ← cutL_tail]

theorem parseX_whole {x : In5} (h : okX x) : parseX (bodyL x) = some x := by
  obtain ⟨h1, h2, h3, h4⟩ := h
  have hop : x.1.toNat < 17 := by omega
  obtain ⟨g1, g2⟩ := cutL_word (nameOf x.1.toNat) (pieces (kindsOf x.1.toNat) (nums x)) (names_no _ hop).1 (pieces_head _ _)
  unfold parseX
  rw [bodyL, g1, namedL_name _ hop]
  simp only
  rw [argsL_whole (kindsOf x.1.toNat) _ _ (nums x) (by rw [kinds_len _ hop]; rfl) g2 h4 h3]
  simp only [Bool.false_eq_true, if_false, Option.some.injEq]
  obtain ⟨o, a, b, c, d⟩ := x
  show ((o.toNat : Int), a, b, c, d) = _
  have : (o.toNat : Int) = o := by simp only at h1; omega
  rw [this]

theorem pieces_no : ∀ (ks : List Nat) (l : List Int), (10 : UInt8) ∉ pieces ks l
  | [], _ => by simp [pieces]
  | _ :: _, [] => by simp [pieces]
  | k :: ks, n :: ns => by
    rw [pieces, piece, List.mem_append]
    rintro (h | h)
    · split at h
      · cases h
      · rcases List.mem_cons.1 h with h | h
        · exact absurd h (by decide)
        · exact itoa_no n 10 (by decide) h
    · exact pieces_no ks ns h

theorem bodyL_no {x : In5} (h : okX x) : (10 : UInt8) ∉ bodyL x := by
  rw [bodyL, List.mem_append]
  rintro (hm | hm)
  · exact (names_no _ (by have := h.1; have := h.2.1; omega)).2 hm
  · exact pieces_no _ _ hm

/-- The first line of a text that is printed. -/
theorem cutL_print (x : In5) (l : List In5) (h : okX x) : cutL 10 (printL (x :: l)) = (bodyL x, printL l, true) := by
  show cutL 10 (lineL x ++ printL l) = _
  rw [lineL, List.append_assoc, List.singleton_append, cutL_at (bodyL_no h)]

theorem printL_nil : printL [] = [] := rfl
theorem printL_cons (x : In5) (l : List In5) : printL (x :: l) = bodyL x ++ 10 :: printL l := by
  show lineL x ++ printL l = _
  rw [lineL, List.append_assoc]
  rfl
theorem printL_append (l r : List In5) : printL (l ++ r) = printL l ++ printL r := by simp [printL]

/-- A text that begins as one that is printed goes on as one. -/
theorem printL_split : ∀ (l l' : List In5) (s : List UInt8), (∀ x ∈ l, okX x) → (∀ x ∈ l', okX x) → printL l' = printL l ++ s → ∃ r, l' = l ++ r ∧ printL r = s
  | [], l', s, _, _, h => ⟨l', rfl, h⟩
  | x :: l, [], s, _, _, h => by
    rw [printL_nil, printL_cons] at h
    simp at h
  | x :: l, y :: l', s, h1, h2, h => by
    have hx := h1 x (by simp)
    have hy := h2 y (by simp)
    have e1 := cutL_print y l' hy
    rw [h, printL_cons, List.append_assoc, List.cons_append, cutL_at (bodyL_no hx)] at e1
    simp only [Prod.mk.injEq, and_true] at e1
    obtain ⟨e1, e2⟩ := e1
    have hxy : x = y := by
      have := parseX_whole hx
      rw [e1, parseX_whole hy] at this
      injection this with this
      exact this.symm
    subst hxy
    obtain ⟨r, hr, hs⟩ := printL_split l l' s (fun z hz => h1 z (by simp [hz])) (fun z hz => h2 z (by simp [hz])) e2.symm
    exact ⟨r, by rw [hr]; rfl, hs⟩

theorem printL_inj {l l' : List In5} (h1 : ∀ x ∈ l, okX x) (h2 : ∀ x ∈ l', okX x) (h : printL l' = printL l) : l' = l := by
  obtain ⟨r, hr, hs⟩ := printL_split l l' [] h1 h2 (by rw [h, List.append_nil])
  cases r with
  | nil => rw [hr, List.append_nil]
  | cons x r =>
    rw [printL_cons] at hs
    simp at hs
end Go.Proofs.YtlikbmbcjipolaaDoor
