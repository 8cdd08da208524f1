/-
  Events as text, as plain functions on lists of bytes: how one is printed, and what text it is that is one. Of no program.
-/
import Derived.Test.YtlikbmbcjipolaaDoorKSaid
import Derived.Test.YtlikbmbcjipolaaDoorCPure
import Derived.Lib.SplitLaws
namespace Go.Proofs.YtlikbmbcjipolaaDoor
set_option maxRecDepth 100000
set_option linter.unusedVariables false
set_option linter.unusedSimpArgs false

def sayW (k : Int) : List UInt8 := if k = 1 then [99, 97, 109, 101] else if k = 2 then [103, 111, 110, 101] else [116, 111, 108, 100]
/-- An event's line, without its line feed. -/
def bodyE (e : Ev4) : List UInt8 := Lib.itoa e.1 ++ 32 :: (sayW e.2.1 ++ 32 :: (Lib.itoa e.2.2.1 ++ 32 :: Lib.itoa e.2.2.2))
def lineE (e : Ev4) : List UInt8 := bodyE e ++ [10]
def storyL (l : List Ev4) : List UInt8 := l.flatMap lineE

/-- An event that may stand behind one of a When. -/
def rightE (ah : Int) (e : Ev4) : Prop := ah < e.1 ∧ 1 ≤ e.2.1 ∧ e.2.1 ≤ 3 ∧ 0 ≤ e.2.2.1 ∧ e.2.2.1 < 16
instance (ah : Int) (e : Ev4) : Decidable (rightE ah e) := by unfold rightE; infer_instance
def rightS : Int → List Ev4 → Prop
  | _, [] => True
  | ah, e :: l => rightE ah e ∧ rightS e.1 l
def lastW (ah : Int) (l : List Ev4) : Int := match l.getLast? with | none => ah | some e => e.1
def intE (e : Ev4) : Prop := isInt e.1 ∧ isInt e.2.1 ∧ isInt e.2.2.1 ∧ isInt e.2.2.2

theorem lastW_nil (ah : Int) : lastW ah [] = ah := rfl
theorem lastW_snoc (ah : Int) (l : List Ev4) (e : Ev4) : lastW ah (l ++ [e]) = e.1 := by unfold lastW; rw [List.getLast?_concat]
theorem lastW_cons (ah : Int) (e : Ev4) (l : List Ev4) : lastW ah (e :: l) = lastW e.1 l := by
  cases l with
  | nil => rfl
  | cons x l =>
    unfold lastW
    rw [List.getLast?_cons_cons]
    cases h : (x :: l).getLast? with
    | none => rw [List.getLast?_eq_none_iff] at h; cases h
    | some y => rfl
theorem rightS_append : ∀ (ah : Int) (l r : List Ev4), rightS ah (l ++ r) ↔ rightS ah l ∧ rightS (lastW ah l) r
  | ah, [], r => by rw [List.nil_append, lastW_nil]; exact ⟨fun h => ⟨trivial, h⟩, fun h => h.2⟩
  | ah, e :: l, r => by
    rw [List.cons_append, rightS, rightS, rightS_append e.1 l r, lastW_cons, and_assoc]
theorem rightS_snoc (ah : Int) (l : List Ev4) (e : Ev4) : rightS ah (l ++ [e]) ↔ rightS ah l ∧ rightE (lastW ah l) e := by
  rw [rightS_append]
  exact ⟨fun h => ⟨h.1, h.2.1⟩, fun h => ⟨h.1, h.2, trivial⟩⟩
theorem rightE_le {a b : Int} (h : b ≤ a) {e : Ev4} (he : rightE a e) : rightE b e := ⟨by have := he.1; omega, he.2⟩
theorem rightS_le {a b : Int} (h : b ≤ a) {l : List Ev4} (hl : rightS a l) : rightS b l := by
  cases l with
  | nil => trivial
  | cons e l => exact ⟨rightE_le h hl.1, hl.2⟩
theorem rightS_mem {ah : Int} : ∀ {l : List Ev4}, rightS ah l → ∀ e ∈ l, 1 ≤ e.2.1 ∧ e.2.1 ≤ 3 ∧ 0 ≤ e.2.2.1 ∧ e.2.2.1 < 16
  | [], _, e, he => by cases he
  | x :: l, h, e, he => by
    rcases List.mem_cons.1 he with rfl | he
    · exact h.1.2
    · exact rightS_mem h.2 e he
theorem rightS_last {ah : Int} : ∀ {l : List Ev4}, rightS ah l → ah ≤ lastW ah l
  | [], _ => Int.le_refl _
  | x :: l, h => by
    rw [lastW_cons]
    have := rightS_last h.2
    have := h.1.1
    omega

theorem storyL_nil : storyL [] = [] := rfl
theorem storyL_cons (e : Ev4) (l : List Ev4) : storyL (e :: l) = bodyE e ++ 10 :: storyL l := by
  show lineE e ++ storyL l = _
  rw [lineE, List.append_assoc]
  rfl
theorem storyL_append (l r : List Ev4) : storyL (l ++ r) = storyL l ++ storyL r := by simp [storyL]
theorem storyL_one (e : Ev4) : storyL [e] = lineE e := by simp [storyL]

/-- A text cut at the first k bytes c. -/
def wordsK (c : UInt8) : Nat → List UInt8 → List (List UInt8)
  | 0, s => [s]
  | k + 1, s => if (cutL c s).2.2 then (cutL c s).1 :: wordsK c k (cutL c s).2.1 else [s]

theorem prefix_one (c b : UInt8) (l : List UInt8) : ([c] : List UInt8).isPrefixOf (b :: l) = (c == b) := by
  simp [List.isPrefixOf]
theorem index_cut (c : UInt8) : ∀ s : List UInt8, Lib.index s [c] = if (cutL c s).2.2 then ((cutL c s).1.length : Int) else -1
  | [] => rfl
  | b :: l => by
    have ih := index_cut c l
    rw [Lib.index, prefix_one, cutL]
    by_cases h : b = c
    · subst h
      simp
    · have hc : (c == b) = false := by simpa using fun e => h e.symm
      rw [hc, if_neg h, ih]
      by_cases hm : (cutL c l).2.2 = true
      · simp only [hm, if_true]
        rw [if_neg (by simp), if_neg (by simp)]
        simp
      · simp only [hm]
        simp
theorem cutL_take (c : UInt8) (s : List UInt8) (h : (cutL c s).2.2 = true) : s.take (cutL c s).1.length = (cutL c s).1 ∧ s.drop ((cutL c s).1.length + 1) = (cutL c s).2.1 := by
  rcases cutL_cases c s with ⟨_, e⟩ | ⟨a, b, e, _, ec⟩
  · rw [e] at h; cases h
  · rw [ec, e]
    exact ⟨by simp, by simp⟩
theorem splitK_words (c : UInt8) : ∀ (k : Nat) (s : List UInt8), Lib.splitK [c] 0 k s = wordsK c k s
  | 0, _ => rfl
  | k + 1, s => by
    rw [Lib.splitK, wordsK, index_cut]
    by_cases h : (cutL c s).2.2 = true
    · obtain ⟨h1, h2⟩ := cutL_take c s h
      simp only [h, if_true]
      rw [if_neg (by simp), Int.toNat_natCast, Nat.add_zero, h1, List.length_singleton, h2, splitK_words c k]
    · simp only [h]
      simp
theorem splitB_words (c : UInt8) (k : Nat) (s : ByteArray) : Lib.splitB ⟨#[c]⟩ 0 k s = (wordsK c k s.data.toList).map fun x => ⟨x.toArray⟩ := by
  have h := Lib.splitB_data ⟨#[c]⟩ 0 k s
  rw [show ((⟨#[c]⟩ : ByteArray).data.toList) = [c] from rfl, splitK_words] at h
  rw [← h, List.map_map]
  conv => lhs; rw [← List.map_id (Lib.splitB ⟨#[c]⟩ 0 k s)]
  apply List.map_congr_left
  intro a _
  show a = ⟨a.data.toList.toArray⟩
  exact (Lib.mk_data a).symm

theorem wordsK_le (c : UInt8) : ∀ (k : Nat) (s : List UInt8), 1 ≤ (wordsK c k s).length ∧ (wordsK c k s).length ≤ k + 1
  | 0, _ => ⟨by simp [wordsK], by simp [wordsK]⟩
  | k + 1, s => by
    rw [wordsK]
    split
    · have := wordsK_le c k (cutL c s).2.1
      simp only [List.length_cons]
      omega
    · simp
theorem wordsK_size (c : UInt8) : ∀ (k : Nat) (s : List UInt8), ∀ x ∈ wordsK c k s, x.length ≤ s.length
  | 0, s, x, hx => by
    rw [wordsK, List.mem_singleton] at hx
    rw [hx]; exact Nat.le_refl _
  | k + 1, s, x, hx => by
    rw [wordsK] at hx
    rcases cutL_cases c s with ⟨_, e⟩ | ⟨a, b, e, _, ec⟩
    · rw [e] at hx
      simp at hx
      rw [hx]; exact Nat.le_refl _
    · rw [ec] at hx
      simp at hx
      have hs := congrArg List.length e
      rw [List.length_append, List.length_cons] at hs
      rcases hx with rfl | hx
      · omega
      · have := wordsK_size c k b x hx
        omega
/-- Words and what stands between them are the text. -/
theorem wordsK_join (c : UInt8) (k : Nat) (s : List UInt8) (a b d e : List UInt8) (h : wordsK c 3 s = [a, b, d, e]) : s = a ++ c :: (b ++ c :: (d ++ c :: e)) := by
  have one : ∀ (k : Nat) (s a : List UInt8) (b : List UInt8) (r : List (List UInt8)), wordsK c (k + 1) s = a :: b :: r → ∃ t, s = a ++ c :: t ∧ wordsK c k t = b :: r := by
    intro k s a b r h
    rw [wordsK] at h
    rcases cutL_cases c s with ⟨_, e⟩ | ⟨x, y, e, _, ec⟩
    · rw [e] at h
      simp at h
    · rw [ec] at h
      simp at h
      exact ⟨y, by rw [e, h.1], h.2⟩
  obtain ⟨t1, rfl, h1⟩ := one 2 s a b [d, e] h
  obtain ⟨t2, rfl, h2⟩ := one 1 t1 b d [e] h1
  obtain ⟨t3, rfl, h3⟩ := one 0 t2 d e [] h2
  rw [wordsK] at h3
  simp at h3
  rw [h3]
theorem wordsK_at (c : UInt8) (k : Nat) (a r : List UInt8) (h : c ∉ a) : wordsK c (k + 1) (a ++ c :: r) = a :: wordsK c k r := by
  rw [wordsK, cutL_at h]; rfl

/-- What has a name. -/
def whatL (w : List UInt8) : Option Int := if w = [99, 97, 109, 101] then some 1 else if w = [103, 111, 110, 101] then some 2 else if w = [116, 111, 108, 100] then some 3 else none
theorem whatL_say {k : Int} (h1 : 1 ≤ k) (h3 : k ≤ 3) : whatL (sayW k) = some k := by
  rcases (by omega : k = 1 ∨ k = 2 ∨ k = 3) with rfl | rfl | rfl <;> rfl
theorem whatL_some {w : List UInt8} {k : Int} (h : whatL w = some k) : sayW k = w ∧ 1 ≤ k ∧ k ≤ 3 := by
  unfold whatL at h
  split at h
  · rename_i e; injection h with h; subst h; exact ⟨e.symm, by decide, by decide⟩
  · split at h
    · rename_i e; injection h with h; subst h; exact ⟨e.symm, by decide, by decide⟩
    · split at h
      · rename_i e; injection h with h; subst h; exact ⟨e.symm, by decide, by decide⟩
      · cases h
theorem sayW_no (k : Int) : (32 : UInt8) ∉ sayW k ∧ (10 : UInt8) ∉ sayW k ∧ (sayW k).length = 4 := by
  unfold sayW
  split
  · decide
  · split <;> decide

/-- The event that four words are. -/
def wordE (a b c d : List UInt8) : Option Ev4 := match numL a, whatL b, numL c, numL d with
  | some x, some k, some t, some v => some (x, k, t, v)
  | _, _, _, _ => none
/-- The event that a line (without its line feed) looks like. -/
def parseE (s : List UInt8) : Option Ev4 := match wordsK 32 3 s with
  | [a, b, c, d] => wordE a b c d
  | _ => none

theorem wordE_some {a b c d : List UInt8} {e : Ev4} (h : wordE a b c d = some e) : numL a = some e.1 ∧ whatL b = some e.2.1 ∧ numL c = some e.2.2.1 ∧ numL d = some e.2.2.2 := by
  unfold wordE at h
  split at h
  · rename_i x k t v h1 h2 h3 h4
    injection h with h
    subst h
    exact ⟨h1, h2, h3, h4⟩
  · cases h
theorem parseE_sound {s : List UInt8} {e : Ev4} (h : parseE s = some e) : bodyE e = s ∧ intE e ∧ 1 ≤ e.2.1 ∧ e.2.1 ≤ 3 := by
  unfold parseE at h
  split at h
  · rename_i a b c d hw
    obtain ⟨h1, h2, h3, h4⟩ := wordE_some h
    obtain ⟨g1, i1⟩ := numL_some h1
    obtain ⟨g3, i3⟩ := numL_some h3
    obtain ⟨g4, i4⟩ := numL_some h4
    obtain ⟨g2, l1, l3⟩ := whatL_some h2
    refine ⟨?_, ⟨i1, ⟨by omega, by omega⟩, i3, i4⟩, l1, l3⟩
    rw [wordsK_join 32 3 s a b c d hw, bodyE, g1, g2, g3, g4]
  · cases h
theorem words_body (e : Ev4) : wordsK 32 3 (bodyE e) = [Lib.itoa e.1, sayW e.2.1, Lib.itoa e.2.2.1, Lib.itoa e.2.2.2] := by
  rw [bodyE, wordsK_at 32 2 _ _ (itoa_no _ 32 (by decide)), wordsK_at 32 1 _ _ (sayW_no _).1, wordsK_at 32 0 _ _ (itoa_no _ 32 (by decide))]
  rfl
theorem parseE_whole {e : Ev4} (hi : intE e) (h1 : 1 ≤ e.2.1) (h3 : e.2.1 ≤ 3) : parseE (bodyE e) = some e := by
  unfold parseE
  rw [words_body]
  show wordE _ _ _ _ = _
  unfold wordE
  rw [numL_itoa _ hi.1, whatL_say h1 h3, numL_itoa _ hi.2.2.1, numL_itoa _ hi.2.2.2]
theorem bodyE_no (e : Ev4) : (10 : UInt8) ∉ bodyE e := by
  have h1 := itoa_no e.1 10 (by decide)
  have h2 := (sayW_no e.2.1).2.1
  have h3 := itoa_no e.2.2.1 10 (by decide)
  have h4 := itoa_no e.2.2.2 10 (by decide)
  unfold bodyE
  simp [h1, h2, h3, h4]
theorem cutL_story (e : Ev4) (l : List Ev4) : cutL 10 (storyL (e :: l)) = (bodyE e, storyL l, true) := by
  rw [storyL_cons, cutL_at (bodyE_no e)]
theorem count_story (l : List Ev4) : (storyL l).count 10 = l.length := by
  induction l with
  | nil => rfl
  | cons x l ih =>
    rw [storyL_cons, List.count_append, List.count_cons, ih, List.count_eq_zero.2 (bodyE_no x)]
    simp

/-- What is read of a text: the events, and whether it is all. -/
def readS : Nat → Int → List UInt8 → List Ev4 × Bool
  | 0, _, s => ([], s.isEmpty)
  | n + 1, ah, s => if s = [] then ([], true) else match parseE (cutL 10 s).1 with
    | none => ([], false)
    | some e => if (cutL 10 s).2.2 = true ∧ rightE ah e then (e :: (readS n e.1 (cutL 10 s).2.1).1, (readS n e.1 (cutL 10 s).2.1).2) else ([], false)

theorem readS_nil (n : Nat) (ah : Int) : readS n ah [] = ([], true) := by cases n <;> rfl
theorem readS_none {n : Nat} {ah : Int} {s : List UInt8} (hs : s ≠ []) (h : parseE (cutL 10 s).1 = none ∨ (cutL 10 s).2.2 = false ∨ (∀ e, parseE (cutL 10 s).1 = some e → ¬ rightE ah e)) : readS n ah s = ([], false) := by
  cases n with
  | zero =>
    rw [readS]
    cases s with
    | nil => exact absurd rfl hs
    | cons => rfl
  | succ n =>
    rw [readS, if_neg hs]
    cases hp : parseE (cutL 10 s).1 with
    | none => rfl
    | some e =>
      simp only
      rw [if_neg]
      rintro ⟨h1, h2⟩
      rcases h with h | h | h
      · rw [hp] at h; cases h
      · rw [h1] at h; cases h
      · exact h e hp h2
theorem readS_some {n : Nat} {ah : Int} {s : List UInt8} (hs : s ≠ []) {e : Ev4} (hp : parseE (cutL 10 s).1 = some e) (hm : (cutL 10 s).2.2 = true) (hr : rightE ah e) : readS (n + 1) ah s = (e :: (readS n e.1 (cutL 10 s).2.1).1, (readS n e.1 (cutL 10 s).2.1).2) := by
  rw [readS, if_neg hs, hp]
  simp only
  rw [if_pos ⟨hm, hr⟩]
theorem cut_less {s : List UInt8} (h : (cutL 10 s).2.2 = true) : (cutL 10 s).2.1.length < s.length := by
  rcases cutL_cases 10 s with ⟨_, e⟩ | ⟨a, b, e, _, ec⟩
  · rw [e] at h; cases h
  · have hs := congrArg List.length e
    rw [List.length_append, List.length_cons] at hs
    rw [ec]
    show b.length < s.length
    omega
/-- More purse does no harm. -/
theorem readS_fuel : ∀ (n m : Nat) (ah : Int) (s : List UInt8), s.length ≤ n → s.length ≤ m → readS n ah s = readS m ah s
  | 0, m, ah, s, h, _ => by
    have : s = [] := List.eq_nil_of_length_eq_zero (by omega)
    subst this
    rw [readS_nil, readS_nil]
  | n + 1, 0, ah, s, _, h => by
    have : s = [] := List.eq_nil_of_length_eq_zero (by omega)
    subst this
    rw [readS_nil, readS_nil]
  | n + 1, m + 1, ah, s, h1, h2 => by
    by_cases hs : s = []
    · subst hs; rw [readS_nil, readS_nil]
    rw [readS, readS, if_neg hs, if_neg hs]
    cases hp : parseE (cutL 10 s).1 with
    | none => rfl
    | some e =>
      simp only
      by_cases hm : (cutL 10 s).2.2 = true
      · have hl := cut_less hm
        rw [readS_fuel n m e.1 (cutL 10 s).2.1 (by omega) (by omega)]
      · rw [if_neg (fun h => hm h.1), if_neg (fun h => hm h.1)]
def storyP (s : List UInt8) : List Ev4 × Bool := readS s.length 0 s

theorem readS_sound : ∀ (n : Nat) (ah : Int) (s : List UInt8), s.length ≤ n → rightS ah (readS n ah s).1 ∧ (∀ e ∈ (readS n ah s).1, intE e) ∧ ((readS n ah s).2 = true → storyL (readS n ah s).1 = s)
  | 0, ah, s, h => by
    have : s = [] := List.eq_nil_of_length_eq_zero (by omega)
    subst this
    exact ⟨trivial, (fun e he => by cases he), fun _ => rfl⟩
  | n + 1, ah, s, h => by
    by_cases hs : s = []
    · subst hs; rw [readS_nil]; exact ⟨trivial, (fun e he => by cases he), fun _ => rfl⟩
    cases hp : parseE (cutL 10 s).1 with
    | none => rw [readS_none hs (.inl hp)]; exact ⟨trivial, (fun e he => by cases he), fun h => by cases h⟩
    | some e =>
      by_cases hm : (cutL 10 s).2.2 = true ∧ rightE ah e
      · rw [readS_some hs hp hm.1 hm.2]
        have hl := cut_less hm.1
        obtain ⟨h1, h2, h3⟩ := readS_sound n e.1 (cutL 10 s).2.1 (by omega)
        obtain ⟨g1, g2, _⟩ := parseE_sound hp
        refine ⟨⟨hm.2, h1⟩, fun x hx => ?_, fun ht => ?_⟩
        · rcases List.mem_cons.1 hx with rfl | hx
          · exact g2
          · exact h2 x hx
        · show storyL (e :: _) = s
          rw [storyL_cons, g1, h3 ht]
          rcases cutL_cases 10 s with ⟨_, e⟩ | ⟨a, b, e, _, ec⟩
          · rw [e] at hm; cases hm.1
          · rw [ec, e]
      · rw [readS_none hs]
        · exact ⟨trivial, (fun e he => by cases he), fun h => by cases h⟩
        · by_cases h2 : (cutL 10 s).2.2 = true
          · refine .inr (.inr fun x hx => ?_)
            rw [hp] at hx
            injection hx with hx
            subst hx
            exact fun h => hm ⟨h2, h⟩
          · exact .inr (.inl (by simpa using h2))
theorem readS_whole : ∀ (l : List Ev4) (ah : Int) (n : Nat), rightS ah l → (∀ e ∈ l, intE e) → (storyL l).length ≤ n → readS n ah (storyL l) = (l, true)
  | [], ah, n, _, _, _ => readS_nil n ah
  | e :: l, ah, n, h, hi, hn => by
    have hc := cutL_story e l
    have hne : storyL (e :: l) ≠ [] := by rw [storyL_cons]; simp
    have hlen : (storyL (e :: l)).length = (bodyE e).length + ((storyL l).length + 1) := by rw [storyL_cons, List.length_append, List.length_cons]
    obtain ⟨k, rfl⟩ : ∃ k, n = k + 1 := ⟨n - 1, by omega⟩
    have hp : parseE (cutL 10 (storyL (e :: l))).1 = some e := by rw [hc]; exact parseE_whole (hi e (by simp)) h.1.2.1 h.1.2.2.1
    rw [readS_some hne hp (by rw [hc]) h.1, hc]
    show (e :: (readS k e.1 (storyL l)).1, (readS k e.1 (storyL l)).2) = _
    rw [readS_whole l e.1 k h.2 (fun x hx => hi x (by simp [hx])) (by omega)]

theorem storyP_whole {l : List Ev4} (h : rightS 0 l) (hi : ∀ e ∈ l, intE e) : storyP (storyL l) = (l, true) := readS_whole l 0 _ h hi (Nat.le_refl _)
theorem storyP_sound {s : List UInt8} (h : (storyP s).2 = true) : storyL (storyP s).1 = s := (readS_sound _ 0 s (Nat.le_refl _)).2.2 h
theorem storyP_right (s : List UInt8) : rightS 0 (storyP s).1 ∧ ∀ e ∈ (storyP s).1, intE e := ⟨(readS_sound _ 0 s (Nat.le_refl _)).1, (readS_sound _ 0 s (Nat.le_refl _)).2.1⟩

/-- What is read of a text of which a beginning is read. -/
def Read (S : List UInt8) (l : List Ev4) (s : List UInt8) : Prop := storyP S = (l ++ (readS s.length (lastW 0 l) s).1, (readS s.length (lastW 0 l) s).2) ∧ rightS 0 l ∧ (∀ e ∈ l, intE e) ∧ S = storyL l ++ s
theorem Read.start (S : List UInt8) : Read S [] S := ⟨rfl, trivial, (fun e he => by cases he), rfl⟩
theorem Read.fin {S : List UInt8} {l : List Ev4} (h : Read S l []) : storyP S = (l, true) := by
  rw [h.1, readS_nil, List.append_nil]
theorem Read.bad {S : List UInt8} {l : List Ev4} {s : List UInt8} (h : Read S l s) (hs : s ≠ []) (hb : parseE (cutL 10 s).1 = none ∨ (cutL 10 s).2.2 = false ∨ (∀ e, parseE (cutL 10 s).1 = some e → ¬ rightE (lastW 0 l) e)) : storyP S = (l, false) := by
  rw [h.1, readS_none hs hb, List.append_nil]
theorem Read.next {S : List UInt8} {l : List Ev4} {s : List UInt8} (h : Read S l s) (hs : s ≠ []) {e : Ev4} (hp : parseE (cutL 10 s).1 = some e) (hm : (cutL 10 s).2.2 = true) (hr : rightE (lastW 0 l) e) : Read S (l ++ [e]) (cutL 10 s).2.1 := by
  have hl := cut_less hm
  obtain ⟨k, hk⟩ : ∃ k, s.length = k + 1 := ⟨s.length - 1, by omega⟩
  obtain ⟨g1, g2, _⟩ := parseE_sound hp
  obtain ⟨h1, h2, h3, h4⟩ := h
  refine ⟨?_, (rightS_snoc 0 l e).2 ⟨h2, hr⟩, fun x hx => ?_, ?_⟩
  · rw [h1, hk, readS_some hs hp hm hr, lastW_snoc, readS_fuel k (cutL 10 s).2.1.length e.1 _ (by omega) (Nat.le_refl _), List.append_assoc]
    rfl
  · rcases List.mem_append.1 hx with hx | hx
    · exact h3 x hx
    · rw [List.mem_singleton.1 hx]; exact g2
  · rw [h4, storyL_append, storyL_one, lineE, g1, List.append_assoc, List.append_assoc]
    congr 1
    rcases cutL_cases 10 s with ⟨_, e⟩ | ⟨a, b, e, _, ec⟩
    · rw [e] at hm; cases hm
    · rw [ec, e]; rfl
theorem Read.few {S : List UInt8} {l : List Ev4} {s : List UInt8} (h : Read S l s) : l.length + s.length ≤ S.length := by
  have h4 := congrArg List.length h.2.2.2
  rw [List.length_append] at h4
  have : l.length ≤ (storyL l).length := by
    rw [← count_story l]
    exact List.count_le_length
  omega
end Go.Proofs.YtlikbmbcjipolaaDoor
