/-
  A phaser's states, as words, and what comes of calls: plain functions of chapters 18 and 19.
-/
import Derived.Test.YtaklikgdlalhdaaDoorBase
import Derived.Laws.BitsLemmas
import Derived.Laws.BitsAllLaws
namespace Go.Proofs.YtaklikgdlalhdaaDoor
set_option maxRecDepth 100000
open Go.RowKit

/-- A phaser's state. -/
structure PhS where
  o : Bool
  f : Int
  p : Int
  q : Int
theorem PhS.ext_iff' {x y : PhS} : x = y ↔ x.o = y.o ∧ x.f = y.f ∧ x.p = y.p ∧ x.q = y.q := by
  constructor
  · rintro rfl
    exact ⟨rfl, rfl, rfl, rfl⟩
  · obtain ⟨a, b, c, d⟩ := x
    obtain ⟨a', b', c', d'⟩ := y
    rintro ⟨rfl, rfl, rfl, rfl⟩
    rfl
/-- It may be. -/
def PhS.ok (x : PhS) : Prop := (0 ≤ x.f ∧ x.f ≤ 2147483647) ∧ (0 ≤ x.p ∧ x.p ≤ 65535) ∧ (0 ≤ x.q ∧ x.q ≤ x.p)
theorem PhS.ok_or (x : PhS) : x.ok ∨ ¬ x.ok := Classical.em _
def overW (o : Bool) : Int := match o with
  | true => 9223372036854775808
  | false => 0
/-- Its word. -/
def PhS.word (x : PhS) : Int := x.q + 65536 * x.p + 4294967296 * x.f + overW x.o
/-- A word's parts. -/
def phOf (w : Int) : PhS := ⟨decide (9223372036854775808 ≤ w), w / 4294967296 % 2147483648, w / 65536 % 65536, w % 65536⟩
theorem overW_cases (o : Bool) : (o = true ∧ overW o = 9223372036854775808) ∨ (o = false ∧ overW o = 0) := by
  cases o
  · exact .inr ⟨rfl, rfl⟩
  · exact .inl ⟨rfl, rfl⟩
theorem PhS.word_lt {x : PhS} (h : x.ok) : 0 ≤ x.word ∧ x.word < 18446744073709551616 := by
  obtain ⟨⟨a, b⟩, ⟨c, d⟩, e, f⟩ := h
  unfold PhS.word
  rcases overW_cases x.o with ⟨_, h⟩ | ⟨_, h⟩ <;> rw [h] <;> omega
theorem of_word {x : PhS} (h : x.ok) : phOf x.word = x := by
  obtain ⟨⟨a, b⟩, ⟨c, d⟩, e, f⟩ := h
  unfold PhS.word phOf
  rw [PhS.ext_iff']
  rcases overW_cases x.o with ⟨h1, h⟩ | ⟨h1, h⟩ <;> rw [h, h1]
  · exact ⟨decide_eq_true (by omega), by show _ / _ % _ = _; omega, by show _ / _ % _ = _; omega, by show _ % _ = _; omega⟩
  · exact ⟨decide_eq_false (by omega), by show _ / _ % _ = _; omega, by show _ / _ % _ = _; omega, by show _ % _ = _; omega⟩
theorem word_of {w : Int} (h0 : 0 ≤ w) (h1 : w < 18446744073709551616) : (phOf w).word = w := by
  unfold PhS.word phOf
  by_cases h : 9223372036854775808 ≤ w
  · rw [decide_eq_true h]
    show w % 65536 + 65536 * (w / 65536 % 65536) + 4294967296 * (w / 4294967296 % 2147483648) + 9223372036854775808 = w
    omega
  · rw [decide_eq_false h]
    show w % 65536 + 65536 * (w / 65536 % 65536) + 4294967296 * (w / 4294967296 % 2147483648) + 0 = w
    omega
/-- Whether a word is a state's: no more wait than there are. -/
theorem phOf_ok (w : Int) : (phOf w).ok ↔ w % 65536 ≤ w / 65536 % 65536 := by
  unfold PhS.ok phOf
  constructor
  · intro h
    exact h.2.2.2
  · intro h
    refine ⟨⟨?_, ?_⟩, ⟨?_, ?_⟩, ?_, h⟩ <;> first | (show 0 ≤ _ % _; omega) | (show _ % _ ≤ _; omega)
theorem word_inj {x y : PhS} (hx : x.ok) (hy : y.ok) : x.word = y.word ↔ x = y := by
  constructor
  · intro h
    rw [← of_word hx, ← of_word hy, h]
  · rintro rfl
    rfl

/-! The word by bits. -/
theorem wraps_u64 (n : Int) (h0 : 0 ≤ n) (h1 : n < 2 ^ 64) : IntKind.u64.wrap n = n := by
  simp [IntKind.wrap, IntKind.bits, IntKind.signed]
  omega
theorem or_flip (x y : Int) : bits .or .u64 x y = bits .or .u64 y x := by
  show IntKind.u64.wrap ((BitVec.ofInt 64 x ||| BitVec.ofInt 64 y).toNat : Int) = IntKind.u64.wrap ((BitVec.ofInt 64 y ||| BitVec.ofInt 64 x).toNat : Int)
  rw [BitVec.or_comm]
theorem or_join (i : Nat) (x y : Int) (hx0 : 0 ≤ x) (hx : x % 2 ^ i = 0) (hx1 : x < 2 ^ 64) (hy0 : 0 ≤ y) (hy : y < 2 ^ i) (hy1 : y < 2 ^ 64) : bits .or .u64 y x = y + x := by
  rw [or_flip, bits_join .u64 64 (by decide) wraps_u64 i x y hx0 hx hx1 hy0 hy hy1, Int.add_comm]
theorem word_low {o : Bool} {f p q : Int} (h : PhS.ok ⟨o, f, p, q⟩) :
    bits .or .u64 (bits .or .u64 (IntKind.u64.wrap q) (IntKind.u64.wrap (IntKind.u64.wrap p * 65536))) (IntKind.u64.wrap (IntKind.u64.wrap f * 4294967296)) = q + 65536 * p + 4294967296 * f := by
  obtain ⟨⟨a, b⟩, ⟨c, d⟩, e, g⟩ := h
  have a : 0 ≤ f := a
  have b : f ≤ 2147483647 := b
  have c : 0 ≤ p := c
  have d : p ≤ 65535 := d
  have e : 0 ≤ q := e
  have g : q ≤ p := g
  rw [wraps_u64 q (by omega) (by omega), wraps_u64 p (by omega) (by omega), wraps_u64 f (by omega) (by omega), wraps_u64 (p * 65536) (by omega) (by omega), wraps_u64 (f * 4294967296) (by omega) (by omega)]
  rw [or_join 16 (p * 65536) q (by omega) (by omega) (by omega) (by omega) (by omega) (by omega)]
  rw [or_join 32 (f * 4294967296) (q + p * 65536) (by omega) (by omega) (by omega) (by omega) (by omega) (by omega)]
  omega
theorem word_false {f p q : Int} (h : PhS.ok ⟨false, f, p, q⟩) :
    bits .or .u64 (bits .or .u64 (IntKind.u64.wrap q) (IntKind.u64.wrap (IntKind.u64.wrap p * 65536))) (IntKind.u64.wrap (IntKind.u64.wrap f * 4294967296)) = PhS.word ⟨false, f, p, q⟩ := by
  rw [word_low h]
  show _ = q + 65536 * p + 4294967296 * f + 0
  omega
theorem word_true {f p q : Int} (h : PhS.ok ⟨true, f, p, q⟩) :
    bits .or .u64 (bits .or .u64 (bits .or .u64 (IntKind.u64.wrap q) (IntKind.u64.wrap (IntKind.u64.wrap p * 65536))) (IntKind.u64.wrap (IntKind.u64.wrap f * 4294967296))) 9223372036854775808 = PhS.word ⟨true, f, p, q⟩ := by
  rw [word_low h]
  obtain ⟨⟨a, b⟩, ⟨c, d⟩, e, g⟩ := h
  have a : 0 ≤ f := a
  have b : f ≤ 2147483647 := b
  have c : 0 ≤ p := c
  have d : p ≤ 65535 := d
  have e : 0 ≤ q := e
  have g : q ≤ p := g
  rw [or_join 63 9223372036854775808 _ (by omega) (by omega) (by omega) (by omega) (by omega) (by omega)]
  rfl

theorem of_bits {W : Int} (h0 : 0 ≤ W) (h1 : W < 18446744073709551616) {o : Bool} {f p q : Int} (h : phOf W = ⟨o, f, p, q⟩) :
    (W / 9223372036854775808 == 1) = o ∧ wrap64 (bits .and .u64 (W / 4294967296) 2147483647) = f ∧ wrap64 (bits .and .u64 (W / 65536) 65535) = p ∧ wrap64 (bits .and .u64 W 65535) = q := by
  unfold phOf at h
  injection h with a b c d
  have e1 : bits .and .u64 (W / 4294967296) 2147483647 = W / 4294967296 % 2147483648 := bits_mask .u64 64 (by decide) wraps_u64 31 (by decide) _ (by omega) (by omega)
  have e2 : bits .and .u64 (W / 65536) 65535 = W / 65536 % 65536 := bits_mask .u64 64 (by decide) wraps_u64 16 (by decide) _ (by omega) (by omega)
  have e3 : bits .and .u64 W 65535 = W % 65536 := bits_mask .u64 64 (by decide) wraps_u64 16 (by decide) _ (by omega) (by omega)
  rw [e1, e2, e3, b, c, d]
  refine ⟨?_, ?_, ?_, ?_⟩
  · rw [← a]
    by_cases g : 9223372036854775808 ≤ W
    · rw [decide_eq_true g, show W / 9223372036854775808 = 1 by omega]
      rfl
    · rw [decide_eq_false g, show W / 9223372036854775808 = 0 by omega]
      rfl
  · unfold wrap64
    omega
  · unfold wrap64
    omega
  · unfold wrap64
    omega

/-! What comes of a call. -/
def fitsC (a n : Int) : Prop := (a = 6 ∧ 1 ≤ n ∧ n ≤ 65535) ∨ (a = 10 ∧ 0 ≤ n ∧ n ≤ 2147483647) ∨ ((a = 7 ∨ a = 8 ∨ a = 9 ∨ a = 11) ∧ n = 0)
/-- The next phase. -/
def phUp (f : Int) : Int := if f = 2147483647 then 0 else f + 1
theorem phUp_ok {f : Int} (h : 0 ≤ f ∧ f ≤ 2147483647) : 0 ≤ phUp f ∧ phUp f ≤ 2147483647 := by
  unfold phUp
  split <;> omega
theorem phUp_mod {f : Int} (h : 0 ≤ f ∧ f ≤ 2147483647) : phUp f = (f + 1) % 2147483648 := by
  unfold phUp
  split <;> omega
def phTurn (x : PhS) : PhS := if x.q = 0 then (if x.p = 0 then ⟨true, x.f, x.p, x.q⟩ else ⟨x.o, phUp x.f, x.p, x.p⟩) else x
def phArrive (x : PhS) (l : Int) : PhS × Int := if x.q = 0 then (x, -2) else (phTurn ⟨x.o, x.f, x.p - l, x.q - 1⟩, x.f)
def phNext (x : PhS) (a n : Int) : PhS × Int :=
  if x.o = true then (x, -1)
  else if a = 6 then (if 65535 < x.p + n then (x, -3) else (⟨x.o, x.f, x.p + n, x.q + n⟩, x.f))
  else if a = 7 then phArrive x 0
  else if a = 8 then phArrive x 1
  else if a = 11 then (⟨true, x.f, x.p, x.q⟩, 0)
  else (x, if x.f = n then -4 else x.f)
theorem phTurn_ok {x : PhS} (h : x.ok) : (phTurn x).ok := by
  obtain ⟨⟨a, b⟩, ⟨c, d⟩, e, f⟩ := h
  unfold phTurn
  split
  · split
    · exact ⟨⟨a, b⟩, ⟨c, d⟩, e, f⟩
    · exact ⟨phUp_ok ⟨a, b⟩, ⟨c, d⟩, c, Int.le_refl _⟩
  · exact ⟨⟨a, b⟩, ⟨c, d⟩, e, f⟩
theorem phArrive_ok {x : PhS} {l : Int} (h : x.ok) (hl : l = 0 ∨ l = 1) : (phArrive x l).1.ok := by
  unfold phArrive
  split
  · exact h
  · obtain ⟨⟨a, b⟩, ⟨c, d⟩, e, f⟩ := h
    refine phTurn_ok ⟨⟨a, b⟩, ⟨?_, ?_⟩, ?_, ?_⟩
    · show 0 ≤ x.p - l
      omega
    · show x.p - l ≤ _
      omega
    · show 0 ≤ x.q - 1
      omega
    · show x.q - 1 ≤ x.p - l
      omega
theorem phNext_ok {x : PhS} {a n : Int} (h : x.ok) (hc : fitsC a n) : (phNext x a n).1.ok := by
  unfold phNext
  split
  · exact h
  · split
    · split
      · exact h
      · obtain ⟨⟨a, b⟩, ⟨c, d⟩, e, f⟩ := h
        have hn : 1 ≤ n := by
          unfold fitsC at hc
          omega
        refine ⟨⟨a, b⟩, ⟨?_, ?_⟩, ?_, ?_⟩
        · show 0 ≤ x.p + n
          omega
        · show x.p + n ≤ _
          omega
        · show 0 ≤ x.q + n
          omega
        · show x.q + n ≤ x.p + n
          omega
    · split
      · exact phArrive_ok h (.inl rfl)
      · split
        · exact phArrive_ok h (.inr rfl)
        · split
          · obtain ⟨⟨a, b⟩, ⟨c, d⟩, e, f⟩ := h
            exact ⟨⟨a, b⟩, ⟨c, d⟩, e, f⟩
          · exact h
end Go.Proofs.YtaklikgdlalhdaaDoor
