/-
  A map from int to uint64 that holds a row of cells; what the reference does to it, as a plain function.
-/
import Derived.Test.YtnooegfhkeddnaaDoorTUint
import Derived.Test.YtnooegfhkeddnaaDoorIMap
import Derived.Maps.OwnSet
import Derived.Laws.Externs
namespace Go.Proofs.YtnooegfhkeddnaaDoor
set_option maxRecDepth 100000
open Go.RowKit Go.Sort Go.Shelf

/-- 'v, ok := m[k]'. -/
theorem IM.look2 {q : IntKind} {te : TypeId} {w : World} {b m : Nat} {f : Int → Option Int} (h : IM q te w b m f) {t : TypeId} (ht : Tryd.prog.underlying t = some (.map 3 te)) (he : Tryd.prog.underlying te = some (.int q)) (hz : (zeroValue te).run Tryd.prog w = .ok (.int q 0) w) (a : Int) (ha : (Lit.int .i64 a).wf = true) :
    (Instr.lookup t (.map (some b)) (.int .i64 a) true).run Tryd.prog w = .ok (.tuple #[.int q ((f a).getD 0), .bool (f a).isSome]) w := by
  obtain ⟨D, hD, hf⟩ := h
  obtain ⟨v, ps, hrun, hv⟩ := hD.look_ok keyedInt ht hz (plainElem_int he (by cases q <;> decide) : plainElem Tryd.prog te (.int q 0) = some (.lit (.int q 0), [])) (Maps.keyOf_int_mk Tryd.underlying3 ha)
  obtain ⟨c, rfl, hc, _⟩ := plainElem_int_inv he hv
  have hat := congrArg Prod.fst hc
  dsimp only at hat
  obtain ⟨h1, h2⟩ := hf a ha
  rw [hrun, h1]
  cases hfa : f a with
  | some c' =>
    rw [h2 c' hfa] at hat
    injection hat with hat
    injection hat with _ hat
    rw [hat]
    rfl
  | none =>
    rw [hfa] at h1
    rw [Maps.atKey_of_not_has (by simpa using h1)] at hat
    injection hat with hat
    injection hat with _ hat
    rw [← hat]
    rfl

/-- A row of cells, as a function. -/
def cellsF (xs : List Int) : Int → Option Int := fun a => if 0 ≤ a ∧ a < xs.length then some (xs.getD a.toNat 0) else none

theorem cellsF_in (xs : List Int) (k : Nat) (h : k < xs.length) : cellsF xs k = some (xs.getD k 0) := by
  unfold cellsF
  rw [if_pos ⟨by omega, by omega⟩, Int.toNat_natCast]
theorem cellsF_out (xs : List Int) (a : Int) (h : a < 0 ∨ (xs.length : Int) ≤ a) : cellsF xs a = none := by
  unfold cellsF
  rw [if_neg (by omega)]

theorem putAt_next (xs : List Int) (i : Nat) (h : i < xs.length) : putAt (cellsF (xs.take i)) (i : Int) (xs.getD i 0) = cellsF (xs.take (i + 1)) := by
  funext a
  unfold putAt cellsF
  have hl1 : (xs.take i).length = i := by rw [List.length_take]; omega
  have hl2 : (xs.take (i + 1)).length = i + 1 := by rw [List.length_take]; omega
  rw [hl1, hl2]
  by_cases e : a = i
  · subst e
    rw [if_pos rfl, if_pos ⟨by omega, by omega⟩, Int.toNat_natCast, List.getD_eq_getElem?_getD, List.getD_eq_getElem?_getD, List.getElem?_take, if_pos (by omega)]
  · rw [if_neg e]
    by_cases h1 : 0 ≤ a ∧ a < i
    · rw [if_pos (by omega), if_pos (by omega), List.getD_eq_getElem?_getD, List.getD_eq_getElem?_getD, List.getElem?_take, List.getElem?_take, if_pos (by omega), if_pos (by omega)]
    · rw [if_neg (by omega), if_neg (by omega)]

theorem putAt_set (xs : List Int) (k : Nat) (h : k < xs.length) (v : Int) : putAt (cellsF xs) (k : Int) v = cellsF (xs.set k v) := by
  funext a
  unfold putAt cellsF
  rw [List.length_set]
  by_cases e : a = k
  · subst e
    rw [if_pos rfl, if_pos ⟨by omega, by omega⟩, Int.toNat_natCast, List.getD_eq_getElem?_getD, List.getElem?_set_self (by omega)]
    rfl
  · rw [if_neg e]
    by_cases h1 : 0 ≤ a ∧ a < xs.length
    · rw [if_pos h1, if_pos h1, List.getD_eq_getElem?_getD, List.getD_eq_getElem?_getD, List.getElem?_set_ne (by omega)]
    · rw [if_neg h1, if_neg h1]

/-- A number in text, whether it was done, and an error's number. -/
def textT (x : Nat) (did : Bool) (k : Nat) : List UInt8 := ((Lib.decDigits x ++ [32]) ++ Lib.formatBool did) ++ [32] ++ Lib.decDigits k

/-- What, where, and two numbers. -/
abbrev Tch := Int × Int × Int × Int

def stepT (xs : List Int) (t : Tch) : List UInt8 × List Int :=
  if 0 ≤ t.2.1 ∧ t.2.1 < xs.length then
    if t.1 = 1 then (textT 0 false 0, xs.set t.2.1.toNat t.2.2.1)
    else if t.1 = 2 then (textT (xs.getD t.2.1.toNat 0).toNat false 0, xs.set t.2.1.toNat (IntKind.u64.wrap (xs.getD t.2.1.toNat 0 + t.2.2.1)))
    else if t.1 = 3 then (if xs.getD t.2.1.toNat 0 = t.2.2.1 then (textT 0 true 0, xs.set t.2.1.toNat t.2.2.2) else (textT 0 false 0, xs))
    else (textT (xs.getD t.2.1.toNat 0).toNat false 0, xs)
  else (textT 0 false 2, xs)

def afterT (xs : List Int) (l : List Tch) : List Int := l.foldl (fun c t => (stepT c t).2) xs
def outsT (xs : List Int) : List Tch → List (List UInt8)
  | [] => []
  | t :: l => (stepT xs t).1 :: outsT (stepT xs t).2 l

theorem outsT_append (l r : List Tch) : ∀ xs, outsT xs (l ++ r) = outsT xs l ++ outsT (afterT xs l) r := by
  induction l with
  | nil => intro xs; rfl
  | cons t l ih => intro xs; simp [outsT, afterT, ih, List.foldl_cons]
theorem afterT_append (l r : List Tch) (xs : List Int) : afterT xs (l ++ r) = afterT (afterT xs l) r := by simp [afterT]
theorem outsT_length (l : List Tch) : ∀ xs, (outsT xs l).length = l.length := by
  induction l with
  | nil => intro xs; rfl
  | cons t l ih => intro xs; simp [outsT, ih]

theorem stepT_length (xs : List Int) (t : Tch) : (stepT xs t).2.length = xs.length := by
  unfold stepT
  repeat' split
  all_goals simp
theorem afterT_length (l : List Tch) : ∀ xs, (afterT xs l).length = xs.length := by
  induction l with
  | nil => intro xs; rfl
  | cons t l ih => intro xs; show (afterT (stepT xs t).2 l).length = _; rw [ih, stepT_length]

def isU64 (n : Int) : Prop := 0 ≤ n ∧ n ≤ 18446744073709551615
def okT (t : Tch) : Prop := isU64 t.2.2.1 ∧ isU64 t.2.2.2 ∧ (Lit.int .i64 t.2.1).wf = true

theorem set_u64 {xs : List Int} (h : ∀ x ∈ xs, isU64 x) (k : Nat) (v : Int) (hv : isU64 v) : ∀ x ∈ xs.set k v, isU64 x := fun x hx => by
  rcases List.mem_or_eq_of_mem_set hx with hx | rfl
  · exact h x hx
  · exact hv
theorem wrap_isU64 (n : Int) : isU64 (IntKind.u64.wrap n) := by
  unfold isU64
  rw [IntKind.wrap_u64]
  omega

theorem stepT_u64 {xs : List Int} (h : ∀ x ∈ xs, isU64 x) {t : Tch} (ht : okT t) : ∀ x ∈ (stepT xs t).2, isU64 x := by
  unfold stepT
  repeat' split
  all_goals first
    | exact h
    | exact set_u64 h _ _ ht.1
    | exact set_u64 h _ _ ht.2.1
    | exact set_u64 h _ _ (wrap_isU64 _)
theorem afterT_u64 (l : List Tch) : ∀ {xs : List Int}, (∀ x ∈ xs, isU64 x) → (∀ t ∈ l, okT t) → ∀ x ∈ afterT xs l, isU64 x := by
  induction l with
  | nil => intro xs h _; exact h
  | cons t l ih => intro xs h ht; exact ih (stepT_u64 h (ht t (by simp))) (fun s hs => ht s (by simp [hs]))

def addEntry : Array Value → Sem Value := fun args => do
  let (x, y, c) ← Extern.MathBitsCarry.three "Add64" args
  pure (Extern.MathBitsCarry.pair ((x + y + c) % Extern.MathBitsCarry.m64) ((x + y + c) / Extern.MathBitsCarry.m64))

theorem run_addEntry (x y : Nat) (w : World) : (addEntry #[.int .u64 x, .int .u64 y, .int .u64 0]).run Tryd.prog w = .ok (.tuple #[.int .u64 (((x + y + 0) % Extern.MathBitsCarry.m64 : Nat) : Int), .int .u64 (((x + y + 0) / Extern.MathBitsCarry.m64 : Nat) : Int)]) w := rfl

theorem run_add64 (x y : Int) (hx : isU64 x) (hy : isU64 y) : ∃ c : Int, ∀ w : World, (callFunc 33 #[.int .u64 x, .int .u64 y, .int .u64 0]).run Tryd.prog w = .ok (.value (.tuple #[.int .u64 (IntKind.u64.wrap (x + y)), .int .u64 c])) w := by
  obtain ⟨a, rfl⟩ : ∃ a : Nat, x = a := ⟨x.toNat, by have := hx.1; omega⟩
  obtain ⟨b, rfl⟩ : ∃ b : Nat, y = b := ⟨y.toNat, by have := hy.1; omega⟩
  refine ⟨(((a + b + 0) / Extern.MathBitsCarry.m64 : Nat) : Int), fun w => ?_⟩
  rw [run_callFunc_extern Tryd.func33 (by kernel_rfl) (by kernel_rfl) (by kernel_rfl) (e := addEntry) (by kernel_rfl), run_addEntry]
  simp only [Result.andThen]
  have : (((a + b + 0) % Extern.MathBitsCarry.m64 : Nat) : Int) = IntKind.u64.wrap ((a : Int) + (b : Int)) := by
    rw [IntKind.wrap_u64]
    unfold Extern.MathBitsCarry.m64
    omega
  rw [this]

theorem bytes_append (a b : List UInt8) : (⟨a.toArray⟩ : ByteArray) ++ ⟨b.toArray⟩ = ⟨(a ++ b).toArray⟩ := by
  apply ByteArray.ext
  rw [ByteArray.data_append]
  simp

theorem nDigits_le : ∀ (k u : Nat), u < 10 ^ (k + 1) → Lib.nDigits u ≤ k + 1
  | 0, u, h => by rw [Lib.nDigits_small (by simpa using h)]; exact Nat.le_refl _
  | k + 1, u, h => by
    by_cases hu : u < 10
    · rw [Lib.nDigits_small hu]; omega
    · rw [Lib.nDigits_big hu]
      have := nDigits_le k (u / 10) (by rw [Nat.pow_succ] at h; omega)
      omega

/-- The pieces of a told text, as they are joined. -/
theorem parts (u : Nat) (hu : u < 18446744073709551616) (b : Bool) : ∃ F F2 Fb F3 : ByteArray, strV (Lib.decDigits u) = .string F ∧ F ++ ⟨#[32]⟩ = F2 ∧ strV (Lib.formatBool b) = .string Fb ∧ F2 ++ Fb = F3 ∧ F.size ≤ 20 ∧ F2.size ≤ 21 ∧ Fb.size ≤ 5 ∧ F3.size ≤ 26 ∧
    F3 ++ ⟨#[32, 48]⟩ = ⟨(textT u b 0).toArray⟩ ∧ ∀ k, F3 ++ ⟨#[32]⟩ ++ ⟨(Lib.decDigits k).toArray⟩ = ⟨(textT u b k).toArray⟩ := by
  have h1 : (Lib.decDigits u).length ≤ 20 := by rw [Lib.decDigits_length]; exact nDigits_le 19 u (by omega)
  have h2 : (Lib.formatBool b).length ≤ 5 := by cases b <;> decide
  have hd : Lib.decDigits 0 = [48] := by rw [Lib.decDigits, dif_pos (by decide)]; rfl
  refine ⟨⟨(Lib.decDigits u).toArray⟩, ⟨(Lib.decDigits u ++ [32]).toArray⟩, ⟨(Lib.formatBool b).toArray⟩, ⟨((Lib.decDigits u ++ [32]) ++ Lib.formatBool b).toArray⟩, rfl, bytes_append _ [32], rfl, bytes_append _ _, ?_, ?_, ?_, ?_, ?_, fun k => ?_⟩
  · simpa [ByteArray.size] using h1
  · simp only [ByteArray.size, List.size_toArray, List.length_append, List.length_singleton]; omega
  · simpa [ByteArray.size] using h2
  · simp only [ByteArray.size, List.size_toArray, List.length_append, List.length_singleton]; omega
  · rw [bytes_append _ [32, 48]]
    unfold textT
    rw [hd]
    simp
  · rw [bytes_append _ [32], bytes_append]
    rfl
end Go.Proofs.YtnooegfhkeddnaaDoor
