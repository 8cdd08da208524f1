/-
  Scripts as bytes, as plain functions: what bytes are a script, and the script that bytes are. Of no program.
-/
import Derived.Test.YtlikbmbcjipolaaDoorBase
namespace Go.Proofs.YtlikbmbcjipolaaDoor
set_option maxRecDepth 100000
set_option linter.unusedVariables false
set_option linter.unusedSimpArgs false

/-- The byte at a place, 0 where there is none. -/
def byteAt (t : List UInt8) (i : Nat) : Nat := (t.getD i 0).toNat
def kOf (t : List UInt8) : Nat := byteAt t 0 % 6 + 1
def nOf (t : List UInt8) : Nat := byteAt t 1 % 8 + 1
def rOf (t : List UInt8) : Nat := byteAt t 2 % 6
/-- The move of one of n that a byte is. -/
def mvOf (n : Nat) (b : UInt8) : Int × Bool := if 224 ≤ b.toNat then (((b.toNat - 224) % n : Nat), true) else ((b.toNat % n : Nat), false)
def mvsOf (t : List UInt8) : List (Int × Bool) := (t.drop 3).map (mvOf (nOf t))
/-- A move as a byte. -/
def byteOf (v : Int × Bool) : UInt8 := UInt8.ofNat (if v.2 then 224 + v.1.toNat else v.1.toNat)
def headOf (k n r : Int) : List UInt8 := [UInt8.ofNat (k - 1).toNat, UInt8.ofNat (n - 1).toNat, UInt8.ofNat r.toNat]
def bytesOf (k n r : Int) (l : List (Int × Bool)) : List UInt8 := headOf k n r ++ l.map byteOf

def rightMv (n : Int) (l : List (Int × Bool)) : Prop := ∀ v ∈ l, 0 ≤ v.1 ∧ v.1 < n
def rightSc (k n r : Int) (l : List (Int × Bool)) : Prop := 1 ≤ k ∧ k ≤ 6 ∧ 1 ≤ n ∧ n ≤ 8 ∧ 0 ≤ r ∧ r ≤ 5 ∧ rightMv n l

theorem byteAt_lt (t : List UInt8) (i : Nat) : byteAt t i < 256 := UInt8.toNat_lt _
theorem kOf_dims (t : List UInt8) : 1 ≤ kOf t ∧ kOf t ≤ 6 ∧ 1 ≤ nOf t ∧ nOf t ≤ 8 ∧ rOf t ≤ 5 := by
  unfold kOf nOf rOf
  omega
theorem mvOf_lt {n : Nat} (hn : 1 ≤ n) (b : UInt8) : ∃ t : Nat, t < n ∧ (mvOf n b).1 = t := by
  unfold mvOf
  split
  · exact ⟨_, Nat.mod_lt _ hn, rfl⟩
  · exact ⟨_, Nat.mod_lt _ hn, rfl⟩
theorem mvsOf_lt (t : List UInt8) : ∀ v ∈ mvsOf t, ∃ u : Nat, u < nOf t ∧ v.1 = u := fun v hv => by
  obtain ⟨b, _, rfl⟩ := List.mem_map.1 hv
  exact mvOf_lt (kOf_dims t).2.2.1 b
theorem mvsOf_right (t : List UInt8) : rightMv (nOf t) (mvsOf t) := fun v hv => by
  obtain ⟨u, h1, h2⟩ := mvsOf_lt t v hv
  omega
theorem script_right (t : List UInt8) : rightSc (kOf t) (nOf t) (rOf t) (mvsOf t) := by
  have h := kOf_dims t
  exact ⟨by omega, by omega, by omega, by omega, by omega, by omega, mvsOf_right t⟩
theorem mvsOf_len (t : List UInt8) : (mvsOf t).length = t.length - 3 := by simp [mvsOf]

theorem u8_of {k : Nat} (h : k < 256) : (UInt8.ofNat k).toNat = k := by rw [UInt8.toNat_ofNat']; omega
theorem byteOf_nat {n : Int} {v : Int × Bool} (h0 : 0 ≤ v.1) (h1 : v.1 < n) (hn : n ≤ 8) : (byteOf v).toNat = if v.2 then 224 + v.1.toNat else v.1.toNat := by
  unfold byteOf
  apply u8_of
  split <;> omega
theorem mvOf_byteOf {n : Nat} {v : Int × Bool} (h0 : 0 ≤ v.1) (h1 : v.1 < n) (hn : n ≤ 8) : mvOf n (byteOf v) = v := by
  have h := byteOf_nat h0 h1 (by omega)
  obtain ⟨x, p⟩ := v
  dsimp only at h0 h1 h
  unfold mvOf
  rw [h]
  cases p with
  | true =>
    simp only [if_true]
    rw [if_pos (by omega), Nat.add_sub_cancel_left, Nat.mod_eq_of_lt (by omega)]
    exact congrArg (·, true) (by omega)
  | false =>
    simp only [Bool.false_eq_true, if_false]
    rw [if_neg (by omega), Nat.mod_eq_of_lt (by omega)]
    exact congrArg (·, false) (by omega)
theorem head_at (k n r : Int) (l : List (Int × Bool)) (hk : 1 ≤ k ∧ k ≤ 6) (hn : 1 ≤ n ∧ n ≤ 8) (hr : 0 ≤ r ∧ r ≤ 5) : byteAt (bytesOf k n r l) 0 = (k - 1).toNat ∧ byteAt (bytesOf k n r l) 1 = (n - 1).toNat ∧ byteAt (bytesOf k n r l) 2 = r.toNat := by
  refine ⟨?_, ?_, ?_⟩
  · exact u8_of (by omega)
  · exact u8_of (by omega)
  · exact u8_of (by omega)
/-- What is written is read. -/
theorem read_bytes {k n r : Int} {l : List (Int × Bool)} (h : rightSc k n r l) : (kOf (bytesOf k n r l) : Int) = k ∧ (nOf (bytesOf k n r l) : Int) = n ∧ (rOf (bytesOf k n r l) : Int) = r ∧ mvsOf (bytesOf k n r l) = l := by
  obtain ⟨k1, k6, n1, n8, r0, r5, hm⟩ := h
  obtain ⟨e0, e1, e2⟩ := head_at k n r l ⟨k1, k6⟩ ⟨n1, n8⟩ ⟨r0, r5⟩
  have hN : nOf (bytesOf k n r l) = n.toNat := by unfold nOf; rw [e1]; omega
  refine ⟨by unfold kOf; rw [e0]; omega, by rw [hN]; omega, by unfold rOf; rw [e2]; omega, ?_⟩
  unfold mvsOf
  rw [hN]
  show (l.map byteOf).map (mvOf n.toNat) = l
  rw [List.map_map]
  conv => rhs; rw [← List.map_id l]
  apply List.map_congr_left
  intro v hv
  exact mvOf_byteOf (hm v hv).1 (by have := (hm v hv).2; omega) (by omega)
theorem bytesOf_len (k n r : Int) (l : List (Int × Bool)) : (bytesOf k n r l).length = 3 + l.length := by simp [bytesOf, headOf]; omega

/-- More bytes behind three. -/
theorem more_bytes (t m : List UInt8) (h : 3 ≤ t.length) : kOf (t ++ m) = kOf t ∧ nOf (t ++ m) = nOf t ∧ rOf (t ++ m) = rOf t ∧ mvsOf (t ++ m) = mvsOf t ++ m.map (mvOf (nOf t)) := by
  have hb : ∀ i, i < 3 → byteAt (t ++ m) i = byteAt t i := fun i hi => by
    unfold byteAt
    rw [List.getD_eq_getElem?_getD, List.getD_eq_getElem?_getD, List.getElem?_append_left (by omega)]
  have hn : nOf (t ++ m) = nOf t := by unfold nOf; rw [hb 1 (by decide)]
  refine ⟨by unfold kOf; rw [hb 0 (by decide)], hn, by unfold rOf; rw [hb 2 (by decide)], ?_⟩
  unfold mvsOf
  rw [hn, List.drop_append_of_le_length h, List.map_append]
end Go.Proofs.YtlikbmbcjipolaaDoor
