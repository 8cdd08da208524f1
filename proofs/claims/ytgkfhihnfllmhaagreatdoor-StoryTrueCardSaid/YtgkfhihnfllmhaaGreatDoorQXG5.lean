/-
  Bodies of barriers, piece by piece. math/bits.TrailingZeros of a small number; at how many levels a party wins.
-/
import Derived.Test.YtgkfhihnfllmhaaGreatDoorQXG4
import Derived.Test.YtgkfhihnfllmhaaGreatDoorQXA
import Derived.Lib.LaidTab
import Derived.Lib.TrailingZeros
import Derived.Lib.MinMax
namespace Go.Proofs.YtgkfhihnfllmhaaGreatDoor
set_option maxRecDepth 100000
set_option linter.unusedVariables false
set_option linter.unusedSimpArgs false

/-! A body, piece by piece. -/
def plainOp : BOp → Bool
  | .meet _ _ _ => false
  | _ => true
theorem compOp_plain {o : BOp} (h : plainOp o = true) (a b : List BOp) (p : Int) : compOp a p o = compOp b p o := by
  cases o with
  | meet c s d => cases h
  | _ => rfl
theorem offs_append {a b : List BOp} {i : Nat} (h : i ≤ a.length) : offs (a ++ b) i = offs a i := by
  unfold offs
  rw [List.take_append_of_le_length h]
theorem bodyTo_succ (ops : List BOp) (i : Nat) : bodyTo ops (i + 1) = bodyTo ops i ++ compOp ops (5 + (offs ops i : Int)) (ops.getD i default) := by
  unfold bodyTo
  rw [List.range_succ, List.flatMap_append]
  simp
theorem bodyTo_append {a b : List BOp} (ha : a.all plainOp = true) : ∀ i, i ≤ a.length → bodyTo (a ++ b) i = bodyTo a i
  | 0, _ => rfl
  | i + 1, h => by
    have e : (a ++ b).getD i default = a.getD i default := by
      rw [List.getD_eq_getElem?_getD, List.getElem?_append_left (by omega), ← List.getD_eq_getElem?_getD]
    have hp : plainOp (a.getD i default) = true := by
      rw [List.all_eq_true] at ha
      refine ha _ ?_
      rw [List.getD_eq_getElem?_getD, List.getElem?_eq_getElem (by omega)]
      exact List.getElem_mem _
    rw [bodyTo_succ, bodyTo_succ, bodyTo_append ha i (by omega), offs_append (by omega), e, compOp_plain hp]
theorem bodyI_snoc {a : List BOp} {o : BOp} (ha : a.all plainOp = true) (ho : plainOp o = true) : bodyI (a ++ [o]) = bodyI a ++ compOp [] (5 + ((bodyI a).length : Int)) o := by
  unfold bodyI
  rw [List.length_append, show a.length + [o].length = a.length + 1 from rfl, bodyTo_succ, bodyTo_append ha _ (Nat.le_refl _), offs_append (Nat.le_refl _), bodyTo_len a _ (Nat.le_refl _)]
  have e : (a ++ [o]).getD a.length default = o := by
    rw [List.getD_eq_getElem?_getD, List.getElem?_append_right (Nat.le_refl _)]
    simp
  rw [e, compOp_plain ho _ []]
theorem bodyI_len (a : List BOp) : (bodyI a).length = offs a a.length := bodyTo_len a _ (Nat.le_refl _)
theorem offs_le (a : List BOp) : offs a a.length ≤ 8 * a.length := by
  unfold offs
  rw [List.take_length]
  induction a with
  | nil => exact Nat.le_refl _
  | cons o a ih =>
    rw [List.map_cons, List.sum_cons, List.length_cons]
    have : opLen o ≤ 8 := by cases o <;> simp [opLen]
    omega
theorem bodyI_le (a : List BOp) : (bodyI a).length ≤ 8 * a.length := by rw [bodyI_len]; exact offs_le a

/-! Static. -/
def staticLow (n id q : Nat) : List BOp := (List.range q).map fun q => .await (2 * id + 1 + q)
def staticQ (n id : Nat) : Nat := min 2 (n - (2 * id + 1))
theorem static_is : ∀ n, n < 17 → ∀ id, id < n → staticOps n id = staticLow n id (staticQ n id) ++ if id = 0 then [.tell n n] else [.tell id 1, .await n] := by decide +kernel
theorem staticLow_succ (n id q : Nat) : staticLow n id (q + 1) = staticLow n id q ++ [.await (2 * id + 1 + q)] := by unfold staticLow; rw [List.range_succ]; simp
theorem staticLow_plain (n id q : Nat) : (staticLow n id q).all plainOp = true := by
  unfold staticLow
  rw [List.all_map, List.all_eq_true]
  exact fun _ _ => rfl

/-! Spread. -/
def spreadTo (n id r : Nat) : List BOp := (List.range r).flatMap fun r => [.tell ((id + 2 ^ r) % n * lvls n + r) 1, .await (id * lvls n + r)]
theorem spreadTo_succ (n id r : Nat) : spreadTo n id (r + 1) = spreadTo n id r ++ [.tell ((id + 2 ^ r) % n * lvls n + r) 1] ++ [.await (id * lvls n + r)] := by unfold spreadTo; rw [List.range_succ]; simp
theorem spreadTo_plain (n id : Nat) : ∀ r, (spreadTo n id r).all plainOp = true
  | 0 => rfl
  | r + 1 => by rw [spreadTo_succ]; simp [spreadTo_plain n id r, plainOp]
theorem spreadTo_len (n id : Nat) : ∀ r, (spreadTo n id r).length = 2 * r
  | 0 => rfl
  | r + 1 => by rw [spreadTo_succ, List.length_append, List.length_append, spreadTo_len n id r]; simp; omega
theorem spread_is (n id : Nat) : spreadOps n id = spreadTo n id (lvls n) := rfl

/-! Tourney. -/
def tourA (n id q : Nat) : List BOp := (List.range q).flatMap fun r => if id + 2 ^ r < n then [.await (id * lvls n + r)] else []
theorem tourA_succ (n id q : Nat) : tourA n id (q + 1) = tourA n id q ++ if id + 2 ^ q < n then [.await (id * lvls n + q)] else [] := by unfold tourA; rw [List.range_succ]; simp
theorem tourA_plain (n id : Nat) : ∀ q, (tourA n id q).all plainOp = true
  | 0 => rfl
  | q + 1 => by
    rw [tourA_succ, List.all_append, tourA_plain n id q]
    split <;> rfl
theorem tourA_len (n id : Nat) : ∀ q, (tourA n id q).length ≤ q
  | 0 => Nat.le_refl _
  | q + 1 => by
    rw [tourA_succ, List.length_append]
    have := tourA_len n id q
    split <;> simp <;> omega
def tourB (n id : Nat) : List BOp := tourA n id (wins n id) ++ if wins n id < lvls n then [.tell ((id - 2 ^ wins n id) * lvls n + wins n id) 1, .await (n * lvls n + id)] else []
theorem tourB_plain (n id : Nat) : (tourB n id).all plainOp = true := by
  unfold tourB
  rw [List.all_append, tourA_plain]
  split <;> rfl
theorem tourB_len (n id : Nat) : (tourB n id).length ≤ wins n id + 2 := by
  unfold tourB
  rw [List.length_append]
  have := tourA_len n id (wins n id)
  split <;> simp <;> omega
def tourC (n id k : Nat) : List BOp := tourB n id ++ (List.range k).flatMap fun k => if id + 2 ^ (wins n id - 1 - k) < n then [.tell (n * lvls n + (id + 2 ^ (wins n id - 1 - k))) 1] else []
theorem tourC_succ (n id k : Nat) : tourC n id (k + 1) = tourC n id k ++ if id + 2 ^ (wins n id - 1 - k) < n then [.tell (n * lvls n + (id + 2 ^ (wins n id - 1 - k))) 1] else [] := by unfold tourC; rw [List.range_succ]; simp
theorem tourC_plain (n id : Nat) : ∀ k, (tourC n id k).all plainOp = true
  | 0 => by unfold tourC; simp [tourB_plain]
  | k + 1 => by
    rw [tourC_succ, List.all_append, tourC_plain n id k]
    split <;> rfl
theorem tourC_len (n id : Nat) : ∀ k, (tourC n id k).length ≤ wins n id + 2 + k
  | 0 => by unfold tourC; have := tourB_len n id; simpa using this
  | k + 1 => by
    rw [tourC_succ, List.length_append]
    have := tourC_len n id k
    split <;> simp <;> omega
set_option maxRecDepth 100000 in
theorem tourney_is : ∀ n, n < 17 → ∀ id, id < n → tourneyOps n id = tourC n id (wins n id) ∧ wins n id ≤ lvls n ∧ (wins n id < lvls n → 2 ^ wins n id ≤ id) := by decide +kernel

/-! Mcs. -/
def belowL (n id many q : Nat) : List Nat := (List.range q).flatMap fun k => if many * id + 1 + k < n then [many * id + 1 + k] else []
theorem belowL_succ (n id many q : Nat) : belowL n id many (q + 1) = belowL n id many q ++ if many * id + 1 + q < n then [many * id + 1 + q] else [] := by unfold belowL; rw [List.range_succ]; simp
theorem belowL_len (n id many : Nat) : ∀ q, (belowL n id many q).length ≤ q
  | 0 => Nat.le_refl _
  | q + 1 => by
    rw [belowL_succ, List.length_append]
    have := belowL_len n id many q
    split <;> simp <;> omega
theorem belowL_lt {n id many q : Nat} : ∀ c ∈ belowL n id many q, c < n := by
  intro c hc
  unfold belowL at hc
  obtain ⟨k, _, h⟩ := List.mem_flatMap.1 hc
  split at h
  · simp at h; omega
  · cases h
def mcsA (n id i : Nat) : List BOp := ((belowL n id 4 4).take i).map .await
def mcsB (n id : Nat) : List BOp := mcsA n id (belowL n id 4 4).length ++ if id = 0 then [] else [.tell id 1, .await (n + id)]
def mcsC (n id i : Nat) : List BOp := mcsB n id ++ ((belowL n id 2 2).take i).map fun c => .tell (n + c) 1
theorem mcsA_succ {n id i : Nat} (h : i < (belowL n id 4 4).length) : mcsA n id (i + 1) = mcsA n id i ++ [.await ((belowL n id 4 4).getD i 0)] := by
  unfold mcsA
  rw [List.take_add_one, List.getElem?_eq_getElem h, List.getD_eq_getElem?_getD, List.getElem?_eq_getElem h, List.map_append]
  rfl
theorem mcsC_succ {n id i : Nat} (h : i < (belowL n id 2 2).length) : mcsC n id (i + 1) = mcsC n id i ++ [.tell (n + (belowL n id 2 2).getD i 0) 1] := by
  unfold mcsC
  rw [List.take_add_one, List.getElem?_eq_getElem h, List.getD_eq_getElem?_getD, List.getElem?_eq_getElem h, List.map_append, ← List.append_assoc]
  rfl
theorem mcsA_plain (n id i : Nat) : (mcsA n id i).all plainOp = true := by
  unfold mcsA
  rw [List.all_map, List.all_eq_true]
  exact fun _ _ => rfl
theorem mcsB_plain (n id : Nat) : (mcsB n id).all plainOp = true := by
  unfold mcsB
  rw [List.all_append, mcsA_plain]
  split <;> rfl
theorem mcsC_plain (n id i : Nat) : (mcsC n id i).all plainOp = true := by
  unfold mcsC
  rw [List.all_append, mcsB_plain, List.all_map, Bool.true_and, List.all_eq_true]
  exact fun _ _ => rfl
theorem mcsA_len (n id i : Nat) : (mcsA n id i).length ≤ 4 := by
  unfold mcsA
  rw [List.length_map, List.length_take]
  have := belowL_len n id 4 4
  omega
theorem mcsB_len (n id : Nat) : (mcsB n id).length ≤ 6 := by
  unfold mcsB
  rw [List.length_append]
  have := mcsA_len n id (belowL n id 4 4).length
  split <;> simp <;> omega
theorem mcsC_len (n id i : Nat) : (mcsC n id i).length ≤ 8 := by
  unfold mcsC
  rw [List.length_append, List.length_map, List.length_take]
  have := mcsB_len n id
  have := belowL_len n id 2 2
  omega
set_option maxRecDepth 100000 in
theorem mcs_is : ∀ n, n < 17 → ∀ id, id < n → mcsOps n id = mcsC n id (belowL n id 2 2).length := by decide +kernel

/-! Combine. -/
def cb (n : Nat) : Nat → Nat
  | 0 => n
  | j + 1 => (cb n j + 1) / 2
def cf (n : Nat) : Nat → Nat
  | 0 => 0
  | j + 1 => cf n j + cb n (j + 1)
def ci (id : Nat) : Nat → Nat
  | 0 => id
  | j + 1 => ci id j / 2
def ndL (n id j : Nat) : Nat × Nat := (2 * (cf n j + ci id (j + 1)), min 2 (cb n j - 2 * ci id (j + 1)))
def combineC (n id : Nat) : List BOp :=
  ((List.range (cmH n)).map fun j => .meet (ndL n id j).1 (ndL n id j).2 (2 * cmH n - j)) ++
  ((List.range (cmH n)).reverse.map fun j => .opn (ndL n id j).1 (ndL n id j).2)
set_option maxRecDepth 100000 in
theorem combine_is : ∀ n, n < 17 → ∀ id, id < n → combineOps n id = combineC n id := by decide +kernel
set_option maxRecDepth 100000 in
theorem combine_path : ∀ n, n < 17 → n = 0 ∨ 1 ≤ cmH n ∧ cmH n ≤ 4 ∧ cb n (cmH n) = 1 ∧ (∀ j, j < cmH n → j = 0 ∨ cb n j ≠ 1) ∧ (∀ j, j < 5 → cb n j ≤ 16 ∧ cf n j ≤ 32) ∧ cmCells n = (ndL n 0 (cmH n - 1)).1 + 2 := by decide +kernel
set_option maxRecDepth 100000 in
theorem combine_low : ∀ n, n < 17 → ∀ id, id < n → ∀ j, j < cmH n → 2 * ci id (j + 1) ≤ cb n j ∧ ci id j < cb n j := by decide +kernel
section
variable {n id : Nat}
theorem comb_len : (combineC n id).length = 2 * cmH n := by unfold combineC; simp; omega
theorem comb_up {j : Nat} (h : j < cmH n) : (combineC n id).getD j default = .meet (ndL n id j).1 (ndL n id j).2 (2 * cmH n - j) := by
  unfold combineC
  rw [List.getD_eq_getElem?_getD, List.getElem?_append_left (by simpa using h), List.getElem?_map, List.getElem?_range h]
  rfl
theorem comb_dn {q : Nat} (h : q < cmH n) : (combineC n id).getD (cmH n + q) default = .opn (ndL n id (cmH n - 1 - q)).1 (ndL n id (cmH n - 1 - q)).2 := by
  unfold combineC
  rw [List.getD_eq_getElem?_getD, List.getElem?_append_right (by simp), List.getElem?_map, List.length_map, List.length_range, Nat.add_sub_cancel_left, List.getElem?_reverse (by simpa using h), List.length_range, List.getElem?_range (by omega)]
  rfl
theorem comb_offs_up : ∀ {j : Nat}, j ≤ cmH n → offs (combineC n id) j = 8 * j
  | 0, _ => rfl
  | j + 1, h => by
    rw [offs_succ _ _ (by rw [comb_len]; omega), comb_offs_up (by omega), comb_up (by omega)]
    rfl
theorem comb_offs_dn : ∀ {q : Nat}, q ≤ cmH n → offs (combineC n id) (cmH n + q) = 8 * cmH n + 4 * q
  | 0, _ => comb_offs_up (Nat.le_refl _)
  | q + 1, h => by
    rw [show cmH n + (q + 1) = cmH n + q + 1 by omega, offs_succ _ _ (by rw [comb_len]; omega), comb_offs_dn (by omega), comb_dn (by omega)]
    show _ + 4 = _
    omega
end
end Go.Proofs.YtgkfhihnfllmhaaGreatDoor

namespace Go.Proofs.YtgkfhihnfllmhaaGreatDoor
set_option maxRecDepth 100000
open Go.RowKit
set_option linter.unusedVariables false
set_option linter.unusedSimpArgs false

def tz64L : List Int := Lib.deBruijn64tab.map fun (n : Nat) => (n : Int)
/-- The table that TrailingZeros reads. -/
def TzVar (w : World) : Prop := Lib.TabIs Tryz.prog w "math/bits.deBruijn64tab" .u8 tz64L
theorem g_tz : Tryz.prog.globalNamed "math/bits.deBruijn64tab" = some 10 := by kernel_rfl
theorem TzVar.old {w w' : World} (h : TzVar w) (hb : Below w.heap.size w w') : TzVar w' := var?_below hb g_tz (World.block_lt_of_cell? w ⟨10, 0, none⟩ (Lib.TabIs.cell h g_tz 0 (by decide))) h

set_option maxHeartbeats 1000000 in
theorem tz64_core (x k idx : Nat) (w : World) (hx0 : ((x : Int) == 0) = false)
    (key : IntKind.u64.wrap (bits BinOp.and IntKind.u64 (x : Int) (IntKind.u64.wrap (-(x : Int))) * 285870213051353865) / 288230376151711744 = (idx : Int))
    (hi : idx < 64) (hk : k < 64) (hcell : w.cell? ⟨10, idx, none⟩ = some (.int .u8 k)) :
    Calls Tryz.prog 253 #[.int .u64 x] w fun e w' => e = .returned (.int .i64 k) ∧ w = w' := by
  go_enter Tryz.func253, Tryz.ntmps253
  go_wp2_with (simp only [key])
  go_ret
  exact ⟨rfl, rfl⟩
theorem tz64_zero (w : World) : Calls Tryz.prog 253 #[.int .u64 ((0 : Nat) : Int)] w fun e w' => e = .returned (.int .i64 ((64 : Nat) : Int)) ∧ w = w' := by
  go_enter Tryz.func253, Tryz.ntmps253
  go_wp2
  go_ret
  exact ⟨rfl, rfl⟩
def tzT (x : Nat) : Nat := [64, 0, 1, 0, 2, 0, 1, 0, 3, 0, 1, 0, 2, 0, 1, 0].getD x 0
theorem tz_at : ∀ x : Nat, x < 16 → x ≠ 0 → ∃ idx : Nat, idx < 64 ∧ IntKind.u64.wrap (bits BinOp.and IntKind.u64 (x : Int) (IntKind.u64.wrap (-(x : Int))) * 285870213051353865) / 288230376151711744 = (idx : Int) ∧ tz64L.getD idx 0 = ((tzT x : Nat) : Int) := by
  intro x hx h0
  match x, hx, h0 with
  | 0, _, h => exact absurd rfl h
  | 1, _, _ => exact ⟨0, by decide +kernel⟩
  | 2, _, _ => exact ⟨1, by decide +kernel⟩
  | 3, _, _ => exact ⟨0, by decide +kernel⟩
  | 4, _, _ => exact ⟨3, by decide +kernel⟩
  | 5, _, _ => exact ⟨0, by decide +kernel⟩
  | 6, _, _ => exact ⟨1, by decide +kernel⟩
  | 7, _, _ => exact ⟨0, by decide +kernel⟩
  | 8, _, _ => exact ⟨7, by decide +kernel⟩
  | 9, _, _ => exact ⟨0, by decide +kernel⟩
  | 10, _, _ => exact ⟨1, by decide +kernel⟩
  | 11, _, _ => exact ⟨0, by decide +kernel⟩
  | 12, _, _ => exact ⟨3, by decide +kernel⟩
  | 13, _, _ => exact ⟨0, by decide +kernel⟩
  | 14, _, _ => exact ⟨1, by decide +kernel⟩
  | 15, _, _ => exact ⟨0, by decide +kernel⟩
  | x + 16, h, _ => exact absurd h (by omega)
theorem tz64_any (x : Nat) (hx : x < 16) (w : World) (h : TzVar w) : Calls Tryz.prog 253 #[.int .u64 (x : Nat)] w fun e w' => e = .returned (.int .i64 (tzT x : Nat)) ∧ w = w' := by
  by_cases h0 : x = 0
  · subst h0
    exact tz64_zero w
  · obtain ⟨idx, h1, h2, h3⟩ := tz_at x hx h0
    have hc := Lib.TabIs.cell h g_tz idx (by rw [show tz64L.length = 64 by decide]; exact h1)
    rw [h3] at hc
    have hk : ∀ x, x < 16 → x ≠ 0 → tzT x < 64 := by decide
    exact tz64_core x (tzT x) idx w (by simpa using h0) h2 h1 (hk x hx h0) hc
theorem tz_any (x : Nat) (hx : x < 16) (w : World) (h : TzVar w) : Calls Tryz.prog 233 #[.int .u64 (x : Nat)] w fun e w' => e = .returned (.int .i64 (tzT x : Nat)) ∧ w = w' := by
  have H := Lib.hid (tz64_any x hx w h)
  clear h
  generalize tzT x = k at *
  go_enter Tryz.func233, Tryz.ntmps233
  go_wp2_with fail
  refine H.out.mono ?_
  rintro e w1 ⟨rfl, rfl⟩
  go_wp2
  go_ret
  exact ⟨rfl, rfl⟩
theorem wins_tz : ∀ n, n < 17 → ∀ id, id < n → min (lvls n) (tzT id) = wins n id := by decide +kernel
theorem towins_any {n id : Nat} (n16 : n ≤ 16) (hid : id < n) (w : World) (h : TzVar w) : Calls Tryz.prog 247 #[.int .i64 (id : Nat), .int .i64 (lvls n : Nat)] w fun e w' => e = .returned (.int .i64 (wins n id : Nat)) ∧ w = w' := by
  have H := Lib.hid (tz_any id (by omega) w h)
  have hw := wins_tz n (by omega) id hid
  rw [← hw]
  have hm : min ((lvls n : Nat) : Int) ((tzT id : Nat) : Int) = ((min (lvls n) (tzT id) : Nat) : Int) := by omega
  have hu : IntKind.u64.wrap ((id : Nat) : Int) = (id : Int) := by rw [IntKind.wrap_u64]; omega
  clear h hw
  generalize min (lvls n) (tzT id) = z at *
  generalize lvls n = lv at *
  generalize tzT id = k at *
  go_enter Tryz.func247, Tryz.ntmps247
  go_wp2_with fail
  refine H.out.mono ?_
  rintro e w1 ⟨rfl, rfl⟩
  go_wp2
  go_ret
  exact ⟨rfl, rfl⟩
end Go.Proofs.YtgkfhihnfllmhaaGreatDoor
