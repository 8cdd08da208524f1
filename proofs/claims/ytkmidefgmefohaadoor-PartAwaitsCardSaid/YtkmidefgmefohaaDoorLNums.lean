/-
  SUMS ARE SUMS; BITS IN TWO PIECES; LESS, OR NOT.
-/
import Derived.Test.YtkmidefgmefohaaDoorLResult
import Derived.Test.YtkmidefgmefohaaDoorPickI
import Derived.Test.YtkmidefgmefohaaDoorKNums
namespace Go.Proofs.YtkmidefgmefohaaDoor
set_option maxRecDepth 100000
open Go.RowKit Go.Shelf Go.Sort
set_option linter.unusedVariables false
set_option linter.unusedSimpArgs false

theorem good_let (n r v : Int) (hr : 0 ≤ r ∧ r ≤ 7) (hv : isInt v) : goodX n 1 (1, r, v, 0, 0) := ⟨by simp, by simp, by
  obtain ⟨h1, h2⟩ := hr
  obtain ⟨h3, h4⟩ := hv
  simp [fitsL, kindsOf, kinds, nums, boundsL]
  omega⟩
theorem good_plus (n v : Int) (hv : isInt v) : goodX n 1 (3, 3, 1, v, 0) := ⟨by simp, by simp, by
  obtain ⟨h3, h4⟩ := hv
  simp [fitsL, kindsOf, kinds, nums, boundsL]
  omega⟩
theorem good_same (n v : Int) (hv : isInt v) (hn : 5 ≤ n) : goodX n 1 (11, 1, v, 4, 0) := ⟨by simp, by simp, by
  obtain ⟨h3, h4⟩ := hv
  simp [fitsL, kindsOf, kinds, nums, boundsL]
  omega⟩
theorem good_field (n c d : Int) (hc : 0 ≤ c ∧ c ≤ 63) (hd : 1 ≤ d ∧ d ≤ 63) : goodX n 1 (5, 3, 1, c, d) := ⟨by simp, by simp, by
  simp [fitsL, kindsOf, kinds, nums, boundsL]
  omega⟩
theorem right_tail {l : List Ins5} (h : ∀ x ∈ l, goodX ((l.length : Int) + 2) 1 x) (hl : l.length ≤ 100) : RightL (tailP l) 1 := by
  have hlen : (tailP l).length = l.length + 2 := by simp [tailP]
  refine ⟨by decide, by decide, by omega, by omega, fun i hi => ?_, ?_⟩
  · have e : (((tailP l).length : Nat) : Int) = (l.length : Int) + 2 := by omega
    rw [e]
    have hm : (tailP l).getD i default ∈ tailP l := by
      rw [List.getD_eq_getElem?_getD, List.getElem?_eq_getElem hi]
      exact List.getElem_mem hi
    unfold tailP at hm
    rcases List.mem_append.1 hm with h1 | h1
    · exact h _ h1
    · rw [← tailP] at h1
      simp only [List.mem_cons, List.not_mem_nil, or_false] at h1
      rcases h1 with e | e
      · rw [e]
        refine ⟨by decide, by decide, ?_⟩
        simp [fitsL, kindsOf, kinds, nums, boundsL]
      · rw [e]
        refine ⟨by decide, by decide, ?_⟩
        simp [fitsL, kindsOf, kinds, nums, boundsL]
  · left
    rw [hlen]
    unfold tailP
    rw [List.getD_eq_getElem?_getD, List.getElem?_append_right (by omega)]
    rw [show l.length + 2 - 1 - l.length = 1 by omega]
    rfl

theorem sum_right (x y : Int) (hx : isInt x) (hy : isInt y) : RightL (tailP [(1, 1, x, 0, 0), (1, 2, y, 0, 0), (4, 3, 1, 2, 0)]) 1 := by
  refine right_tail ?_ (by simp)
  simp only [List.forall_mem_cons]
  exact ⟨good_let _ _ _ (by decide) hx, good_let _ _ _ (by decide) hy, ⟨by decide, by decide, by simp [fitsL, kindsOf, kinds, nums, boundsL]⟩, fun _ h => by cases h⟩
theorem plus_right (x y : Int) (hx : isInt x) (hy : isInt y) : RightL (tailP [(1, 1, y, 0, 0), (3, 3, 1, x, 0)]) 1 := by
  refine right_tail ?_ (by simp)
  simp only [List.forall_mem_cons]
  exact ⟨good_let _ _ _ (by decide) hy, good_plus _ _ hx, fun _ h => by cases h⟩
theorem field_right (x c d : Int) (hx : isInt x) (hc : 0 ≤ c ∧ c ≤ 63) (hd : 1 ≤ d ∧ d ≤ 63) : RightL (tailP [(1, 1, x, 0, 0), (5, 3, 1, c, d)]) 1 := by
  refine right_tail ?_ (by simp)
  simp only [List.forall_mem_cons]
  exact ⟨good_let _ _ _ (by decide) hx, good_field _ _ _ hc hd, fun _ h => by cases h⟩
theorem ask_right (op a b : Int) (ha : isInt a) (hb : isInt b) (ho : op = 12 ∨ op = 13) : RightL (tailP (askP op a b)) 1 := by
  refine right_tail ?_ (by simp [askP])
  unfold askP
  simp only [List.forall_mem_cons]
  refine ⟨good_let _ _ _ (by decide) ha, good_let _ _ _ (by decide) hb, ?_, good_let _ _ _ (by decide) ⟨by decide, by decide⟩, ⟨by decide, by decide, by simp [fitsL, kindsOf, kinds, nums, boundsL]⟩, good_let _ _ _ (by decide) ⟨by decide, by decide⟩, fun _ h => by cases h⟩
  rcases ho with rfl | rfl
  · exact ⟨by decide, by decide, by simp [fitsL, kindsOf, kinds, nums, boundsL]⟩
  · exact ⟨by decide, by decide, by simp [fitsL, kindsOf, kinds, nums, boundsL]⟩
theorem same_right (a b : Int) (ha : isInt a) (hb : isInt b) : RightL (tailP (sameP a b)) 1 := by
  refine right_tail ?_ (by simp [sameP])
  unfold sameP
  simp only [List.forall_mem_cons]
  exact ⟨good_let _ _ _ (by decide) ha, good_same _ _ hb (by simp), good_let _ _ _ (by decide) ⟨by decide, by decide⟩, ⟨by decide, by decide, by simp [fitsL, kindsOf, kinds, nums, boundsL]⟩, good_let _ _ _ (by decide) ⟨by decide, by decide⟩, fun _ h => by cases h⟩

theorem field_facts (x : Int) (p : Nat) (hp : p < 62) : ∃ u v : Int, Tells [(1, 1, x, 0, 0), (5, 3, 1, 0, 1 + p)] v ∧ Tells [(1, 1, x, 0, 0), (5, 3, 1, 1 + p, 63)] u ∧ v = x % m64 % 2 ^ (1 + p) ∧ u = x % m64 / 2 ^ (1 + p) := by
  have e1 : (1 + (p : Int)).toNat = 1 + p := by omega
  refine ⟨_, _, field_tells x 0 (1 + p), field_tells x (1 + p) 63, ?_, ?_⟩
  · rw [e1]
    simp
  · rw [e1]
    have h0 : 0 ≤ x % m64 := Int.emod_nonneg _ (by decide)
    have h1 : x % m64 < m64 := Int.emod_lt_of_pos _ (by decide)
    refine Int.emod_eq_of_lt (Int.ediv_nonneg h0 (Int.le_of_lt (Int.pow_pos (by decide)))) ?_
    refine Int.ediv_lt_of_lt_mul (Int.pow_pos (by decide)) (Int.lt_of_lt_of_le h1 ?_)
    have h2 : (2 : Int) ^ 1 ≤ 2 ^ (1 + p) := by
      rw [Int.pow_add]
      have : (0 : Int) < 2 ^ p := Int.pow_pos (by decide)
      omega
    show m64 ≤ 2 ^ 63 * 2 ^ (1 + p)
    have h3 : (2 : Int) ^ 63 * 2 ^ 1 ≤ 2 ^ 63 * 2 ^ (1 + p) := Int.mul_le_mul_of_nonneg_left h2 (by decide)
    exact Int.le_trans (by decide) h3

theorem field_joins (x u v : Int) (p : Nat) (hp : p < 62) (hv : v = x % m64 % 2 ^ (1 + p)) (hu : u = x % m64 / 2 ^ (1 + p)) :
    (bits BinOp.or IntKind.u64 (IntKind.u64.wrap (u * 2 ^ (1 + p))) v == IntKind.u64.wrap x) = true ∧ decide (v < IntKind.u64.wrap (2 ^ (1 + p))) = true := by
  have h0 : 0 ≤ x % m64 := Int.emod_nonneg _ (by decide)
  have h1 : x % m64 < m64 := Int.emod_lt_of_pos _ (by decide)
  rw [wrapU x]
  obtain ⟨X, hX⟩ : ∃ X, x % m64 = X := ⟨_, rfl⟩
  rw [hX] at h0 h1 hv hu ⊢
  have hP : (0 : Int) < 2 ^ (1 + p) := Int.pow_pos (by decide)
  have hP2 : (2 : Int) ^ (1 + p) ≤ 2 ^ 63 := by
    have : (2 : Nat) ^ (1 + p) ≤ 2 ^ 63 := Nat.pow_le_pow_right (by decide) (by omega)
    exact_mod_cast this
  have e64 : (2 : Int) ^ 64 = m64 := by decide
  have e63 : (2 : Int) ^ 63 < m64 := by decide
  have hd := Int.mul_ediv_add_emod X (2 ^ (1 + p))
  have hm0 := Int.emod_nonneg X (Int.ne_of_gt hP)
  have hm1 := Int.emod_lt_of_pos X hP
  have hq : 0 ≤ X / 2 ^ (1 + p) := Int.ediv_nonneg h0 (Int.le_of_lt hP)
  have hc : u * 2 ^ (1 + p) = 2 ^ (1 + p) * (X / 2 ^ (1 + p)) := by rw [hu, Int.mul_comm]
  have hn : 0 ≤ 2 ^ (1 + p) * (X / 2 ^ (1 + p)) := Int.mul_nonneg (Int.le_of_lt hP) hq
  have w1 : IntKind.u64.wrap (u * 2 ^ (1 + p)) = u * 2 ^ (1 + p) := by
    rw [wrapU, hc]
    exact Int.emod_eq_of_lt hn (by omega)
  have w2 : IntKind.u64.wrap (2 ^ (1 + p)) = 2 ^ (1 + p) := by
    rw [wrapU]
    exact Int.emod_eq_of_lt (Int.le_of_lt hP) (by omega)
  rw [w1, w2]
  refine ⟨beq_iff_eq.2 ?_, decide_eq_true (by rw [hv]; exact hm1)⟩
  rw [bits_join .u64 64 (by decide) (fun n h0 h1 => by rw [wrapU]; exact Int.emod_eq_of_lt h0 (by rw [← e64]; exact h1)) (1 + p) _ _ (by rw [hc]; exact hn) (by rw [hc]; exact Int.mul_emod_right _ _) (by rw [hc, e64]; omega) (by rw [hv]; exact hm0) (by rw [hv]; exact hm1) (by rw [hv, e64]; omega), hc, hv]
  exact hd

theorem cell_let {w1 w2 : World} {o : Obj} {cs : Array Value} {t : TypeId} (ho : o = .cells cs t) (hb : Below (w1.heap.size + 1) (w1.alloc o) w2) (k : Nat) : w2.cell? ⟨w1.heap.size, k, none⟩ = cs[k]? := by
  subst ho
  rw [hb.cell (p := ⟨w1.heap.size, k, none⟩) (Nat.lt_succ_self _)]
  exact cell_in (heap_alloc_new w1 _) k

theorem order_facts (a b : Int) : ∃ z q r : Int, (if a % m64 < b % m64 then (9 : Int) else 7) = z ∧ (if b % m64 < a % m64 then (9 : Int) else 7) = q ∧ (if a % m64 = b % m64 then (9 : Int) else 7) = r ∧
    IntKind.u64.wrap (IntKind.u64.wrap (z + q) + r) = 23 ∧ (z == 9) = decide (IntKind.u64.wrap a < IntKind.u64.wrap b) := by
  refine ⟨_, _, _, rfl, rfl, rfl, ?_, ?_⟩
  · simp only [wrapU]
    unfold m64
    repeat' split
    all_goals omega
  · simp only [wrapU]
    split
    · simp [*]
    · simp [*]

end Go.Proofs.YtkmidefgmefohaaDoor
