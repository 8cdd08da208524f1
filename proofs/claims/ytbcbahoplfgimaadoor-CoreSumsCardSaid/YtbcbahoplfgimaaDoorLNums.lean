/-
  SUMS ARE SUMS; BITS IN TWO PIECES; LESS, OR NOT.
-/
import Derived.Test.YtbcbahoplfgimaaDoorLResult
import Derived.Test.YtbcbahoplfgimaaDoorPickI
import Derived.Test.YtbcbahoplfgimaaDoorKNums
namespace Go.Proofs.YtbcbahoplfgimaaDoor
set_option maxRecDepth 100000
open Go.RowKit Go.Shelf Go.Sort
set_option linter.unusedVariables false
set_option linter.unusedSimpArgs false

theorem good_let (n r v : Int) (hr : 0 ≤ r ∧ r ≤ 7) (hv : isInt v) : goodX n 1 (1, r, v, 0, 0) := ⟨by simp, by simp, by
  obtain ⟨h1, h2⟩ := hr
  obtain ⟨h3, h4⟩ := hv
  simp [fitsL, kindsOf, kinds, nums, boundsL]
  omega⟩
theorem good_plus (n v : Int) (hv : isInt v) : goodX n 1 (3, 3, 1, v, 0) := ⟨by simp, by simp, by
  obtain ⟨h3, h4⟩ := hv
  simp [fitsL, kindsOf, kinds, nums, boundsL]
  omega⟩
theorem good_same (n v : Int) (hv : isInt v) (hn : 5 ≤ n) : goodX n 1 (11, 1, v, 4, 0) := ⟨by simp, by simp, by
  obtain ⟨h3, h4⟩ := hv
  simp [fitsL, kindsOf, kinds, nums, boundsL]
  omega⟩
theorem good_field (n c d : Int) (hc : 0 ≤ c ∧ c ≤ 63) (hd : 1 ≤ d ∧ d ≤ 63) : goodX n 1 (5, 3, 1, c, d) := ⟨by simp, by simp, by
  simp [fitsL, kindsOf, kinds, nums, boundsL]
  omega⟩
theorem right_tail {l : List Ins5} (h : ∀ x ∈ l, goodX ((l.length : Int) + 2) 1 x) (hl : l.length ≤ 100) : RightL (tailP l) 1 := by
  have hlen : (tailP l).length = l.length + 2 := by simp [tailP]
  refine ⟨by decide, by decide, by omega, by omega, fun i hi => ?_, ?_⟩
  · have e : (((tailP l).length : Nat) : Int) = (l.length : Int) + 2 := by omega
    rw [e]
    have hm : (tailP l).getD i default ∈ tailP l := by
      rw [List.getD_eq_getElem?_getD, List.getElem?_eq_getElem hi]
      exact List.getElem_mem hi
    unfold tailP at hm
    rcases List.mem_append.1 hm with h1 | h1
    · exact h _ h1
    · rw [← tailP] at h1
      simp only [List.mem_cons, List.not_mem_nil, or_false] at h1
      rcases h1 with e | e
      · rw [e]
        refine ⟨by decide, by decide, ?_⟩
        simp [fitsL, kindsOf, kinds, nums, boundsL]
      · rw [e]
        refine ⟨by decide, by decide, ?_⟩
        simp [fitsL, kindsOf, kinds, nums, boundsL]
  · left
    rw [hlen]
    unfold tailP
    rw [List.getD_eq_getElem?_getD, List.getElem?_append_right (by omega)]
    rw [show l.length + 2 - 1 - l.length = 1 by omega]
    rfl

theorem sum_right (x y : Int) (hx : isInt x) (hy : isInt y) : RightL (tailP [(1, 1, x, 0, 0), (1, 2, y, 0, 0), (4, 3, 1, 2, 0)]) 1 := by
  refine right_tail ?_ (by simp)
  simp only [List.forall_mem_cons]
  exact ⟨good_let _ _ _ (by decide) hx, good_let _ _ _ (by decide) hy, ⟨by decide, by decide, by simp [fitsL, kindsOf, kinds, nums, boundsL]⟩, fun _ h => by cases h⟩
theorem plus_right (x y : Int) (hx : isInt x) (hy : isInt y) : RightL (tailP [(1, 1, y, 0, 0), (3, 3, 1, x, 0)]) 1 := by
  refine right_tail ?_ (by simp)
  simp only [List.forall_mem_cons]
  exact ⟨good_let _ _ _ (by decide) hy, good_plus _ _ hx, fun _ h => by cases h⟩
theorem field_right (x c d : Int) (hx : isInt x) (hc : 0 ≤ c ∧ c ≤ 63) (hd : 1 ≤ d ∧ d ≤ 63) : RightL (tailP [(1, 1, x, 0, 0), (5, 3, 1, c, d)]) 1 := by
  refine right_tail ?_ (by simp)
  simp only [List.forall_mem_cons]
  exact ⟨good_let _ _ _ (by decide) hx, good_field _ _ _ hc hd, fun _ h => by cases h⟩
theorem ask_right (op a b : Int) (ha : isInt a) (hb : isInt b) (ho : op = 12 ∨ op = 13) : RightL (tailP (askP op a b)) 1 := by
  refine right_tail ?_ (by simp [askP])
  unfold askP
  simp only [List.forall_mem_cons]
  refine ⟨good_let _ _ _ (by decide) ha, good_let _ _ _ (by decide) hb, ?_, good_let _ _ _ (by decide) ⟨by decide, by decide⟩, ⟨by decide, by decide, by simp [fitsL, kindsOf, kinds, nums, boundsL]⟩, good_let _ _ _ (by decide) ⟨by decide, by decide⟩, fun _ h => by cases h⟩
  rcases ho with rfl | rfl
  · exact ⟨by decide, by decide, by simp [fitsL, kindsOf, kinds, nums, boundsL]⟩
  · exact ⟨by decide, by decide, by simp [fitsL, kindsOf, kinds, nums, boundsL]⟩
theorem same_right (a b : Int) (ha : isInt a) (hb : isInt b) : RightL (tailP (sameP a b)) 1 := by
  refine right_tail ?_ (by simp [sameP])
  unfold sameP
  simp only [List.forall_mem_cons]
  exact ⟨good_let _ _ _ (by decide) ha, good_same _ _ hb (by simp), good_let _ _ _ (by decide) ⟨by decide, by decide⟩, ⟨by decide, by decide, by simp [fitsL, kindsOf, kinds, nums, boundsL]⟩, good_let _ _ _ (by decide) ⟨by decide, by decide⟩, fun _ h => by cases h⟩

/-- A program that is written down where it is told. -/
theorem result_new {w w1 : World} (hw : CW w) (hb : Below w.heap.size w w1) (cs : Array Value) (l : List Ins5) (n : Nat) (hcs : cs.toList = cells5 l) (hl : l.length = n) (hn : n ≤ 100) (hR : RightL (tailP l) 1) (v : Int) (hT : Tells l v) :
    Calls Tryd.prog 7 #[.slice (some ⟨w1.heap.size, 0, none⟩) n n] (w1.alloc (.cells cs 27)) fun e w' => e = .returned (.tuple #[.int .u64 v, .bool true]) ∧ Below w.heap.size w w' := by
  have hsz : cs.size = n * 5 := by
    rw [← Array.length_toList, hcs, ← hl]
    clear hcs hl hR hT
    induction l with
    | nil => rfl
    | cons x l ih => rw [show cells5 (x :: l) = cells5 [x] ++ cells5 l from cells5_append [x] l, List.length_append, ih, cells5_one, List.length_cons]; simp; omega
  have ho := World.ownsRow_lit (base := w.heap.size) (e := 27) (size := 5) w1 cs n hb.size (by unfold maxLen; omega) hsz
  rw [hcs] at ho
  exact result_any hw (hb.alloc hb.size _) _ n l ho hl hn hR v hT

set_option maxHeartbeats 4000000 in
theorem coreSums_any {w : World} (hw : CW w) (x y : Int) (hx : isInt x) (hy : isInt y) :
    Calls Tryd.prog 3 #[.int .i64 x, .int .i64 y] w fun e w' => e = .returned (.bool true) ∧ Below w.heap.size w w' := by
  have HG := Lib.hid (gone_any hw)
  have HR1 := Lib.hid (fun w1 (hb : Below w.heap.size w w1) => result_new hw hb #[.int .i64 1, .int .i64 1, .int .i64 x, .int .i64 0, .int .i64 0, .int .i64 1, .int .i64 2, .int .i64 y, .int .i64 0, .int .i64 0, .int .i64 4, .int .i64 3, .int .i64 1, .int .i64 2, .int .i64 0] _ 3 rfl rfl (by decide) (sum_right x y hx hy) _ (sum_tells x y))
  have HR2 := Lib.hid (fun w1 (hb : Below w.heap.size w w1) => result_new hw hb #[.int .i64 1, .int .i64 1, .int .i64 y, .int .i64 0, .int .i64 0, .int .i64 3, .int .i64 3, .int .i64 1, .int .i64 x, .int .i64 0] _ 2 rfl rfl (by decide) (plus_right x y hx hy) _ (plus_tells x y))
  rw [← sums_same] at HR2
  obtain ⟨v, hv⟩ : ∃ v, (x % m64 + y % m64) % m64 = v := ⟨_, rfl⟩
  rw [hv] at HR1 HR2
  have hvv : (v == v) = true := by simp
  have hv3 : IntKind.u64.wrap (IntKind.u64.wrap x + IntKind.u64.wrap y) = v := by rw [wrapU, wrapU, wrapU]; exact hv
  clear hw hv
  go_enter Tryd.func3, Tryd.ntmps3
  go_wp2_with fail
  refine HG.out.mono ?_
  rintro e w1 ⟨rfl, hb1⟩
  have HB1 := Lib.hid hb1
  clear hb1 HG
  go_wp2_with fail
  refine (HR1.out _ HB1.out).mono ?_
  rintro e w2 ⟨rfl, hb2⟩
  have HB2 := Lib.hid hb2
  clear hb2 HB1 HR1
  go_wp2_with fail
  refine (HR2.out _ HB2.out).mono ?_
  rintro e w3 ⟨rfl, hb3⟩
  have HB3 := Lib.hid hb3
  clear hb3 HB2 HR2
  go_wp2
  go_ret
  exact ⟨rfl, HB3.out⟩

theorem field_facts (x : Int) (p : Nat) (hp : p < 62) : ∃ u v : Int, Tells [(1, 1, x, 0, 0), (5, 3, 1, 0, 1 + p)] v ∧ Tells [(1, 1, x, 0, 0), (5, 3, 1, 1 + p, 63)] u ∧ v = x % m64 % 2 ^ (1 + p) ∧ u = x % m64 / 2 ^ (1 + p) := by
  have e1 : (1 + (p : Int)).toNat = 1 + p := by omega
  refine ⟨_, _, field_tells x 0 (1 + p), field_tells x (1 + p) 63, ?_, ?_⟩
  · rw [e1]
    simp
  · rw [e1]
    have h0 : 0 ≤ x % m64 := Int.emod_nonneg _ (by decide)
    have h1 : x % m64 < m64 := Int.emod_lt_of_pos _ (by decide)
    refine Int.emod_eq_of_lt (Int.ediv_nonneg h0 (Int.le_of_lt (Int.pow_pos (by decide)))) ?_
    refine Int.ediv_lt_of_lt_mul (Int.pow_pos (by decide)) (Int.lt_of_lt_of_le h1 ?_)
    have h2 : (2 : Int) ^ 1 ≤ 2 ^ (1 + p) := by
      rw [Int.pow_add]
      have : (0 : Int) < 2 ^ p := Int.pow_pos (by decide)
      omega
    show m64 ≤ 2 ^ 63 * 2 ^ (1 + p)
    have h3 : (2 : Int) ^ 63 * 2 ^ 1 ≤ 2 ^ 63 * 2 ^ (1 + p) := Int.mul_le_mul_of_nonneg_left h2 (by decide)
    exact Int.le_trans (by decide) h3

theorem field_joins (x u v : Int) (p : Nat) (hp : p < 62) (hv : v = x % m64 % 2 ^ (1 + p)) (hu : u = x % m64 / 2 ^ (1 + p)) :
    (bits BinOp.or IntKind.u64 (IntKind.u64.wrap (u * 2 ^ (1 + p))) v == IntKind.u64.wrap x) = true ∧ decide (v < IntKind.u64.wrap (2 ^ (1 + p))) = true := by
  have h0 : 0 ≤ x % m64 := Int.emod_nonneg _ (by decide)
  have h1 : x % m64 < m64 := Int.emod_lt_of_pos _ (by decide)
  rw [wrapU x]
  obtain ⟨X, hX⟩ : ∃ X, x % m64 = X := ⟨_, rfl⟩
  rw [hX] at h0 h1 hv hu ⊢
  have hP : (0 : Int) < 2 ^ (1 + p) := Int.pow_pos (by decide)
  have hP2 : (2 : Int) ^ (1 + p) ≤ 2 ^ 63 := by
    have : (2 : Nat) ^ (1 + p) ≤ 2 ^ 63 := Nat.pow_le_pow_right (by decide) (by omega)
    exact_mod_cast this
  have e64 : (2 : Int) ^ 64 = m64 := by decide
  have e63 : (2 : Int) ^ 63 < m64 := by decide
  have hd := Int.mul_ediv_add_emod X (2 ^ (1 + p))
  have hm0 := Int.emod_nonneg X (Int.ne_of_gt hP)
  have hm1 := Int.emod_lt_of_pos X hP
  have hq : 0 ≤ X / 2 ^ (1 + p) := Int.ediv_nonneg h0 (Int.le_of_lt hP)
  have hc : u * 2 ^ (1 + p) = 2 ^ (1 + p) * (X / 2 ^ (1 + p)) := by rw [hu, Int.mul_comm]
  have hn : 0 ≤ 2 ^ (1 + p) * (X / 2 ^ (1 + p)) := Int.mul_nonneg (Int.le_of_lt hP) hq
  have w1 : IntKind.u64.wrap (u * 2 ^ (1 + p)) = u * 2 ^ (1 + p) := by
    rw [wrapU, hc]
    exact Int.emod_eq_of_lt hn (by omega)
  have w2 : IntKind.u64.wrap (2 ^ (1 + p)) = 2 ^ (1 + p) := by
    rw [wrapU]
    exact Int.emod_eq_of_lt (Int.le_of_lt hP) (by omega)
  rw [w1, w2]
  refine ⟨beq_iff_eq.2 ?_, decide_eq_true (by rw [hv]; exact hm1)⟩
  rw [bits_join .u64 64 (by decide) (fun n h0 h1 => by rw [wrapU]; exact Int.emod_eq_of_lt h0 (by rw [← e64]; exact h1)) (1 + p) _ _ (by rw [hc]; exact hn) (by rw [hc]; exact Int.mul_emod_right _ _) (by rw [hc, e64]; omega) (by rw [hv]; exact hm0) (by rw [hv]; exact hm1) (by rw [hv, e64]; omega), hc, hv]
  exact hd

theorem cell_let {w1 w2 : World} {o : Obj} {cs : Array Value} {t : TypeId} (ho : o = .cells cs t) (hb : Below (w1.heap.size + 1) (w1.alloc o) w2) (k : Nat) : w2.cell? ⟨w1.heap.size, k, none⟩ = cs[k]? := by
  subst ho
  rw [hb.cell (p := ⟨w1.heap.size, k, none⟩) (Nat.lt_succ_self _)]
  exact cell_in (heap_alloc_new w1 _) k

set_option maxHeartbeats 1000000 in
theorem coreFields_any {w : World} (hw : CW w) (x t : Int) (hx : isInt x) :
    Calls Tryd.prog 4 #[.int .i64 x, .int .i64 t] w fun e w' => e = .returned (.bool true) ∧ Below w.heap.size w w' := by
  have HG := Lib.hid (gone_any hw)
  obtain ⟨p, hp⟩ := nat_of (pickI_lo t 62)
  have hp2 := pickI_hi t 62 (by omega)
  rw [hp] at hp2
  obtain ⟨u, v, hT1, hT2, hv, hu⟩ := field_facts x p (by omega)
  have HR1 := Lib.hid (fun (w1 : World) (hb : Below w.heap.size w w1) => result_new (hw.old hb) (Below.refl _ _) #[.int .i64 1, .int .i64 1, .int .i64 x, .int .i64 0, .int .i64 0, .int .i64 5, .int .i64 3, .int .i64 1, .int .i64 0, .int .i64 (1 + p)] [(1, 1, x, 0, 0), (5, 3, 1, 0, 1 + p)] 2 rfl rfl (by decide) (field_right x 0 (1 + p) hx (by decide) (by omega)) v hT1)
  have HR2 := Lib.hid (fun (w1 : World) (hb : Below w.heap.size w w1) => result_new hw hb #[.int .i64 1, .int .i64 1, .int .i64 x, .int .i64 0, .int .i64 0, .int .i64 5, .int .i64 3, .int .i64 1, .int .i64 (1 + p), .int .i64 63] [(1, 1, x, 0, 0), (5, 3, 1, 1 + p, 63)] 2 rfl rfl (by decide) (field_right x (1 + p) 63 hx (by omega) (by decide)) u hT2)
  have HJ := Lib.hid (field_joins x u v p (by omega) hv hu)
  clear hw hT1 hT2 hu hv hx
  go_enter Tryd.func4, Tryd.ntmps4
  go_wp2_with fail
  refine HG.out.mono ?_
  rintro e w1 ⟨rfl, hb1⟩
  have HB1 := Lib.hid hb1
  clear hb1 HG
  go_wp2_with fail
  refine (pick_det t _ 62 _ (by go_num) (by omega) (by omega)).mono ?_
  rintro e w2 ⟨rfl, rfl⟩
  rw [hp]
  clear hp
  go_wp2_with fail
  have h1 := HR1.out (w1.alloc (.cells #[.int .i64 1, .int .i64 1, .int .i64 x, .int .i64 0, .int .i64 0] 27)) (HB1.out.alloc HB1.out.size _)
  rw [show (w1.alloc (.cells #[.int .i64 1, .int .i64 1, .int .i64 x, .int .i64 0, .int .i64 0] 27)).heap.size = w1.heap.size + 1 by simp] at h1
  refine h1.mono ?_
  rintro e w2 ⟨rfl, hb2⟩
  have c0 := cell_let rfl hb2 0
  have c1 := cell_let rfl hb2 1
  have c2 := cell_let rfl hb2 2
  have c3 := cell_let rfl hb2 3
  have c4 := cell_let rfl hb2 4
  simp only [List.getElem?_toArray, List.getElem?_cons_zero, List.getElem?_cons_succ] at c0 c1 c2 c3 c4
  have HB2 := Lib.hid ((HB1.out.alloc HB1.out.size (.cells #[.int .i64 1, .int .i64 1, .int .i64 x, .int .i64 0, .int .i64 0] 27)).trans (hb2.mono (by have := HB1.out.size; omega)))
  clear h1 hb2 HB1 HR1
  go_wp2_with fail
  refine (HR2.out _ HB2.out).mono ?_
  rintro e w3 ⟨rfl, hb3⟩
  have HB3 := Lib.hid hb3
  clear hb3 HB2 HR2
  obtain ⟨hj1, hj2⟩ := HJ.out
  go_wp2
  go_ret
  exact ⟨rfl, HB3.out⟩

set_option maxHeartbeats 4000000 in
theorem ask_any {w w1 : World} (hw : CW w) (hb : Below w.heap.size w w1) (op a b : Int) (ha : isInt a) (hb2 : isInt b) (ho : op = 12 ∨ op = 13) (v : Int) (hT : Tells (askP op a b) v) :
    Calls Tryd.prog 9 #[.int .i64 op, .int .i64 a, .int .i64 b] w1 fun e w' => e = .returned (.int .u64 v) ∧ Below w.heap.size w w' := by
  have HR := Lib.hid (result_new hw hb #[.int .i64 1, .int .i64 1, .int .i64 a, .int .i64 0, .int .i64 0, .int .i64 1, .int .i64 2, .int .i64 b, .int .i64 0, .int .i64 0, .int .i64 op, .int .i64 1, .int .i64 2, .int .i64 5, .int .i64 0, .int .i64 1, .int .i64 3, .int .i64 7, .int .i64 0, .int .i64 0, .int .i64 10, .int .i64 6, .int .i64 0, .int .i64 0, .int .i64 0, .int .i64 1, .int .i64 3, .int .i64 9, .int .i64 0, .int .i64 0] _ 6 rfl rfl (by decide) (ask_right op a b ha hb2 ho) _ hT)
  clear hw hb ho hT
  go_enter Tryd.func9, Tryd.ntmps9
  go_wp2_with fail
  refine HR.out.mono ?_
  rintro e w2 ⟨rfl, hb2⟩
  have HB2 := Lib.hid hb2
  clear hb2 HR
  go_wp2
  go_ret
  exact ⟨rfl, HB2.out⟩

theorem order_facts (a b : Int) : ∃ z q r : Int, (if a % m64 < b % m64 then (9 : Int) else 7) = z ∧ (if b % m64 < a % m64 then (9 : Int) else 7) = q ∧ (if a % m64 = b % m64 then (9 : Int) else 7) = r ∧
    IntKind.u64.wrap (IntKind.u64.wrap (z + q) + r) = 23 ∧ (z == 9) = decide (IntKind.u64.wrap a < IntKind.u64.wrap b) := by
  refine ⟨_, _, _, rfl, rfl, rfl, ?_, ?_⟩
  · simp only [wrapU]
    unfold m64
    repeat' split
    all_goals omega
  · simp only [wrapU]
    split
    · simp [*]
    · simp [*]

set_option maxHeartbeats 4000000 in
theorem coreOrders_any {w : World} (hw : CW w) (x y : Int) (hx : isInt x) (hy : isInt y) :
    Calls Tryd.prog 5 #[.int .i64 x, .int .i64 y] w fun e w' => e = .returned (.bool true) ∧ Below w.heap.size w w' := by
  have HG := Lib.hid (gone_any hw)
  have HR1 := Lib.hid (fun w1 (hb : Below w.heap.size w w1) => ask_any hw hb 12 x y hx hy (.inl rfl) _ (less_tells x y))
  have HR2 := Lib.hid (fun w1 (hb : Below w.heap.size w w1) => ask_any hw hb 12 y x hy hx (.inl rfl) _ (less_tells y x))
  have HR3 := Lib.hid (fun w1 (hb : Below w.heap.size w w1) => ask_any hw hb 13 x y hx hy (.inr rfl) _ (equal_tells x y))
  have HR4 := Lib.hid (fun w1 (hb : Below w.heap.size w w1) => result_new hw hb #[.int .i64 1, .int .i64 1, .int .i64 x, .int .i64 0, .int .i64 0, .int .i64 11, .int .i64 1, .int .i64 y, .int .i64 4, .int .i64 0, .int .i64 1, .int .i64 3, .int .i64 7, .int .i64 0, .int .i64 0, .int .i64 10, .int .i64 5, .int .i64 0, .int .i64 0, .int .i64 0, .int .i64 1, .int .i64 3, .int .i64 9, .int .i64 0, .int .i64 0] _ 5 rfl rfl (by decide) (same_right x y hx hy) _ (same_tells x y))
  obtain ⟨z, q, r, ez, eq, er, hs, ho⟩ := order_facts x y
  rw [ez] at HR1
  rw [eq] at HR2
  rw [er] at HR3 HR4
  have hrr : (r == r) = true := by simp
  clear hw ez eq er
  go_enter Tryd.func5, Tryd.ntmps5
  go_wp2_with fail
  refine HG.out.mono ?_
  rintro e w1 ⟨rfl, hb1⟩
  have HB1 := Lib.hid hb1
  clear hb1 HG
  go_wp2_with fail
  refine (HR1.out _ HB1.out).mono ?_
  rintro e w2 ⟨rfl, hb2⟩
  have HB2 := Lib.hid hb2
  clear hb2 HB1 HR1
  go_wp2_with fail
  refine (HR2.out _ HB2.out).mono ?_
  rintro e w3 ⟨rfl, hb3⟩
  have HB3 := Lib.hid hb3
  clear hb3 HB2 HR2
  go_wp2_with fail
  refine (HR3.out _ HB3.out).mono ?_
  rintro e w4 ⟨rfl, hb4⟩
  have HB4 := Lib.hid hb4
  clear hb4 HB3 HR3
  go_wp2_with fail
  refine (HR4.out _ HB4.out).mono ?_
  rintro e w5 ⟨rfl, hb5⟩
  have HB5 := Lib.hid hb5
  clear hb5 HB4 HR4
  go_wp2
  go_ret
  exact ⟨rfl, HB5.out⟩
end Go.Proofs.YtbcbahoplfgimaaDoor
