/-
  Threads that do the same: slices.Repeat at [][]api.Ins; raced. Threads that do the same: raced.
-/
import Derived.Test.YtdfljhechmanlaaDoorShelf
import Derived.Test.YtdfljhechmanlaaDoorQJ2
import Derived.Test.YtdfljhechmanlaaDoorQH4
import Derived.Test.YtdfljhechmanlaaDoorQC2
import Derived.Laws.CopyRow
import Derived.Laws.CopyOwn
import Derived.Lib.SlBuf
import Derived.Test.YtdfljhechmanlaaDoorQJ
import Derived.Test.YtdfljhechmanlaaDoorQI
import Derived.Test.YtdfljhechmanlaaDoorQH5
import Derived.Test.YtdfljhechmanlaaDoorQE2
namespace Go.Proofs.YtdfljhechmanlaaDoor
set_option maxRecDepth 100000
open Go.RowKit Go.Shelf Go.Sort
set_option linter.unusedVariables false
set_option linter.unusedSimpArgs false

theorem infoSInsR : (Tryd.prog.info? 55).map (fun i => (i.zero, i.size, i.bytes)) = some (some (.slice none 0 0), 1, 24) := by kernel_rfl
/-- k of n cells are v, so far. -/
def fillR (v : Value) (n k : Nat) : Array Value := (List.replicate k v ++ List.replicate (n - k) (Value.slice none 0 0)).toArray
structure FillR (w : World) (g n : Nat) (v : Value) (k : Nat) (wr : World) : Prop where
  bel : Below w.heap.size w wr
  lo : w.heap.size ≤ g
  row : wr.heap[g]? = some (.cells (fillR v n k) 55 (0, 0))
theorem FillR.copy {w wr : World} {g n k : Nat} {A : Option Addr} {m c : Nat} (h : FillR w g n (.slice A m c) k wr) (k1 : 1 ≤ k) (hk : k < n) (ty : TypeId) :
    ∃ w', (Builtin.copy_ #[70, 70] ty #[.slice (some ⟨g, k, none⟩) (n - k) (n - k), .slice (some ⟨g, 0, none⟩) k n]).run Tryd.prog wr = .ok (goInt ((min k (n - k) : Nat) : Int)) w' ∧ FillR w g n (.slice A m c) (k + min k (n - k)) w' := by
  obtain ⟨i0, hi0, hz0, hz1, hz2⟩ := info_parts infoSInsR
  have hs : (Tryd.prog.info? 55).map (·.size) = some 1 := by rw [hi0]; simp [hz1]
  have hsz : (fillR (.slice A m c) n k).size = n := by simp [fillR]; omega
  have hat : ∀ j, j < k → wr.cell? ⟨g, j, none⟩ = some (.slice A m c) := fun j hj => by
    rw [cell_in h.row j, ← Array.getElem?_toList]
    show (List.replicate k (Value.slice A m c) ++ List.replicate (n - k) (Value.slice none 0 0))[j]? = _
    rw [List.getElem?_append_left (by simpa using hj), List.getElem?_replicate, if_pos hj]
  have hr := run_copy_row (P := Tryd.prog) wr 70 70 ty 55 g k (n - k) (n - k) ⟨g, 0, none⟩ k n (fillR (.slice A m c) n k) 55 (List.replicate (min k (n - k)) (.slice A m c)) Tryd.underlying70 hs h.row (by rw [List.length_replicate]) (fun j v hj => by
    rw [List.getElem?_replicate] at hj
    split at hj
    · injection hj with hj
      subst hj
      have : (⟨g, 0, none⟩ : Addr).add j = ⟨g, j, none⟩ := by simp [Addr.add]; omega
      rw [this]
      exact hat j (by omega)
    · cases hj) (by rw [List.length_replicate, hsz]; omega) (fun v hv => by rw [(List.mem_replicate.1 hv).2]; rfl)
  rw [List.length_replicate] at hr
  refine ⟨_, hr, ?_⟩
  have he : (((fillR (.slice A m c) n k).toList.take k ++ List.replicate (min k (n - k)) (Value.slice A m c) ++ (fillR (.slice A m c) n k).toList.drop (k + min k (n - k))).toArray) = fillR (.slice A m c) n (k + min k (n - k)) := by
    unfold fillR
    congr 1
    have e1 : (List.replicate k (Value.slice A m c) ++ List.replicate (n - k) (Value.slice none 0 0)).take k = List.replicate k (Value.slice A m c) := by rw [List.take_append_of_le_length (by simp)]; simp
    have e2 : (List.replicate k (Value.slice A m c) ++ List.replicate (n - k) (Value.slice none 0 0)).drop (k + min k (n - k)) = List.replicate (n - (k + min k (n - k))) (Value.slice none 0 0) := by
      rw [List.drop_append, List.length_replicate, List.drop_eq_nil_of_le (by simp), List.nil_append, List.drop_replicate]
      congr 1
      omega
    rw [show ((List.replicate k (Value.slice A m c) ++ List.replicate (n - k) (Value.slice none 0 0)).toArray.toList) = List.replicate k (Value.slice A m c) ++ List.replicate (n - k) (Value.slice none 0 0) from rfl, e1, e2, List.replicate_append_replicate]
  rw [he]
  exact ⟨below_setRow h.bel h.lo _, h.lo, setRow_heap wr g _ _ 55 _ h.row⟩

theorem FillR.first {w wr : World} {g n xb : Nat} {A : Option Addr} {m c : Nat} (h : FillR w g n (.slice A m c) 0 wr) (n1 : 1 ≤ n) (hx : wr.cell? ⟨xb, 0, none⟩ = some (.slice A m c)) (ty : TypeId) :
    ∃ w', (Builtin.copy_ #[70, 70] ty #[.slice (some ⟨g, 0, none⟩) n n, .slice (some ⟨xb, 0, none⟩) 1 1]).run Tryd.prog wr = .ok (.int .i64 1) w' ∧ FillR w g n (.slice A m c) 1 w' := by
  obtain ⟨i0, hi0, hz0, hz1, hz2⟩ := info_parts infoSInsR
  have hs : (Tryd.prog.info? 55).map (·.size) = some 1 := by rw [hi0]; simp [hz1]
  have hsz : (fillR (.slice A m c) n 0).size = n := by simp [fillR]
  have hr := run_copy_row (P := Tryd.prog) wr 70 70 ty 55 g 0 n n ⟨xb, 0, none⟩ 1 1 (fillR (.slice A m c) n 0) 55 [.slice A m c] Tryd.underlying70 hs h.row (by show 1 = min 1 n; omega) (fun j v hj => by
    match j, hj with
    | 0, hj =>
      injection hj with hj
      subst hj
      have : (⟨xb, 0, none⟩ : Addr).add 0 = ⟨xb, 0, none⟩ := by simp [Addr.add]
      rw [this]
      exact hx) (by rw [hsz]; simp; omega) (fun v hv => by rw [List.mem_singleton.1 hv]; rfl)
  refine ⟨_, hr, below_setRow h.bel h.lo _, h.lo, ?_⟩
  have he : (((fillR (.slice A m c) n 0).toList.take 0 ++ [Value.slice A m c] ++ (fillR (.slice A m c) n 0).toList.drop (0 + [Value.slice A m c].length)).toArray) = fillR (.slice A m c) n 1 := by
    apply Array.ext'
    simp [fillR]
  rw [he]
  exact setRow_heap wr g _ _ 55 _ h.row
theorem step_copy_run {P : Program} {ops : Array Oper} {o : Oper} {a : Act} {wx : World} {K : Act → World → Prop} {Q : Exit → Act → World → Prop} {E : Prop} (hgd : o.guard = none) (s x : Operand) (t u : TypeId) (ho : o.op = .call { callee := .builtin .copy, args := #[s, x], argTypes := #[t, u] }) {v y v' : Value} {w' : World} (hs : a.eval s = v) (hx : a.eval x = y) (hr : (Builtin.copy_ #[t, u] o.type #[v, y]).run P wx = .ok v' w') (hK : K (a.put o.dst v') w') :
    if Region.wanted o (yielded ops a.tmps) = true then Oper.wp P o a wx K Q else E := by
  have hw : Region.wanted o (yielded ops a.tmps) = true := by simp [Region.wanted, hgd]
  rw [if_pos hw]
  exact Lib.wp_copy_run wx s x _ _ ho _ _ hs hx hr hK
theorem FillR.drew {w wr : World} {g n k : Nat} {v : Value} (h : FillR w g n v k wr) : FillR w g n v k wr.drew := ⟨h.bel.trans ((Below.refl _ _).grown (grown_d (World.grownBy.refl wr none)) h.bel.size (by intro q hq; cases hq)), h.lo, h.row⟩
set_option maxHeartbeats 4000000 in
theorem repeatNN_any {w : World} {n xb m c : Nat} {A : Option Addr} (n1 : 1 ≤ n) (n16 : n ≤ 16) (hx : w.cell? ⟨xb, 0, none⟩ = some (.slice A m c)) :
    Calls Tryd.prog 51 #[.slice (some ⟨xb, 0, none⟩) 1 1, .int .i64 (n : Nat)] w fun e w' => ∃ g, e = .returned (.slice (some ⟨g, 0, none⟩) n n) ∧ FillR w g n (.slice A m c) n w' := by
  have HX := Lib.hid hx
  obtain ⟨i0, hi, hz0, hz1, hz2⟩ := info_parts infoSInsR
  have hneg : ¬ (n : Int) < 0 := by omega
  have HMul := Lib.hid (fun W => Tryd.bits_Mul 1 n (by decide) (by omega) W)
  have HH := Lib.hid (show (((1 * n / 18446744073709551616 : Nat) : Int) = 0 ∧ ((1 * n % 18446744073709551616 : Nat) : Int) = (n : Int)) by omega)
  clear hx
  go_enter Tryd.func51, Tryd.ntmps51
  go_wp2_with fail
  refine (HMul.out _).mono ?_
  rintro e w1 ⟨rfl, rfl⟩
  rw [HH.out.1, HH.out.2]
  have hbig : ¬ (9223372036854775807 : Int) < (n : Int) := by omega
  have hw1 : wrap64 (n : Int) = (n : Int) := by unfold wrap64; omega
  go_wp2_with (at_make; refine wpList_make_full _ rfl _ _ 70 rfl w1.heap.size 55 i0 (.slice none 0 0) 1 Tryd.underlying70 hi hz0 hz1 _ _ _ _ n rfl rfl rfl rfl ?b1 ?b2 ?b3 ?_)
  case b1 => rw [hz2]; omega
  case b2 => simp [maxLen]; omega
  case b3 => exact Nat.le_refl _
  intro w2 hown hg2
  have hF0 : FillR w1 w1.heap.size n (.slice A m c) 0 w2 := by
    refine ⟨(Below.refl _ _).grown hg2 (Nat.le_refl _) (by intro k hk; cases hk), Nat.le_refl _, ?_⟩
    rcases hown.2 with ⟨e, _⟩ | ⟨g', cap, cur, e, _, hh, hn, _, hcs, ht⟩
    · cases e
    · injection e with e1 e2 e3
      injection e1 with e1
      injection e1 with e1
      subst e1 e3
      rw [hh]
      have h1 := toList_madeCells_one (Value.slice none 0 0) (n * 1)
      rw [Nat.mul_one] at h1
      have h2 : cur.toList = List.replicate n (Value.slice none 0 0) := by
        have h3 : cur.toList.take (n * 1) = cur.toList := List.take_of_length_le (by rw [Array.length_toList, hcs]; exact Nat.le_refl _)
        rw [h3] at ht
        rw [ht]
        exact h1
      have h3 : cur = fillR (.slice A m c) n 0 := by
        apply Array.ext'
        rw [h2]
        simp [fillR]
      rw [h3]
  have HF0 := Lib.hid hF0
  have hxl : xb < w1.heap.size := World.block_lt_of_cell? w1 _ HX.out
  have HX2 := Lib.hid ((World.cell?_of_block (a := ⟨xb, 0, none⟩) (hF0.bel.block xb hxl)).trans HX.out)
  clear hown hg2 hi hz0 hz1 hz2 hF0 hbig hneg
  obtain ⟨g, hg⟩ : ∃ g, w1.heap.size = g := ⟨_, rfl⟩
  rw [hg] at HF0 ⊢
  have HG := Lib.hid hg
  clear hg hxl
  --MC
  have hcp1 : ∃ w3, (Builtin.copy_ #[70, 70] 3 #[.slice (some ⟨g, 0, none⟩) n n, .slice (some ⟨xb, 0, none⟩) 1 1]).run Tryd.prog w2 = .ok (.int .i64 1) w3 ∧ FillR w1 g n (.slice A m c) 1 w3 := HF0.out.first n1 HX2.out _
  obtain ⟨w3, hc1, hF1⟩ := hcp1
  have HF1 := Lib.hid hF1
  clear hF1 HF0
  go_wp2
  clear hc1
  go_loopw [8] (fun j wr => ∃ k : Nat, 1 ≤ k ∧ k ≤ n ∧ j = .int .i64 k ∧ FillR w1 g n (.slice A m c) k wr) (fun j _ => n - (intOf j).toNat)
  case atStart => exact ⟨1, Nat.le_refl _, n1, rfl, HF1.out⟩
  case round =>
    obtain ⟨k, k1, hk, rfl, hm⟩ := hrel
    by_cases hlt : k < n
    · have hkn : (k : Int) < (n : Int) := by omega
      have hk2 : (k : Int) ≤ (n : Int) := by omega
      obtain ⟨w4, hc, hF⟩ := hm.drew.copy k1 hlt 3
      have hne : ¬ n = k := by omega
      obtain ⟨q, hq⟩ : ∃ q, min k (n - k) = q := ⟨_, rfl⟩
      rw [hq] at hc hF
      have hq2 : 1 ≤ q ∧ k + q ≤ n := by omega
      have hqk : (k : Int) + (q : Int) ≤ 16 := by omega
      have hwr : IntKind.i64.wrap ((k : Int) + (q : Int)) = ((k + q : Nat) : Int) := by
        simp [IntKind.wrap, IntKind.signed, IntKind.bits]
        omega
      have HWr := Lib.hid hwr
      clear hq hwr
      have HC := Lib.hid hc
      have HF := Lib.hid hF
      clear hm hc hF
      go_wp2_with fail
      --MD
      refine region_heldL (L := 9) (S := fun u => True) 10 rfl (by kernel_rfl) trivial (fun hHeld => ?_)
      refine heldL_take (n := 9) (i := 0) (oi := _) (v := ?v0) (dst := some 38) rfl rfl rfl (by kernel_rfl) (by kernel_rfl) (by kernel_rfl) (by kernel_rfl) (by kernel_rfl) (fun _ _ _ h => h) (Or.inl ⟨by rfl, ?hy0⟩) (by assumption) ?rest0
      case hy0 => intro u hSu; (try dsimp only at hSu); go_simp; try (with_reducible rfl)
      simp only [Act.put, List.setIfInBounds_toArray, List.set_cons_zero, List.set_cons_succ]
      refine heldL_take (n := 8) (i := 1) (oi := _) (v := ?v1) (dst := some 39) rfl rfl rfl (by kernel_rfl) (by kernel_rfl) (by kernel_rfl) (by kernel_rfl) (by kernel_rfl) (fun _ _ _ h => h) (Or.inl ⟨by rfl, ?hy1⟩) (by assumption) ?rest1
      case hy1 => intro u hSu; (try dsimp only at hSu); go_simp; try (with_reducible rfl)
      simp only [Act.put, List.setIfInBounds_toArray, List.set_cons_zero, List.set_cons_succ]
      refine heldL_take (n := 7) (i := 2) (oi := _) (v := ?v2) (dst := some 40) rfl rfl rfl (by kernel_rfl) (by kernel_rfl) (by kernel_rfl) (by kernel_rfl) (by kernel_rfl) (fun _ _ _ h => h) (Or.inl ⟨by rfl, ?hy2⟩) (by assumption) ?rest2
      case hy2 => intro u hSu; (try dsimp only at hSu); go_simp; try (with_reducible rfl)
      simp only [Act.put, List.setIfInBounds_toArray, List.set_cons_zero, List.set_cons_succ]
      refine heldL_take (n := 6) (i := 3) (oi := _) (v := ?v3) (dst := some 41) rfl rfl rfl (by kernel_rfl) (by kernel_rfl) (by kernel_rfl) (by kernel_rfl) (by kernel_rfl) (fun _ _ _ h => h) (Or.inl ⟨by rfl, ?hy3⟩) (by assumption) ?rest3
      case hy3 => intro u hSu; (try dsimp only at hSu); go_simp; try (with_reducible rfl)
      simp only [Act.put, List.setIfInBounds_toArray, List.set_cons_zero, List.set_cons_succ]
      refine heldL_take (n := 5) (i := 4) (oi := _) (v := ?v4) (dst := some 42) rfl rfl rfl (by kernel_rfl) (by kernel_rfl) (by kernel_rfl) (by kernel_rfl) (by kernel_rfl) (fun _ _ _ h => h) (Or.inl ⟨by rfl, ?hy4⟩) (by assumption) ?rest4
      case hy4 => intro u hSu; (try dsimp only at hSu); go_simp; try (with_reducible rfl)
      simp only [Act.put, List.setIfInBounds_toArray, List.set_cons_zero, List.set_cons_succ]
      refine heldL_take (n := 4) (i := 5) (oi := _) (v := ?v5) (dst := some 43) rfl rfl rfl (by kernel_rfl) (by kernel_rfl) (by kernel_rfl) (by kernel_rfl) (by kernel_rfl) (fun _ _ _ h => h) (Or.inl ⟨by rfl, ?hy5⟩) (by assumption) ?rest5
      case hy5 => intro u hSu; (try dsimp only at hSu); go_simp; try (with_reducible rfl)
      simp only [Act.put, List.setIfInBounds_toArray, List.set_cons_zero, List.set_cons_succ]
      refine heldL_take (n := 3) (i := 6) (oi := _) (v := ?v6) (dst := some 44) rfl rfl rfl (by kernel_rfl) (by kernel_rfl) (by kernel_rfl) (by kernel_rfl) (by kernel_rfl) (fun _ _ _ h => h) (Or.inl ⟨by rfl, ?hy6⟩) (by assumption) ?rest6
      case hy6 => intro u hSu; (try dsimp only at hSu); go_simp; try (with_reducible rfl)
      simp only [Act.put, List.setIfInBounds_toArray, List.set_cons_zero, List.set_cons_succ]
      --ME
      refine heldL_step (n := 2) (i := 7) (o := _) rfl (by kernel_rfl) rfl (fun K hK => ?_)
      have HK2 := Lib.hid hK
      clear hK
      refine step_copy_run rfl _ _ _ _ rfl (by simp [Act.eval]) (by simp [Act.eval]) HC.out ?_
      refine HK2.out _ _ trivial (fun hHeld => ?_)
      clear HK2 K
      simp only [Act.put, List.setIfInBounds_toArray, List.set_cons_zero, List.set_cons_succ]
      refine heldL_step (n := 1) (i := 8) (o := _) rfl (by kernel_rfl) rfl (fun K hK => ?_)
      have HK2 := Lib.hid hK
      clear hK
      go_simp
      refine HK2.out _ _ trivial (fun hHeld => ?_)
      clear HK2 K
      refine heldL_last (n := 0) (o := _) rfl (by kernel_rfl) (by kernel_rfl) (by decide) rfl (fun K hK => ?_)
      have HK2 := Lib.hid hK
      clear hK
      go_simp
      rw [HWr.out]
      refine HK2.out _ _ ?_
      clear HK2
      --MF
      go_wp2
      go_roundw
      case rel => exact ⟨k + q, by omega, by omega, by go_num, HF.out⟩
      case measure => simp [intOf]; omega
    · have hkn : ¬ (k : Int) < (n : Int) := by omega
      obtain rfl : k = n := by omega
      have HM := Lib.hid hm
      clear hm
      go_wp2
      go_ret
      exact ⟨g, rfl, HM.out⟩
end Go.Proofs.YtdfljhechmanlaaDoor

namespace Go.Proofs.YtdfljhechmanlaaDoor
set_option maxRecDepth 100000
open Go.RowKit Go.Shelf Go.Sort
set_option linter.unusedVariables false
set_option linter.unusedSimpArgs false

theorem FillR.at {w wr : World} {g n : Nat} {v : Value} (h : FillR w g n v n wr) {i : Nat} (hi : i < n) : wr.cell? ⟨g, i, none⟩ = some v := by
  rw [cell_in h.row i, ← Array.getElem?_toList]
  show (List.replicate n v ++ List.replicate (n - n) (Value.slice none 0 0))[i]? = _
  rw [List.getElem?_append_left (by simpa using hi), List.getElem?_replicate, if_pos hi]
def pickT (n : Nat) (v : Int × Bool) : Nat := (pickI v.1 n).toNat
theorem race_finish {w wr : World} {c : Nat} {cells0 : List Int} {m : Mach} (h : At w c m wr) (hb : MBig cells0 m) :
    Calls Tryd.prog 23 #[.pointer (some ⟨c, 0, none⟩)] wr fun e w' => ∃ m', Fin m m' ∧ e = .returned (.int .i64 ((m'.steps : Int) - (m.steps : Int))) ∧ At w c m' w' ∧ MBig cells0 m' := by
  obtain ⟨S, X, rfl, hC, hB⟩ := h
  exact (ffin_any hC hB.size hb).mono fun e w' ⟨m', hf, he, hm, hbig⟩ => ⟨m', hf, he, At.moved rfl hC hB hm, hbig⟩
theorem MBig.sweepR {cells0 : List Int} {m : Mach} (h : MBig cells0 m) (l : List Nat) : MBig cells0 (sweepM l m) := MBig.sweep l h
theorem sweep_take (l : List (Int × Bool)) (n : Nat) (m : Mach) (k : Nat) (hk : k < l.length) : sweepM ((l.take (k + 1)).map (pickT n)) m = (stepM 20000 (sweepM ((l.take k).map (pickT n)) m) ((pickT n (l.getD k default) : Nat) : Int)).2 := by
  have e : l.take (k + 1) = l.take k ++ [l.getD k default] := by
    rw [List.take_add_one, List.getD_eq_getElem?_getD, List.getElem?_eq_getElem hk]
    rfl
  rw [e, List.map_append, sweepM_append]
  rfl

set_option maxHeartbeats 4000000 in
theorem raced_any {w : World} (hw : CW w) {n : Nat} (n1 : 1 ≤ n) (n16 : n ≤ 16) (A D : Option Addr) (m c nm cm : Nat) (p : List In5) (hI : Inss w w.heap.size A m p) (hp : RightL p 1) (l : List (Int × Bool)) (hl : Moves w w.heap.size D nm l) (hnm : nm ≤ 500) :
    Calls Tryd.prog 33 #[.int .i64 (n : Nat), .slice A m c, .slice D nm cm] w fun e w' => ∃ q m', e = .returned (.pointer (some ⟨q, 0, none⟩)) ∧ Fin (sweepM (l.map (pickT n)) (newM (List.replicate n p) [0])) m' ∧ At w q m' w' ∧ MBig [0] m' := by
  have hx : (w.alloc (.cells #[.slice A m c] 55)).cell? ⟨w.heap.size, 0, none⟩ = some (.slice A m c) := (cell_of_row _ _ 0 _ _ _ (heap_alloc_new w (.cells #[.slice A m c] 55))).trans rfl
  have HRep := Lib.hid (repeatNN_any n1 n16 hx)
  have HB0 := Lib.hid ((Below.refl w.heap.size w).alloc (Nat.le_refl _) (.cells #[.slice A m c] 55))
  have HN := Lib.hid (And.intro n1 n16)
  have HP := Lib.hid (fun a w => pick_det a n n w rfl (by omega) (by omega))
  have HW := Lib.hid hw
  have HI := Lib.hid hI
  have HL := Lib.hid hl
  have hlen := hI.len
  have HLen := Lib.hid hlen
  clear hx hw hI hl hlen
  go_enter Tryd.func33, Tryd.ntmps33
  go_wp2_with fail
  refine HRep.out.mono ?_
  rintro e w2 ⟨g, rfl, hF⟩
  have hb2 : Below w.heap.size w w2 := HB0.out.trans (hF.bel.mono (by simp))
  have hb3 := hb2.alloc hb2.size (.cells #[.int .u64 0] 31)
  have hU : Ints .u64 (w2.alloc (.cells #[.int .u64 0] 31)) (w2.alloc (.cells #[.int .u64 0] 31)).heap.size (some ⟨w2.heap.size, 0, none⟩) 1 [0] := ⟨rfl, fun _ => ⟨_, 0, rfl, by simp, fun i hi => by
    match i, hi with
    | 0, _ => exact (cell_of_row _ _ 0 _ _ _ (heap_alloc_new w2 (.cells #[.int .u64 0] 31))).trans rfl⟩⟩
  have hgl : g < w2.heap.size := (Array.getElem?_eq_some_iff.1 hF.row).1
  have hPr : Progs (w2.alloc (.cells #[.int .u64 0] 31)) (w2.alloc (.cells #[.int .u64 0] 31)).heap.size (some ⟨g, 0, none⟩) n (List.replicate n p) := by
    refine ⟨List.length_replicate, fun _ => ⟨g, 0, rfl, by simp; omega, fun i hi => ?_⟩⟩
    have he : (List.replicate n p).getD i [] = p := by rw [List.getD_eq_getElem?_getD, List.getElem?_replicate, if_pos hi]; rfl
    rw [he, HLen.out]
    refine ⟨A, c, ?_, HI.out.old hb3⟩
    rw [Nat.zero_add]
    exact (World.cell?_alloc_lt _ _ ⟨g, i, none⟩ hgl).trans (hF.at hi)
  have hri : ∀ i, i < n → RightL ((List.replicate n p).getD i []) (1 : Nat) := fun i hi => by
    have he : (List.replicate n p).getD i [] = p := by rw [List.getD_eq_getElem?_getD, List.getElem?_replicate, if_pos hi]; rfl
    rw [he]; exact hp
  have HNw := Lib.hid (new_at (c := n) (cc := 1) HW.out hb3 (some ⟨g, 0, none⟩) (some ⟨w2.heap.size, 0, none⟩) n 1 (List.replicate n p) [0] hPr hU n16 (by decide) hri)
  have hbig : MBig [0] (newM (List.replicate n p) [0]) := newM_big ⟨by rw [List.length_replicate]; exact n16, by decide, fun i hi => by
    rw [List.length_replicate] at hi
    exact hri i hi⟩ (fun v hv => by rw [List.mem_singleton.1 hv]; exact ⟨by decide, by decide⟩)
  have HBig := Lib.hid hbig
  clear hF hb2 hb3 hU hgl hPr hri hbig HRep HB0 n1 n16
  go_wp2_with fail
  refine HNw.out.mono ?_
  rintro e w3 ⟨q, rfl, hA⟩
  have HA := Lib.hid (show At w q (sweepM ((l.take 0).map (pickT n)) (newM (List.replicate n p) [0])) w3 from hA)
  clear hA HNw
  obtain ⟨m0, hm0⟩ : ∃ m0, newM (List.replicate n p) [0] = m0 := ⟨_, rfl⟩
  rw [hm0] at HA HBig
  have HM0 := Lib.hid hm0
  clear hm0
  go_wp2
  --MA
  go_loopw [28] (fun j wr => ∃ i : Nat, i ≤ nm ∧ j = .int .i64 i ∧ At w q (sweepM ((l.take i).map (pickT n)) m0) wr) (fun j _ => nm - (intOf j).toNat)
  case atStart => exact ⟨0, Nat.zero_le _, rfl, HA.out⟩
  case round =>
    obtain ⟨i, hi, rfl, hm⟩ := hrel
    by_cases hlt : i < nm
    · have hkn : (i : Int) < (nm : Int) := by omega
      obtain ⟨g2, off, hD, hcell⟩ := moves_at HL.out hm hlt
      subst hD
      have HTk := Lib.hid (sweep_take l n m0 i (by rw [HL.out.len]; exact hlt))
      have HM := Lib.hid (fun w' (hg : wr.grownBy w' none) => at_step (hm.grow hg) (HBig.out.sweepR ((l.take i).map (pickT n))) ((pickT n (l.getD i default) : Nat) : Int))
      rw [← HTk.out] at HM
      clear HTk hm
      obtain ⟨hc0, hc1⟩ := hcell
      unfold pickT at HM
      generalize l.getD i default = v at *
      obtain ⟨t, b⟩ := v
      dsimp only at hc0 hc1 HM
      have p1 := pickI_lo t n
      have HPt := Lib.hid (HP.out t)
      have hz : ((pickI t n).toNat : Int) = pickI t n := by omega
      rw [hz] at HM
      generalize pickI t n = z at *
      clear hz p1
      go_wp2_with fail
      refine (HPt.out _).mono ?_
      rintro e w4 ⟨rfl, rfl⟩
      go_wp2_with fail
      --MB
      refine (HM.out _ (grown_a (World.grownBy.refl _ none) _)).mono ?_
      rintro e w5 ⟨rfl, hm2⟩
      have H2 := Lib.hid hm2
      generalize (errV (stepM 20000 (sweepM (List.map (fun v => (pickI v.1 n).toNat) (List.take i l)) m0) z).1) = RV
      clear hm2 HM hc0 hc1
      go_wp2
      go_roundw
      case rel => exact ⟨i + 1, by omega, by go_num, H2.out⟩
      case measure => simp [intOf]; omega
    · have hkn : ¬ (i : Int) < (nm : Int) := by omega
      obtain rfl : i = nm := by omega
      have hall : l.take i = l := List.take_of_length_le (by rw [HL.out.len]; exact Nat.le_refl _)
      rw [hall] at hm
      have HF := Lib.hid (race_finish hm (HBig.out.sweepR (l.map (pickT n))))
      clear hm hall
      go_wp2_with fail
      refine HF.out.mono ?_
      rintro e w6 ⟨m', hf, rfl, hA6, hb6⟩
      have H6 := Lib.hid (And.intro hf (And.intro hA6 hb6))
      generalize ((m'.steps : Int) - _) = dd
      clear hf hA6 hb6 HF
      go_wp2
      go_ret
      rw [HM0.out]
      exact ⟨q, m', rfl, H6.out.1, H6.out.2⟩
theorem picked_lt {n : Nat} (n1 : 1 ≤ n) (l : List (Int × Bool)) : ∀ t ∈ l.map (pickT n), t < n := fun t ht => by
  obtain ⟨v, _, rfl⟩ := List.mem_map.1 ht
  have h1 := pickI_lo v.1 n
  have h2 := pickI_hi v.1 n n1
  unfold pickT
  omega
theorem one_cell {p : List Ins5} {n : Nat} {m : Mach} (h : RBase p n m) : m.cells = [m.cells.getD 0 0] := by
  have hl := h.lc
  match hm : m.cells, hl with
  | [v], _ => rfl
theorem right_four {a b c : Ins5} (ha : goodX 4 1 a) (hb : goodX 4 1 b) (hc : goodX 4 1 c) : RightL [a, b, c, (0, 0, 0, 0, 0)] 1 := by
  refine ⟨by decide, by decide, by simp, by simp, fun i hi => ?_, .inl rfl⟩
  match i, hi with
  | 0, _ => exact ha
  | 1, _ => exact hb
  | 2, _ => exact hc
  | 3, _ => exact ⟨by show (0 : Int) ≤ 0; decide, by show (0 : Int) < 17; decide, rfl⟩
end Go.Proofs.YtdfljhechmanlaaDoor
