/-
  script: encodeMove, decodeMove, Right.
-/
import Derived.Test.YtlikbmbcjipolaaDoorKScript
import Derived.Test.YtlikbmbcjipolaaDoorDName
import Derived.Test.YtlikbmbcjipolaaDoorMvRow
namespace Go.Proofs.YtlikbmbcjipolaaDoor
set_option maxRecDepth 100000
open Go.RowKit Go.Sort
set_option linter.unusedVariables false
set_option linter.unusedSimpArgs false

def moveV (v : Int × Bool) : Value := .agg #[.int .i64 v.1, .bool v.2]
def scriptV (k n r : Int) (A : Option Addr) (len c : Nat) : Value := .agg #[.int .i64 k, .int .i64 n, .int .i64 r, .slice A len c]

theorem getM {l : List (Int × Bool)} {i : Nat} (h : i < l.length) : l[i] = l.getD i default := by
  rw [List.getD_eq_getElem?_getD, List.getElem?_eq_getElem h]; rfl
theorem u8_wrap {n : Int} (h0 : 0 ≤ n) (h1 : n < 256) : IntKind.u8.wrap n = n := by
  unfold IntKind.wrap
  simp [IntKind.signed, IntKind.bits]
  omega

set_option maxHeartbeats 1000000 in
theorem encMv_any (v : Int × Bool) (n : Int) (h0 : 0 ≤ v.1) (h1 : v.1 < n) (hn : n ≤ 8) (w : World) : Calls Tryd.prog 22 #[moveV v] w fun e w' => e = .returned (.int .u8 ((byteOf v).toNat : Int)) ∧ Below w.heap.size w w' := by
  have hb := byteOf_nat h0 h1 hn
  obtain ⟨t, p⟩ := v
  dsimp only at h0 h1 hb
  have HB := Lib.hid ((Below.refl w.heap.size w).alloc (Nat.le_refl _) (.cells #[.int .i64 t, .bool p] 40))
  unfold moveV
  cases p with
  | true =>
    rw [if_pos rfl] at hb
    have e1 : wrap64 (224 + t) = ((byteOf (t, true)).toNat : Int) := by rw [hb]; unfold wrap64; omega
    have e2 : IntKind.u8.wrap ((byteOf (t, true)).toNat : Int) = ((byteOf (t, true)).toNat : Int) := u8_wrap (by omega) (by have := UInt8.toNat_lt (byteOf (t, true)); omega)
    generalize (byteOf (t, true)).toNat = z at *
    clear hb h0 h1 hn
    go_enter Tryd.func22, Tryd.ntmps22
    go_wp2
    --MA
    go_ret
    exact ⟨rfl, HB.out⟩
  | false =>
    rw [if_neg (by simp)] at hb
    have e2 : IntKind.u8.wrap t = ((byteOf (t, false)).toNat : Int) := by rw [u8_wrap h0 (by omega), hb]; omega
    generalize (byteOf (t, false)).toNat = z at *
    clear hb h0 h1 hn
    go_enter Tryd.func22, Tryd.ntmps22
    go_wp2
    --MB
    go_ret
    exact ⟨rfl, HB.out⟩

/-- Whether a script may be. -/
def ToldRightSc (k n r : Int) (l : List (Int × Bool)) (w : World) (e : Ending) (w' : World) : Prop := ∃ b : Bool, e = .returned (.bool b) ∧ (b = true ↔ rightSc k n r l) ∧ Below w.heap.size w w'

theorem rightMv_step {n : Int} {l : List (Int × Bool)} {i : Nat} (h : i < l.length) : rightMv n (l.take (i + 1)) ↔ rightMv n (l.take i) ∧ 0 ≤ (l.getD i default).1 ∧ (l.getD i default).1 < n := by
  rw [List.take_succ_eq_append_getElem h, getM h]
  exact ⟨fun hr => ⟨fun v hv => hr v (List.mem_append_left _ hv), hr _ (by simp)⟩, fun hr v hv => by
    rcases List.mem_append.1 hv with hv | hv
    · exact hr.1 v hv
    · rw [List.mem_singleton.1 hv]; exact hr.2⟩
theorem rightMv_take {n : Int} {l : List (Int × Bool)} (i : Nat) (h : rightMv n l) : rightMv n (l.take i) := fun v hv => h v (List.mem_of_mem_take hv)

set_option maxHeartbeats 2000000 in
theorem scRight_any (k n r : Int) (l : List (Int × Bool)) (A : Option Addr) (len c : Nat) (w : World) (hM : Moves w w.heap.size A len l) (hlen : len ≤ 1000000) :
    Calls Tryd.prog 9 #[scriptV k n r A len c] w (ToldRightSc k n r l w) := by
  have hl := hM.len
  have hb0 := (Below.refl w.heap.size w).alloc (Nat.le_refl _) (.cells #[.int .i64 k, .int .i64 n, .int .i64 r, .slice A len c] 24)
  have hx0 := heap_alloc_new w (.cells #[.int .i64 k, .int .i64 n, .int .i64 r, .slice A len c] 24)
  obtain ⟨xb, hxb⟩ : ∃ xb, w.heap.size = xb := ⟨_, rfl⟩
  obtain ⟨w1, hw1⟩ : ∃ w1, w.alloc (.cells #[.int .i64 k, .int .i64 n, .int .i64 r, .slice A len c] 24) = w1 := ⟨_, rfl⟩
  have hlo : w.heap.size ≤ xb := by omega
  rw [hw1, hxb] at hx0
  rw [hw1] at hb0
  have c0 : w1.cell? ⟨xb, 0, none⟩ = some (.int .i64 k) := by rw [cell_of_row w1 xb 0 _ _ _ hx0]; rfl
  have HM := Lib.hid hM
  have HB0 := Lib.hid (show Below w.heap.size w w1 from hb0)
  have HX := Lib.hid hx0
  have HN := Lib.hid (name_any k w1)
  have hbox : ∀ K : Value → World → Prop, K (.pointer (some ⟨xb, 0, none⟩)) w1 → K (.pointer (some ⟨w.heap.size, 0, none⟩)) (w.alloc (.cells #[.int .i64 k, .int .i64 n, .int .i64 r, .slice A len c] 24)) := fun K hK => by rw [hw1, hxb]; exact hK
  clear hM hb0 hx0
  unfold scriptV
  go_enter Tryd.func9, Tryd.ntmps9
  go_wp2_with fail
  refine HN.out.mono ?_
  rintro e w2 ⟨hb2, s, v, rfl, hv⟩
  have HB2 := Lib.hid (HB0.out.trans (hb2.mono HB0.out.size))
  have hx2 := (hb2.block xb (lt_of_block HX.out)).trans HX.out
  have HX2 := Lib.hid hx2
  have c1 : w2.cell? ⟨xb, 1, none⟩ = some (.int .i64 n) := by rw [cell_of_row w2 xb 1 _ _ _ hx2]; rfl
  have c2 : w2.cell? ⟨xb, 2, none⟩ = some (.int .i64 r) := by rw [cell_of_row w2 xb 2 _ _ _ hx2]; rfl
  have c3 : w2.cell? ⟨xb, 3, none⟩ = some (.slice A len c) := by rw [cell_of_row w2 xb 3 _ _ _ hx2]; rfl
  clear hb2 hx2 HN c0 hbox hw1 hxb
  have HBX : Below w.heap.size w w2 := by
    first
      | exact HB2.out
      | (have := HB2.out; simpa using this)
  have HBX := Lib.hid HBX
  rcases hv with ⟨rfl, hk⟩ | ⟨rfl, hk⟩
  · by_cases h1 : n < 1
    · have hno : ¬ rightSc k n r l := fun h => by have := h.2.2.1; omega
      go_wp2
      go_ret
      exact ⟨false, rfl, ⟨(fun h => by cases h), fun h => absurd h hno⟩, HBX.out⟩
    by_cases h2 : 8 < n
    · have hno : ¬ rightSc k n r l := fun h => by have := h.2.2.2.1; omega
      go_wp2
      go_ret
      exact ⟨false, rfl, ⟨(fun h => by cases h), fun h => absurd h hno⟩, HBX.out⟩
    by_cases h3 : r < 0
    · have hno : ¬ rightSc k n r l := fun h => by have := h.2.2.2.2.1; omega
      go_wp2
      go_ret
      exact ⟨false, rfl, ⟨(fun h => by cases h), fun h => absurd h hno⟩, HBX.out⟩
    by_cases h4 : 5 < r
    · have hno : ¬ rightSc k n r l := fun h => by have := h.2.2.2.2.2.1; omega
      go_wp2
      go_ret
      exact ⟨false, rfl, ⟨(fun h => by cases h), fun h => absurd h hno⟩, HBX.out⟩
    have hin : rightMv n l → rightSc k n r l := fun h => ⟨hk.1, hk.2, by omega, by omega, by omega, by omega, h⟩
    have HIN := Lib.hid hin
    clear hin hk
    go_wp2
    go_loopw [36] (fun j wr => ∃ i : Nat, i ≤ len ∧ j = .int .i64 i ∧ rightMv n (l.take i) ∧ Below w.heap.size w wr ∧ wr.heap[xb]? = some (.cells #[.int .i64 k, .int .i64 n, .int .i64 r, .slice A len c] 24 (0, 0))) (fun j _ => len - (intOf j).toNat)
    case atStart => exact ⟨0, Nat.zero_le _, rfl, (fun v hv => by cases hv), HBX.out, HX2.out⟩
    case round =>
      obtain ⟨i, hi, rfl, hr, hb, hx⟩ := hrel
      clear c1 c2 c3
      by_cases hlt : i < len
      · have hii : (i : Int) < (len : Int) := by omega
        obtain ⟨ab, off, rfl, hab, hc⟩ := (HM.out.below hb).row (by omega)
        obtain ⟨m0, m1⟩ := hc i hlt
        have habw : ab < wr.heap.size := Nat.lt_of_lt_of_le hab hb.size
        have habn : ab ≠ wr.heap.size := by omega
        have hst := rightMv_step (n := n) (l := l) (i := i) (by omega)
        have hxw := lt_of_block hx
        have hxn : xb ≠ wr.heap.size := by omega
        have c1 : wr.cell? ⟨xb, 1, none⟩ = some (.int .i64 n) := by rw [cell_of_row wr xb 1 _ _ _ hx]; rfl
        have HBA := Lib.hid (fun o => hb.alloc hb.size o)
        have HXA := Lib.hid (fun o => (Below.heap_alloc wr o xb hxw).trans hx)
        have HNO := Lib.hid (fun h : ¬ rightMv n (l.take (i + 1)) => (fun hr : rightSc k n r l => h (rightMv_take (i + 1) hr.2.2.2.2.2.2) : ¬ rightSc k n r l))
        have HST := Lib.hid hst
        have HR := Lib.hid hr
        generalize (l.getD i default).1 = t at *
        generalize (l.getD i default).2 = p at *
        clear hc hb hx hst hr hab
        by_cases g1 : t < 0
        · have HF := Lib.hid (HNO.out fun h => by have := (HST.out.1 h).2.1; omega)
          go_wp2
          go_ret
          exact ⟨false, rfl, ⟨(fun h => by cases h), fun h => absurd h HF.out⟩, HBA.out _⟩
        by_cases g2 : n ≤ t
        · have HF := Lib.hid (HNO.out fun h => by have := (HST.out.1 h).2.2; omega)
          go_wp2
          go_ret
          exact ⟨false, rfl, ⟨(fun h => by cases h), fun h => absurd h HF.out⟩, HBA.out _⟩
        have HOK := Lib.hid (HST.out.2 ⟨HR.out, by omega, by omega⟩)
        clear HNO
        go_wp2
        go_roundw
        case rel => exact ⟨i + 1, by omega, by go_num, HOK.out, HBA.out _, HXA.out _⟩
        case measure => simp [intOf]; omega
      · obtain rfl : i = len := by omega
        rw [List.take_of_length_le (by omega)] at hr
        have hii : ¬ (i : Int) < (i : Int) := by omega
        have hrr := HIN.out hr
        go_wp2
        go_ret
        exact ⟨true, rfl, ⟨fun _ => hrr, fun _ => rfl⟩, hb⟩
  · have hno : ¬ rightSc k n r l := fun h => hk ⟨h.1, h.2.1⟩
    clear hk
    go_wp2
    go_ret
    exact ⟨false, rfl, ⟨(fun h => by cases h), fun h => absurd h hno⟩, HBX.out⟩
end Go.Proofs.YtlikbmbcjipolaaDoor
