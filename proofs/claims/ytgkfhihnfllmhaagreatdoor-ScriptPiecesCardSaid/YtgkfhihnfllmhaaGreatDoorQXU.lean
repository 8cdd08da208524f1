/-
  dance: the name of a kind. A row of moves: for seats without a machine, too. script: encodeMove, decodeMove, Right. script: decodeMove. script: Encode.
-/
import Derived.Test.YtgkfhihnfllmhaaGreatDoorQXM
import Derived.Test.YtgkfhihnfllmhaaGreatDoorQXR
import Derived.Test.YtgkfhihnfllmhaaGreatDoorQXE3
import Derived.Test.YtgkfhihnfllmhaaGreatDoorQXS
import Derived.Laws.ResultCell
import Derived.Test.YtgkfhihnfllmhaaGreatDoorQXT0
namespace Go.Proofs.YtgkfhihnfllmhaaGreatDoor
set_option maxRecDepth 100000
open Go.RowKit Go.Sort
set_option linter.unusedVariables false
set_option linter.unusedSimpArgs false

theorem run_store_nf (P : Program) (w : World) (a : Addr) (m : Mode) :
    (store a .nilFunc m).run P w = match w.cell? a with
      | some _ => if w.frozen? a then .halt (.unsupported (.unsafePointer "a write to bytes that a string shares")) w else .ok () (w.setCell a .nilFunc)
      | none => match w.farStore P a .nilFunc (m == .atomic) with
        | .ok (w', _) => .ok () w'
        | .error h => .halt h w := run_store P w a _ m rfl
attribute [local go_sem] run_store_nf

theorem of_no_at (k : Int) (w : World) (hk : (k < 1 ∧ ¬ 1 ≤ k) ∨ (¬ k < 1 ∧ 7 ≤ k)) : Calls Tryz.prog 120 #[.int .i64 k] w fun e w' => e = .returned (.tuple #[.agg #[.string { data := #[] }, .nilFunc, .nilFunc], .iface 101 (.int .i64 1)]) ∧ Below w.heap.size w w' := by
  have f0 := heap_alloc_new w (.cells #[.string { data := #[] }, .nilFunc, .nilFunc] 212)
  have hb0 := (Below.refl w.heap.size w).alloc (Nat.le_refl _) (.cells #[.string { data := #[] }, .nilFunc, .nilFunc] 212)
  obtain ⟨w1, hw1⟩ : ∃ w1, w.alloc (.cells #[.string { data := #[] }, .nilFunc, .nilFunc] 212) = w1 := ⟨_, rfl⟩
  obtain ⟨b, hb⟩ : ∃ b, w.heap.size = b := ⟨_, rfl⟩
  rw [hw1, hb] at f0
  rw [hw1] at hb0
  have c0 : w1.cell? ⟨b, 0, none⟩ = some (.string { data := #[] }) := (cell_of_row _ _ 0 _ _ _ f0).trans rfl
  have c1 : w1.cell? ⟨b, 1, none⟩ = some .nilFunc := (cell_of_row _ _ 1 _ _ _ f0).trans rfl
  have c2 : w1.cell? ⟨b, 2, none⟩ = some .nilFunc := (cell_of_row _ _ 2 _ _ _ f0).trans rfl
  have g0 : w1.frozen? ⟨b, 0, none⟩ = false := frozen_of_row _ _ 0 _ _ f0
  have g1 : w1.frozen? ⟨b, 1, none⟩ = false := frozen_of_row _ _ 1 _ _ f0
  have g2 : w1.frozen? ⟨b, 2, none⟩ = false := frozen_of_row _ _ 2 _ _ f0
  have HR := Lib.hid f0
  have HB := Lib.hid (show Below b w w1 by rw [← hb]; exact hb0)
  have HLO := Lib.hid (Nat.le_refl b)
  clear f0 hb0
  have fin : ∀ tmps : Array Value, tmps.getD 2 undef = .pointer (some ⟨b, 0, none⟩) → tmps.getD 3 undef = .iface 101 (.int .i64 1) → (results Tryz.f120 tmps).run Tryz.prog (((w1.setCell ⟨b, 0, none⟩ (.string { data := #[] })).setCell ⟨b, 1, none⟩ .nilFunc).setCell ⟨b, 2, none⟩ .nilFunc) = .ok (.tuple #[.agg #[.string { data := #[] }, .nilFunc, .nilFunc], .iface 101 (.int .i64 1)]) (((w1.setCell ⟨b, 0, none⟩ (.string { data := #[] })).setCell ⟨b, 1, none⟩ .nilFunc).setCell ⟨b, 2, none⟩ .nilFunc) := by
    intro tmps h2 h3
    have r1 := heap_setCell_same _ _ 0 _ _ (.string { data := #[] }) HR.out
    have r2 := heap_setCell_same _ _ 1 _ _ .nilFunc r1
    have r3 := heap_setCell_same _ _ 2 _ _ .nilFunc r2
    rw [results_cell_tmp (fn := Tryz.f120) (p := 2) (u := 3) (ty := 212) (by kernel_rfl)]
    have hld := run_loadVar_row (P := Tryz.prog) _ b 212 212 _ _ _ r3 Tryz.underlying212 rfl (by kernel_rfl)
    rw [h2, h3]
    simp [asAddr, Result.andThen, hld]
  have FIN := Lib.hid fin
  clear fin
  rcases hk with ⟨h1, h2⟩ | ⟨h1, h2⟩
  · go_enter Tryz.func120, Tryz.ntmps120
    go_wp2
    --MA
    exact bodyPost_ret (FIN.out _ rfl rfl) rfl ⟨rfl, below_setI (below_setI (below_setI HB.out HLO.out) HLO.out) HLO.out⟩
  · go_enter Tryz.func120, Tryz.ntmps120
    go_wp2
    exact bodyPost_ret (FIN.out _ rfl rfl) rfl ⟨rfl, below_setI (below_setI (below_setI HB.out HLO.out) HLO.out) HLO.out⟩

/-- What a kind's name is told to be. -/
def ToldName (k : Int) (w : World) (e : Ending) (w' : World) : Prop := Below w.heap.size w w' ∧ ∃ s v, e = .returned (.tuple #[.string s, v]) ∧ ((v = .nilIface ∧ 1 ≤ k ∧ k ≤ 6) ∨ (v = .iface 101 (.int .i64 1) ∧ ¬ (1 ≤ k ∧ k ≤ 6)))
set_option maxHeartbeats 1000000 in
theorem name_any (k : Int) (w : World) : Calls Tryz.prog 84 #[.int .i64 k] w (ToldName k w) := by
  have key : ∃ s f g v, Calls Tryz.prog 120 #[.int .i64 k] w (fun e w' => e = .returned (.tuple #[.agg #[.string s, f, g], v]) ∧ Below w.heap.size w w') ∧ ((v = .nilIface ∧ 1 ≤ k ∧ k ≤ 6) ∨ (v = .iface 101 (.int .i64 1) ∧ ¬ (1 ≤ k ∧ k ≤ 6))) ∧ f.oneCell' = true ∧ g.oneCell' = true := by
    by_cases hk : 1 ≤ k ∧ k ≤ 6
    · obtain ⟨j, rfl⟩ : ∃ j : Nat, k = j := ⟨k.toNat, by omega⟩
      have h := of_any (w := w) (k := j) (by omega) (by omega)
      rcases (by omega : j = 1 ∨ j = 2 ∨ j = 3 ∨ j = 4 ∨ j = 5 ∨ j = 6) with rfl | rfl | rfl | rfl | rfl | rfl
      all_goals exact ⟨_, _, _, _, h, .inl ⟨rfl, hk⟩, rfl, rfl⟩
    · exact ⟨_, _, _, _, of_no_at k w (by omega), .inr ⟨rfl, hk⟩, rfl, rfl⟩
  obtain ⟨s, f, g, v, hc, hv, hf, hg⟩ := key
  have HC := Lib.hid hc
  have HV := Lib.hid hv
  have HFG := Lib.hid (And.intro hf hg)
  clear hc hv hf hg
  go_enter Tryz.func84, Tryz.ntmps84
  go_wp2_with fail
  refine HC.out.mono ?_
  rintro e w1 ⟨rfl, hb1⟩
  have HB := Lib.hid (hb1.alloc hb1.size (.cells #[.string s, f, g] 212))
  have hcs : (#[.string s, f, g] : Array Value).all (·.oneCell') = true := by
    have h1 := HFG.out.1
    have h2 := HFG.out.2
    exact Array.all_eq_true.2 (fun i hi => by
      match i, hi with
      | 0, _ => rfl
      | 1, _ => exact h1
      | 2, _ => exact h2)
  clear HC hb1
  go_wp2_with (refine wpList_store_new w1 rfl 212 _ _ rfl #[.string { data := #[] }, .nilFunc, .nilFunc] #[.string s, f, g] rfl rfl (by kernel_rfl) rfl hcs ?_)
  --MB
  go_ret2
  exact ⟨HB.out, s, v, rfl, HV.out⟩
end Go.Proofs.YtgkfhihnfllmhaaGreatDoor

namespace Go.Proofs.YtgkfhihnfllmhaaGreatDoor
set_option maxRecDepth 100000
open Go.RowKit Go.Sort Go.ChangeShapes Go.WideShapes Go.Deep
set_option linter.unusedVariables false
set_option linter.unusedSimpArgs false
/-- A row of the call's own moves, so far; its blocks are from B on. -/
structure RowV (w : World) (B : Nat) (A : Option Addr) (n c : Nat) (l : List (Int × Bool)) (wr : World) : Prop where
  len : l.length = n
  own : wr.ownsRow B 100 2 (.slice A n c) n (cellsM l)
  bel : Below w.heap.size w wr
  lo : w.heap.size ≤ B
  hi : B ≤ wr.heap.size
theorem RowV.oneK {w wr : World} {B : Nat} {A : Option Addr} {n c : Nat} {l : List (Int × Bool)} (h : RowV w B A n c l wr) (x : Int × Bool) (hn : n ≤ 100000) :
    ∃ A' c' w', (Builtin.append_ #[23, 23] 23 #[.slice A n c, .slice (some ⟨wr.heap.size, 0, none⟩) 1 1]).run Tryz.prog (wr.alloc (.cells #[.int .i64 x.1, .bool x.2] 100)) = .ok (.slice A' (n + 1) c') w' ∧ RowV w B A' (n + 1) c' (l ++ [x]) w' ∧ ∀ C, C < B → w'.heap[C]? = wr.heap[C]? := by
  obtain ⟨i0, hi, hz0, hz1, hz2⟩ := info_parts infoMove
  have hb := h.bel.alloc h.bel.size (.cells #[.int .i64 x.1, .bool x.2] 100)
  have hat := heap_alloc_new wr (.cells #[.int .i64 x.1, .bool x.2] 100)
  have hnews := World.news_of_block (cs := #[.int .i64 x.1, .bool x.2]) hat
  have hhi := h.hi
  have hlo := h.lo
  obtain ⟨v', w', hr, ho, hg, hfr⟩ := run_append_own (P := Tryz.prog) (wr.alloc (.cells #[.int .i64 x.1, .bool x.2] 100)) B 23 23 100 i0 (.agg #[.int .i64 0, .bool false]) 2 16 Tryz.underlying23 hi hz0 hz1 hz2 rfl (by decide) (.slice A n c) n _ (h.own.alloc _) ⟨wr.heap.size, 0, none⟩ 1 1 [.int .i64 x.1, .bool x.2] rfl (by simpa using hnews) (by intro u hu; simp at hu; rcases hu with rfl | rfl <;> rfl) (by unfold maxLen; omega) (by omega) (by simp; omega)
  obtain ⟨A', c', rfl⟩ : ∃ A' c', v' = .slice A' (n + 1) c' := by
    rcases ho.2 with ⟨rfl, e⟩ | ⟨g, cap, cur, rfl, _⟩
    · exact ⟨none, 0, by rw [e]⟩
    · exact ⟨_, _, rfl⟩
  have hs := hg.size
  rw [World.size_alloc] at hs
  refine ⟨A', c', w', hr, ⟨by rw [List.length_append, h.len]; rfl, by rw [cellsM_append]; exact ho, hb.grown hg hb.size (fun k hk => Nat.le_trans hlo (h.own.lt k hk).1), hlo, by omega⟩, fun C hC => ?_⟩
  rw [hg.block C (by simp; omega) (fun e => by have := (h.own.lt C e.symm).1; omega)]
  exact Lib.alloc_old wr _ C (by omega)
end Go.Proofs.YtgkfhihnfllmhaaGreatDoor

namespace Go.Proofs.YtgkfhihnfllmhaaGreatDoor
set_option maxRecDepth 100000
open Go.RowKit Go.Sort
set_option linter.unusedVariables false
set_option linter.unusedSimpArgs false

def moveV (v : Int × Bool) : Value := .agg #[.int .i64 v.1, .bool v.2]
def scriptV (k n r : Int) (A : Option Addr) (len c : Nat) : Value := .agg #[.int .i64 k, .int .i64 n, .int .i64 r, .slice A len c]

theorem getM {l : List (Int × Bool)} {i : Nat} (h : i < l.length) : l[i] = l.getD i default := by
  rw [List.getD_eq_getElem?_getD, List.getElem?_eq_getElem h]; rfl
theorem u8_wrap {n : Int} (h0 : 0 ≤ n) (h1 : n < 256) : IntKind.u8.wrap n = n := by
  unfold IntKind.wrap
  simp [IntKind.signed, IntKind.bits]
  omega

set_option maxHeartbeats 1000000 in
theorem encMv_any (v : Int × Bool) (n : Int) (h0 : 0 ≤ v.1) (h1 : v.1 < n) (hn : n ≤ 8) (w : World) : Calls Tryz.prog 82 #[moveV v] w fun e w' => e = .returned (.int .u8 ((byteOf v).toNat : Int)) ∧ Below w.heap.size w w' := by
  have hb := byteOf_nat h0 h1 hn
  obtain ⟨t, p⟩ := v
  dsimp only at h0 h1 hb
  have HB := Lib.hid ((Below.refl w.heap.size w).alloc (Nat.le_refl _) (.cells #[.int .i64 t, .bool p] 100))
  unfold moveV
  cases p with
  | true =>
    rw [if_pos rfl] at hb
    have e1 : wrap64 (224 + t) = ((byteOf (t, true)).toNat : Int) := by rw [hb]; unfold wrap64; omega
    have e2 : IntKind.u8.wrap ((byteOf (t, true)).toNat : Int) = ((byteOf (t, true)).toNat : Int) := u8_wrap (by omega) (by have := UInt8.toNat_lt (byteOf (t, true)); omega)
    generalize (byteOf (t, true)).toNat = z at *
    clear hb h0 h1 hn
    go_enter Tryz.func82, Tryz.ntmps82
    go_wp2
    --MA
    go_ret
    exact ⟨rfl, HB.out⟩
  | false =>
    rw [if_neg (by simp)] at hb
    have e2 : IntKind.u8.wrap t = ((byteOf (t, false)).toNat : Int) := by rw [u8_wrap h0 (by omega), hb]; omega
    generalize (byteOf (t, false)).toNat = z at *
    clear hb h0 h1 hn
    go_enter Tryz.func82, Tryz.ntmps82
    go_wp2
    --MB
    go_ret
    exact ⟨rfl, HB.out⟩

/-- Whether a script may be. -/
def ToldRightSc (k n r : Int) (l : List (Int × Bool)) (w : World) (e : Ending) (w' : World) : Prop := ∃ b : Bool, e = .returned (.bool b) ∧ (b = true ↔ rightSc k n r l) ∧ Below w.heap.size w w'

theorem rightMv_step {n : Int} {l : List (Int × Bool)} {i : Nat} (h : i < l.length) : rightMv n (l.take (i + 1)) ↔ rightMv n (l.take i) ∧ 0 ≤ (l.getD i default).1 ∧ (l.getD i default).1 < n := by
  rw [List.take_succ_eq_append_getElem h, getM h]
  exact ⟨fun hr => ⟨fun v hv => hr v (List.mem_append_left _ hv), hr _ (by simp)⟩, fun hr v hv => by
    rcases List.mem_append.1 hv with hv | hv
    · exact hr.1 v hv
    · rw [List.mem_singleton.1 hv]; exact hr.2⟩
theorem rightMv_take {n : Int} {l : List (Int × Bool)} (i : Nat) (h : rightMv n l) : rightMv n (l.take i) := fun v hv => h v (List.mem_of_mem_take hv)

set_option maxHeartbeats 2000000 in
theorem scRight_any (k n r : Int) (l : List (Int × Bool)) (A : Option Addr) (len c : Nat) (w : World) (hM : Moves w w.heap.size A len l) (hlen : len ≤ 1000000) :
    Calls Tryz.prog 46 #[scriptV k n r A len c] w (ToldRightSc k n r l w) := by
  have hl := hM.len
  have hb0 := (Below.refl w.heap.size w).alloc (Nat.le_refl _) (.cells #[.int .i64 k, .int .i64 n, .int .i64 r, .slice A len c] 25)
  have hx0 := heap_alloc_new w (.cells #[.int .i64 k, .int .i64 n, .int .i64 r, .slice A len c] 25)
  obtain ⟨xb, hxb⟩ : ∃ xb, w.heap.size = xb := ⟨_, rfl⟩
  obtain ⟨w1, hw1⟩ : ∃ w1, w.alloc (.cells #[.int .i64 k, .int .i64 n, .int .i64 r, .slice A len c] 25) = w1 := ⟨_, rfl⟩
  have hlo : w.heap.size ≤ xb := by omega
  rw [hw1, hxb] at hx0
  rw [hw1] at hb0
  have c0 : w1.cell? ⟨xb, 0, none⟩ = some (.int .i64 k) := by rw [cell_of_row w1 xb 0 _ _ _ hx0]; rfl
  have HM := Lib.hid hM
  have HB0 := Lib.hid (show Below w.heap.size w w1 from hb0)
  have HX := Lib.hid hx0
  have HN := Lib.hid (name_any k w1)
  have hbox : ∀ K : Value → World → Prop, K (.pointer (some ⟨xb, 0, none⟩)) w1 → K (.pointer (some ⟨w.heap.size, 0, none⟩)) (w.alloc (.cells #[.int .i64 k, .int .i64 n, .int .i64 r, .slice A len c] 25)) := fun K hK => by rw [hw1, hxb]; exact hK
  clear hM hb0 hx0
  unfold scriptV
  go_enter Tryz.func46, Tryz.ntmps46
  go_wp2_with fail
  refine HN.out.mono ?_
  rintro e w2 ⟨hb2, s, v, rfl, hv⟩
  have HB2 := Lib.hid (HB0.out.trans (hb2.mono HB0.out.size))
  have hx2 := (hb2.block xb (lt_of_block HX.out)).trans HX.out
  have HX2 := Lib.hid hx2
  have c1 : w2.cell? ⟨xb, 1, none⟩ = some (.int .i64 n) := by rw [cell_of_row w2 xb 1 _ _ _ hx2]; rfl
  have c2 : w2.cell? ⟨xb, 2, none⟩ = some (.int .i64 r) := by rw [cell_of_row w2 xb 2 _ _ _ hx2]; rfl
  have c3 : w2.cell? ⟨xb, 3, none⟩ = some (.slice A len c) := by rw [cell_of_row w2 xb 3 _ _ _ hx2]; rfl
  clear hb2 hx2 HN c0 hbox hw1 hxb
  have HBX : Below w.heap.size w w2 := by
    first
      | exact HB2.out
      | (have := HB2.out; simpa using this)
  have HBX := Lib.hid HBX
  rcases hv with ⟨rfl, hk⟩ | ⟨rfl, hk⟩
  · by_cases h1 : n < 1
    · have hno : ¬ rightSc k n r l := fun h => by have := h.2.2.1; omega
      go_wp2
      go_ret
      exact ⟨false, rfl, ⟨(fun h => by cases h), fun h => absurd h hno⟩, HBX.out⟩
    by_cases h2 : 8 < n
    · have hno : ¬ rightSc k n r l := fun h => by have := h.2.2.2.1; omega
      go_wp2
      go_ret
      exact ⟨false, rfl, ⟨(fun h => by cases h), fun h => absurd h hno⟩, HBX.out⟩
    by_cases h3 : r < 0
    · have hno : ¬ rightSc k n r l := fun h => by have := h.2.2.2.2.1; omega
      go_wp2
      go_ret
      exact ⟨false, rfl, ⟨(fun h => by cases h), fun h => absurd h hno⟩, HBX.out⟩
    by_cases h4 : 5 < r
    · have hno : ¬ rightSc k n r l := fun h => by have := h.2.2.2.2.2.1; omega
      go_wp2
      go_ret
      exact ⟨false, rfl, ⟨(fun h => by cases h), fun h => absurd h hno⟩, HBX.out⟩
    have hin : rightMv n l → rightSc k n r l := fun h => ⟨hk.1, hk.2, by omega, by omega, by omega, by omega, h⟩
    have HIN := Lib.hid hin
    clear hin hk
    go_wp2
    go_loopw [36] (fun j wr => ∃ i : Nat, i ≤ len ∧ j = .int .i64 i ∧ rightMv n (l.take i) ∧ Below w.heap.size w wr ∧ wr.heap[xb]? = some (.cells #[.int .i64 k, .int .i64 n, .int .i64 r, .slice A len c] 25 (0, 0))) (fun j _ => len - (intOf j).toNat)
    case atStart => exact ⟨0, Nat.zero_le _, rfl, (fun v hv => by cases hv), HBX.out, HX2.out⟩
    case round =>
      obtain ⟨i, hi, rfl, hr, hb, hx⟩ := hrel
      clear c1 c2 c3
      by_cases hlt : i < len
      · have hii : (i : Int) < (len : Int) := by omega
        obtain ⟨ab, off, rfl, hab, hc⟩ := (HM.out.below hb).row (by omega)
        obtain ⟨m0, m1⟩ := hc i hlt
        have habw : ab < wr.heap.size := Nat.lt_of_lt_of_le hab hb.size
        have habn : ab ≠ wr.heap.size := by omega
        have hst := rightMv_step (n := n) (l := l) (i := i) (by omega)
        have hxw := lt_of_block hx
        have hxn : xb ≠ wr.heap.size := by omega
        have c1 : wr.cell? ⟨xb, 1, none⟩ = some (.int .i64 n) := by rw [cell_of_row wr xb 1 _ _ _ hx]; rfl
        have HBA := Lib.hid (fun o => hb.alloc hb.size o)
        have HXA := Lib.hid (fun o => (Below.heap_alloc wr o xb hxw).trans hx)
        have HNO := Lib.hid (fun h : ¬ rightMv n (l.take (i + 1)) => (fun hr : rightSc k n r l => h (rightMv_take (i + 1) hr.2.2.2.2.2.2) : ¬ rightSc k n r l))
        have HST := Lib.hid hst
        have HR := Lib.hid hr
        generalize (l.getD i default).1 = t at *
        generalize (l.getD i default).2 = p at *
        clear hc hb hx hst hr hab
        by_cases g1 : t < 0
        · have HF := Lib.hid (HNO.out fun h => by have := (HST.out.1 h).2.1; omega)
          go_wp2
          go_ret
          exact ⟨false, rfl, ⟨(fun h => by cases h), fun h => absurd h HF.out⟩, HBA.out _⟩
        by_cases g2 : n ≤ t
        · have HF := Lib.hid (HNO.out fun h => by have := (HST.out.1 h).2.2; omega)
          go_wp2
          go_ret
          exact ⟨false, rfl, ⟨(fun h => by cases h), fun h => absurd h HF.out⟩, HBA.out _⟩
        have HOK := Lib.hid (HST.out.2 ⟨HR.out, by omega, by omega⟩)
        clear HNO
        go_wp2
        go_roundw
        case rel => exact ⟨i + 1, by omega, by go_num, HOK.out, HBA.out _, HXA.out _⟩
        case measure => simp [intOf]; omega
      · obtain rfl : i = len := by omega
        rw [List.take_of_length_le (by omega)] at hr
        have hii : ¬ (i : Int) < (i : Int) := by omega
        have hrr := HIN.out hr
        go_wp2
        go_ret
        exact ⟨true, rfl, ⟨fun _ => hrr, fun _ => rfl⟩, hb⟩
  · have hno : ¬ rightSc k n r l := fun h => hk ⟨h.1, h.2.1⟩
    clear hk
    go_wp2
    go_ret
    exact ⟨false, rfl, ⟨(fun h => by cases h), fun h => absurd h hno⟩, HBX.out⟩
end Go.Proofs.YtgkfhihnfllmhaaGreatDoor

namespace Go.Proofs.YtgkfhihnfllmhaaGreatDoor
set_option maxRecDepth 100000
open Go.RowKit Go.Sort
set_option linter.unusedVariables false
set_option linter.unusedSimpArgs false

set_option maxHeartbeats 1000000 in
theorem decMv_any (b : UInt8) (n : Nat) (n1 : 1 ≤ n) (n8 : n ≤ 8) (w : World) : Calls Tryz.prog 45 #[.int .u8 (b.toNat : Int), .int .i64 (n : Nat)] w fun e w' => e = .returned (moveV (mvOf n b)) ∧ Below w.heap.size w w' := by
  have hlt := UInt8.toNat_lt b
  have hx0 := heap_alloc_new w (.cells #[.int .i64 0, .bool false] 100)
  have hb0 := (Below.refl w.heap.size w).alloc (Nat.le_refl _) (.cells #[.int .i64 0, .bool false] 100)
  obtain ⟨xb, hxb⟩ : ∃ xb, w.heap.size = xb := ⟨_, rfl⟩
  obtain ⟨w1, hw1⟩ : ∃ w1, w.alloc (.cells #[.int .i64 0, .bool false] 100) = w1 := ⟨_, rfl⟩
  rw [hw1, hxb] at hx0
  rw [hw1, hxb] at hb0
  have c0 : w1.cell? ⟨xb, 0, none⟩ = some (.int .i64 0) := by rw [cell_of_row w1 xb 0 _ _ _ hx0]; rfl
  have c1 : w1.cell? ⟨xb, 1, none⟩ = some (.bool false) := by rw [cell_of_row w1 xb 1 _ _ _ hx0]; rfl
  have f0 := frozen_of_row w1 xb 0 _ _ hx0
  have f1 := frozen_of_row w1 xb 1 _ _ hx0
  have HX := Lib.hid hx0
  have HB := Lib.hid hb0
  have fin : ∀ (v : Int × Bool) (tmps : Array Value), tmps.getD 4 undef = .pointer (some ⟨xb, 0, none⟩) → (results Tryz.f45 tmps).run Tryz.prog ((w1.setCell ⟨xb, 0, none⟩ (.int .i64 v.1)).setCell ⟨xb, 1, none⟩ (.bool v.2)) = .ok (moveV v) ((w1.setCell ⟨xb, 0, none⟩ (.int .i64 v.1)).setCell ⟨xb, 1, none⟩ (.bool v.2)) := by
    intro v tmps h4
    have r1 := heap_setCell_same _ _ 0 _ _ (.int .i64 v.1) HX.out
    have r2 := heap_setCell_same _ _ 1 _ _ (.bool v.2) r1
    have k0 := cell_of_row _ xb 0 _ _ _ r2
    have k1 := cell_of_row _ xb 1 _ _ _ r2
    simp only [Array.getD_eq_getD_getElem?] at h4
    simp [results, Tryz.results45, go_sem, h4, moveV, World.cell?_setCell_same, k0, k1]
  have hbel : ∀ (v : Int × Bool), Below xb w ((w1.setCell ⟨xb, 0, none⟩ (.int .i64 v.1)).setCell ⟨xb, 1, none⟩ (.bool v.2)) := fun v => (hb0.setCell (p := ⟨xb, 0, none⟩) (Nat.le_refl _) _).setCell (p := ⟨xb, 1, none⟩) (Nat.le_refl _) _
  have FIN := Lib.hid fin
  have HBE := Lib.hid hbel
  have hn0 : ((n : Nat) : Int) ≠ 0 := by omega
  clear hx0 hb0 fin hbel
  by_cases h : 224 ≤ b.toNat
  · have hi : (224 : Int) ≤ (b.toNat : Int) := by omega
    have e1 : IntKind.u8.wrap ((b.toNat : Int) - 224) = ((b.toNat - 224 : Nat) : Int) := by rw [u8_wrap (by omega) (by omega)]; omega
    have e3 : (((b.toNat - 224 : Nat) : Int)).tmod ((n : Nat) : Int) = (((b.toNat - 224) % n : Nat) : Int) := rfl
    have hm : mvOf n b = ((((b.toNat - 224) % n : Nat) : Int), true) := by unfold mvOf; rw [if_pos h]
    rw [hm]
    generalize (b.toNat - 224) % n = z at *
    have e2 : wrap64 ((b.toNat - 224 : Nat) : Int) = ((b.toNat - 224 : Nat) : Int) := by unfold wrap64; omega
    generalize ((b.toNat - 224 : Nat) : Int) = y at *
    clear hm h hlt
    go_enter Tryz.func45, Tryz.ntmps45
    go_wp2
    --MA
    exact bodyPost_ret (FIN.out ((z : Nat), true) _ rfl) rfl ⟨rfl, by first | exact HBE.out ((z : Nat), true) | (rw [hxb]; exact HBE.out ((z : Nat), true))⟩
  · have hi : ¬ (224 : Int) ≤ (b.toNat : Int) := by omega
    have e2 : wrap64 (b.toNat : Int) = (b.toNat : Int) := by unfold wrap64; omega
    have e3 : ((b.toNat : Int)).tmod ((n : Nat) : Int) = ((b.toNat % n : Nat) : Int) := rfl
    have hm : mvOf n b = (((b.toNat % n : Nat) : Int), false) := by unfold mvOf; rw [if_neg h]
    rw [hm]
    generalize b.toNat % n = z at *
    generalize (b.toNat : Int) = y at *
    clear hm h hlt
    go_enter Tryz.func45, Tryz.ntmps45
    go_wp2
    --MB
    exact bodyPost_ret (FIN.out ((z : Nat), false) _ rfl) rfl ⟨rfl, by first | exact HBE.out ((z : Nat), false) | (rw [hxb]; exact HBE.out ((z : Nat), false))⟩
end Go.Proofs.YtgkfhihnfllmhaaGreatDoor

namespace Go.Proofs.YtgkfhihnfllmhaaGreatDoor
set_option maxRecDepth 100000
open Go.RowKit Go.Sort
set_option linter.unusedVariables false
set_option linter.unusedSimpArgs false

/-- What a script is told to be as bytes. -/
def ToldBytes (k n r : Int) (l : List (Int × Bool)) (w : World) (e : Ending) (w' : World) : Prop := Below w.heap.size w w' ∧
  ((e = .returned (.tuple #[strV (bytesOf k n r l), .nilIface]) ∧ rightSc k n r l) ∨ (e = .returned (.tuple #[strV [], .iface 101 (.int .i64 1)]) ∧ ¬ rightSc k n r l))

theorem sc_tb_old {B b : Nat} {l : List UInt8} {w w' : World} (h : TB B b l w) (hb : Below w.heap.size w w') : TB B b l w' := by
  have key : ∀ p, Lib.BuilderAt 130 5 B b p (Lib.byteCells l) w → Lib.BuilderAt 130 5 B b p (Lib.byteCells l) w' := fun p hp => by
    have hlt := hp.lt
    obtain ⟨hB, v, hh, hown, hne⟩ := hp
    exact ⟨hB, v, (hb.block b hlt).trans hh, hown.kept (grown_of_old hb) (Classical.em _), hne⟩
  rcases h with h | h
  · exact .inl (key _ h)
  · exact .inr (key _ h)

theorem index_int3 (a b c : Int) : ∀ (i : Nat), i < 3 → ∀ w : World, (Instr.index 161 (.agg #[.int .i64 a, .int .i64 b, .int .i64 c]) (.int .i64 (i : Int))).run Tryz.prog w = .ok (.int .i64 ([a, b, c].getD i 0)) w
  | 0, _ => fun _ => by kernel_rfl
  | 1, _ => fun _ => by kernel_rfl
  | 2, _ => fun _ => by kernel_rfl
  | n + 3, h => absurd h (by omega)

theorem head_take (k n r : Int) (i : Nat) (h : i < 3) : (headOf k n r).take (i + 1) = (headOf k n r).take i ++ [UInt8.ofNat ([k - 1, n - 1, r].getD i 0).toNat] := by
  rcases (by omega : i = 0 ∨ i = 1 ∨ i = 2) with rfl | rfl | rfl <;> rfl
theorem bytes_take (l : List (Int × Bool)) (i : Nat) (h : i < l.length) : (l.take (i + 1)).map byteOf = (l.take i).map byteOf ++ [byteOf (l.getD i default)] := by
  rw [List.take_succ_eq_append_getElem h, List.map_append, getM h]; rfl

set_option maxHeartbeats 4000000 in
theorem scEncode_any (k n r : Int) (l : List (Int × Bool)) (A : Option Addr) (len c : Nat) (w : World) (hM : Moves w w.heap.size A len l) (hlen : len ≤ 900000) :
    Calls Tryz.prog 41 #[scriptV k n r A len c] w (ToldBytes k n r l w) := by
  have hl := hM.len
  have hb0 := (Below.refl w.heap.size w).alloc (Nat.le_refl _) (.cells #[.int .i64 k, .int .i64 n, .int .i64 r, .slice A len c] 25)
  have hx0 := heap_alloc_new w (.cells #[.int .i64 k, .int .i64 n, .int .i64 r, .slice A len c] 25)
  obtain ⟨xb, hxb⟩ : ∃ xb, w.heap.size = xb := ⟨_, rfl⟩
  obtain ⟨w1, hw1⟩ : ∃ w1, w.alloc (.cells #[.int .i64 k, .int .i64 n, .int .i64 r, .slice A len c] 25) = w1 := ⟨_, rfl⟩
  rw [hw1, hxb] at hx0
  rw [hw1] at hb0
  have c0 : w1.cell? ⟨xb, 0, none⟩ = some (.int .i64 k) := by rw [cell_of_row w1 xb 0 _ _ _ hx0]; rfl
  have c1 : w1.cell? ⟨xb, 1, none⟩ = some (.int .i64 n) := by rw [cell_of_row w1 xb 1 _ _ _ hx0]; rfl
  have c2 : w1.cell? ⟨xb, 2, none⟩ = some (.int .i64 r) := by rw [cell_of_row w1 xb 2 _ _ _ hx0]; rfl
  have c3 : w1.cell? ⟨xb, 3, none⟩ = some (.slice A len c) := by rw [cell_of_row w1 xb 3 _ _ _ hx0]; rfl
  have HB0 := Lib.hid (show Below w.heap.size w w1 from hb0)
  have HX := Lib.hid hx0
  have HM1 := Lib.hid (hM.old hb0)
  have HR := Lib.hid (scRight_any k n r l A len c w1 (hM.old hb0) (by omega))
  have hbox : ∀ K : Value → World → Prop, K (.pointer (some ⟨xb, 0, none⟩)) w1 → K (.pointer (some ⟨w.heap.size, 0, none⟩)) (w.alloc (.cells #[.int .i64 k, .int .i64 n, .int .i64 r, .slice A len c] 25)) := fun K hK => by rw [hw1, hxb]; exact hK
  clear hM hb0 hx0
  unfold scriptV at HR ⊢
  go_enter Tryz.func41, Tryz.ntmps41
  go_wp2_with fail
  refine HR.out.mono ?_
  rintro e w2 ⟨b, rfl, hb, hb2⟩
  have HB2 := Lib.hid (show Below w.heap.size w w2 from HB0.out.trans (hb2.mono HB0.out.size))
  have HX2 := Lib.hid ((hb2.block xb (lt_of_block HX.out)).trans HX.out)
  have HM2 := Lib.hid (HM1.out.old hb2)
  clear hb2 HR c0 c1 c2 c3 hbox HX HM1
  have HBX := Lib.hid (show Below xb w w2 by rw [← hxb]; exact HB2.out)
  have HXB := Lib.hid hxb
  clear hw1 hxb
  cases b with
  | false =>
    have hno : ¬ rightSc k n r l := fun h => by have := hb.2 h; cases this
    clear hb
    go_wp2
    go_ret2
    exact ⟨HB2.out, .inr ⟨rfl, hno⟩⟩
  | true =>
    have hr : rightSc k n r l := hb.1 rfl
    clear hb
    have HRR := Lib.hid hr
    have hT0 : TB w2.heap.size w2.heap.size [] (w2.alloc (.cells #[.pointer none, .slice none 0 0] 130)) := Lib.fresh_isBuilder _ _ w2
    have hb3 := (Below.refl w2.heap.size w2).alloc (Nat.le_refl _) (.cells #[.pointer none, .slice none 0 0] 130)
    have HH := Lib.hid (And.intro hT0 hb3)
    have hxw := lt_of_block HX2.out
    have hxn : xb ≠ w2.heap.size := by omega
    have c0 : w2.cell? ⟨xb, 0, none⟩ = some (.int .i64 k) := by rw [cell_of_row w2 xb 0 _ _ _ HX2.out]; rfl
    have c1 : w2.cell? ⟨xb, 1, none⟩ = some (.int .i64 n) := by rw [cell_of_row w2 xb 1 _ _ _ HX2.out]; rfl
    have c2 : w2.cell? ⟨xb, 2, none⟩ = some (.int .i64 r) := by rw [cell_of_row w2 xb 2 _ _ _ HX2.out]; rfl
    have HV := Lib.hid (show ∀ i, i < 3 → 0 ≤ [k - 1, n - 1, r].getD i 0 ∧ [k - 1, n - 1, r].getD i 0 < 256 from fun i hi => by
      obtain ⟨g1, g2, g3, g4, g5, g6, _⟩ := HRR.out
      rcases (by omega : i = 0 ∨ i = 1 ∨ i = 2) with rfl | rfl | rfl
      · show 0 ≤ k - 1 ∧ k - 1 < 256; omega
      · show 0 ≤ n - 1 ∧ n - 1 < 256; omega
      · show 0 ≤ r ∧ r < 256; omega)
    have hw1 : wrap64 (k - 1) = k - 1 := by have := HRR.out.1; have := HRR.out.2.1; unfold wrap64; omega
    have hw2 : wrap64 (n - 1) = n - 1 := by have := HRR.out.2.2.1; have := HRR.out.2.2.2.1; clear hw1; unfold wrap64; omega
    have HIX := Lib.hid (index_int3 (k - 1) (n - 1) r)
    have HTK := Lib.hid (head_take k n r)
    have HHL := Lib.hid (show (headOf k n r).length = 3 from rfl)
    have HHO := Lib.hid (show ∀ i, ((headOf k n r).take i).length ≤ 3 from fun i => by rw [List.length_take, HHL.out]; omega)
    clear hT0 hb3 hr
    go_wp2
    clear hw1 hw2 c0 c1 c2
    go_loopw [22] (fun j wr => ∃ i : Nat, i ≤ 3 ∧ j = .int .i64 i ∧ TB w2.heap.size w2.heap.size ((headOf k n r).take i) wr ∧ Below w2.heap.size w2 wr) (fun j _ => 3 - (intOf j).toNat)
    case atStart => exact ⟨0, Nat.zero_le _, rfl, HH.out.1, HH.out.2⟩
    case round =>
      obtain ⟨i, hi, rfl, hT, hb⟩ := hrel
      clear HH
      by_cases hlt : i < 3
      · have hii : (i : Int) < 3 := by omega
        have hix := HIX.out i hlt
        have hv := HV.out i hlt
        have hst := HTK.out i hlt
        have hho := HHO.out i
        generalize [k - 1, n - 1, r].getD i 0 = z at *
        have hu : IntKind.u8.wrap z = ((UInt8.ofNat z.toNat).toNat : Int) := by rw [u8_wrap hv.1 hv.2, u8_of (by omega)]; omega
        generalize UInt8.ofNat z.toNat = y at *
        have HWB := Lib.hid (writeByte_any w2.heap.size w2.heap.size ((headOf k n r).take i) y wr hT (by omega) hb.size)
        rw [← hst] at HWB
        have HB := Lib.hid hb
        clear hb hT hst hv hho
        go_wp2_with fail
        refine HWB.out.mono ?_
        rintro e w4 ⟨rfl, ht, hw⟩
        have HF := Lib.hid (And.intro ht (HB.out.trans hw.1))
        clear ht hw HWB HB
        go_wp2
        go_roundw
        case rel => exact ⟨i + 1, by omega, by go_num, HF.out.1, HF.out.2⟩
        case measure => simp [intOf]; omega
      · obtain rfl : i = 3 := by omega
        have hii : ¬ (3 : Int) < 3 := by omega
        rw [List.take_of_length_le (by rw [HHL.out]; exact Nat.le_refl _)] at hT
        have hxr := (hb.block xb hxw).trans HX2.out
        have c3 : wr.cell? ⟨xb, 3, none⟩ = some (.slice A len c) := by rw [cell_of_row wr xb 3 _ _ _ hxr]; rfl
        have HH := Lib.hid (And.intro hT hb)
        have HM3 := Lib.hid HM2.out
        clear hT hb hxr HTK HIX HV
        go_wp2
        go_loopw [32] (fun j wr => ∃ i : Nat, i ≤ len ∧ j = .int .i64 i ∧ TB w2.heap.size w2.heap.size (headOf k n r ++ (l.take i).map byteOf) wr ∧ Below w2.heap.size w2 wr) (fun j _ => len - (intOf j).toNat)
        case atStart => exact ⟨0, Nat.zero_le _, rfl, by rw [List.take_zero, List.map_nil, List.append_nil]; exact HH.out.1, HH.out.2⟩
        case round =>
          obtain ⟨i, hi, rfl, hT, hb⟩ := hrel
          clear HH c3
          by_cases hlt : i < len
          · have hii : (i : Int) < (len : Int) := by omega
            obtain ⟨ab, off, rfl, hab, hc⟩ := (HM2.out.below hb).row (by omega)
            obtain ⟨m0, m1⟩ := hc i hlt
            have habw : ab < wr.heap.size := Nat.lt_of_lt_of_le hab hb.size
            have habn : ab ≠ wr.heap.size := by omega
            have hst := bytes_take l i (by omega)
            have hmv : 0 ≤ (l.getD i default).1 ∧ (l.getD i default).1 < n := HRR.out.2.2.2.2.2.2 _ (by rw [← getM (by omega : i < l.length)]; exact List.getElem_mem _)
            have hsz := hb.size
            have hln : (headOf k n r ++ (l.take i).map byteOf).length ≤ 900003 := by rw [List.length_append, List.length_map, List.length_take, HHL.out]; omega
            obtain ⟨x, hx⟩ : ∃ x, l.getD i default = x := ⟨_, rfl⟩
            rw [hx] at m0 m1 hst hmv
            obtain ⟨t, p⟩ := x
            dsimp only at m0 m1 hmv
            have hbx := (Below.refl wr.heap.size wr).alloc (Nat.le_refl _) (.cells #[.int .i64 t, .bool p] 100)
            have HBX2 := Lib.hid (hb.alloc hsz (.cells #[.int .i64 t, .bool p] 100))
            have HTX := Lib.hid (sc_tb_old hT hbx)
            have HEM := Lib.hid (fun w => encMv_any (t, p) n hmv.1 hmv.2 HRR.out.2.2.2.1 w)
            unfold moveV at HEM
            have hst2 : headOf k n r ++ (l.take (i + 1)).map byteOf = (headOf k n r ++ (l.take i).map byteOf) ++ [byteOf (t, p)] := by rw [hst, List.append_assoc]
            have HST := Lib.hid hst2
            clear hc hb hT hst hst2 hx hbx hab hmv
            generalize headOf k n r ++ (l.take i).map byteOf = L at *
            dsimp only at HEM
            go_wp2_with fail
            refine (HEM.out _).mono ?_
            rintro e w4 ⟨rfl, hb4⟩
            have HWB := Lib.hid (writeByte_any w2.heap.size w2.heap.size L (byteOf (t, p)) w4 (sc_tb_old HTX.out hb4) (by omega) (Nat.le_trans HBX2.out.size hb4.size))
            have HB4 := Lib.hid (HBX2.out.trans (hb4.mono HBX2.out.size))
            clear hb4 HEM HTX
            go_wp2_with fail
            refine HWB.out.mono ?_
            rintro e w5 ⟨rfl, ht, hw⟩
            have HF := Lib.hid (show TB w2.heap.size w2.heap.size (headOf k n r ++ (l.take (i + 1)).map byteOf) w5 ∧ Below w2.heap.size w2 w5 by rw [HST.out]; exact ⟨ht, HB4.out.trans hw.1⟩)
            clear ht hw HWB HB4
            go_wp2
            go_roundw
            case rel => exact ⟨i + 1, by omega, by go_num, HF.out.1, HF.out.2⟩
            case measure => simp [intOf]; omega
          · obtain rfl : i = len := by omega
            rw [List.take_of_length_le (by omega)] at hT
            have hii : ¬ (i : Int) < (i : Int) := by omega
            have HS := Lib.hid (Tryz.Builder_String_any w2.heap.size w2.heap.size (bytesOf k n r l) wr hT hb.size)
            have HBB := Lib.hid hb
            clear hT hb
            go_wp2_with fail
            refine HS.out.mono ?_
            rintro e w4 ⟨rfl, hb4⟩
            have HB4 := Lib.hid (HB2.out.trans ((HBB.out.trans hb4).mono HB2.out.size))
            clear hb4 HS
            go_wp2
            go_ret2
            exact ⟨HB4.out, .inl ⟨rfl, HRR.out⟩⟩
end Go.Proofs.YtgkfhihnfllmhaaGreatDoor
