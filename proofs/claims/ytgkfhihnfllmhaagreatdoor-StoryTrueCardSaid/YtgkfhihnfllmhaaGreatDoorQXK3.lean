/-
  slices.Backward over combine's path: the contract of its iterator, where a round keeps the row and the slice's box. A region that draws its order, in a round of a range over a function: as everywhere.
-/
import Derived.Test.YtgkfhihnfllmhaaGreatDoorQXK
import Derived.RangeFuncNested
import Derived.RangeFuncBound
import Derived.RangeFuncCalls
import Derived.RangeFuncLeaves
import Derived.Shelf.Abstract
import Derived.Shelf.RegionOpen
import Derived.WalkKit
import Derived.OwnWalkIn
import Derived.TacticsInMore
import Derived.LoopNIn
import Derived.LoopIn
import Derived.Test.YtgkfhihnfllmhaaGreatDoorQXC2
import Derived.OrdersIn
namespace Go.Proofs.YtgkfhihnfllmhaaGreatDoor
set_option maxRecDepth 100000
open Go.RowKit Go.Shelf
set_option linter.unusedVariables false
set_option linter.unusedSimpArgs false
attribute [local go_sem] Oper.semAt_some

theorem wrapK (x : Int) : IntKind.i64.wrap x = wrap64 x := by rw [IntKind.wrap_i64]; unfold wrap64; omega
/-- What has come behind k rounds. -/
def dnL (h k : Nat) : List Nat := (List.range k).map fun q => h - 1 - q
theorem dnL_succ (h k : Nat) : dnL h (k + 1) = dnL h k ++ [h - 1 - k] := by unfold dnL; rw [List.range_succ]; simp
theorem dnL_len (h k : Nat) : (dnL h k).length = k := by unfold dnL; simp
/-- What a round keeps. -/
def KpB (n₀ Bs : Nat) (W W' : World) : Prop := Below n₀ W W' ∧ W'.heap[Bs]? = W.heap[Bs]?
theorem KpB.refl (n₀ Bs : Nat) (W : World) : KpB n₀ Bs W W := ⟨Below.refl _ _, rfl⟩
theorem KpB.trans {n₀ Bs : Nat} {A B C : World} (h : KpB n₀ Bs A B) (g : KpB n₀ Bs B C) : KpB n₀ Bs A C := ⟨h.1.trans g.1, g.2.trans h.2⟩
abbrev encN (nd : Nat → Nat × Nat) (x : Nat) : Array Value := #[.int .i64 (x : Int), .agg #[.int .i64 ((nd x).1 : Int), .int .i64 ((nd x).2 : Int)]]

set_option maxRecDepth 100000 in
set_option maxHeartbeats 2000000 in
theorem back1_in (F : Fence) (n : Nat) (hF : F.fn 256) (hro : F.round = none) (hn : 1 ≤ n) (l Bs n₀ b h c : Nat) (nd : Nat → Nat × Nat) (hh : h ≤ 1000) (hb : b < n₀) (J Jx : List Nat → World → Prop)
    (hY : ∀ pre x W, J pre W → pre.length < h → YieldAt F (n - 1) Tryz.prog l (encN nd x) W fun e W' =>
      (e = .returned (.bool true) ∧ J (pre ++ [x]) W' ∧ KpB n₀ Bs W W') ∨ (e = .returned (.bool false) ∧ Jx (pre ++ [x]) W'))
    (W : World) (hBs : W.heap[Bs]? = some (.cells #[.slice (some ⟨b, 0, none⟩) h c] 306 (0, 0))) (hc : ∀ i, i < h → W.cell? ⟨b, i * 2, none⟩ = some (.int .i64 ((nd i).1 : Int)) ∧ W.cell? ⟨b, i * 2 + 1, none⟩ = some (.int .i64 ((nd i).2 : Int))) (h0 : J [] W) :
    CallsIn F n Tryz.prog 256 #[.func (.yield l) #[] #[], .pointer (some ⟨Bs, 0, none⟩)] W fun e W' => (∃ v, e = .returned v) ∧ ((∃ ys, ys = dnL h h ∧ J ys W') ∨ (∃ pre, True ∧ Jx pre W')) := by
  refine callsIn_of_wp Tryz.func256 rfl hF ?_ hro
  simp only [Tryz.ntmps256, List.size_toArray, List.length_cons, List.length_nil, Nat.reduceAdd, Nat.reduceSub, Array.replicate_succ, Array.replicate_zero, List.push_toArray, List.append_toArray, List.nil_append, List.cons_append]
  have hcb : W.cell? ⟨Bs, 0, none⟩ = some (.slice (some ⟨b, 0, none⟩) h c) := (cell_of_row W Bs 0 _ _ _ hBs).trans rfl
  have e0 : wrap64 ((h : Int) - 1) = (h : Int) - 1 := wrapI (by omega) (by omega)
  gi_wp2
  gi_loopw [3] (fun i wr => ∃ (k : Nat) (y : Int), k ≤ h ∧ i = .int .i64 y ∧ y = (h : Int) - 1 - (k : Int) ∧ J (dnL h k) wr ∧ KpB n₀ Bs W wr) (fun i _ => (intOf i + 1).toNat)
  case atStart => exact ⟨0, _, Nat.zero_le _, rfl, by omega, h0, KpB.refl _ _ _⟩
  case round =>
    obtain ⟨k, y, hk, rfl, hy0, hJs, hkp⟩ := hrel
    have hcw : wr.cell? ⟨Bs, 0, none⟩ = some (.slice (some ⟨b, 0, none⟩) h c) := (World.cell?_of_block (a := ⟨Bs, 0, none⟩) hkp.2).trans hcb
    by_cases hlt : k < h
    · obtain ⟨x, hx⟩ : ∃ x : Nat, x = h - 1 - k := ⟨_, rfl⟩
      obtain rfl : y = (x : Int) := by omega
      have hcx1 := (hkp.1.cell (p := ⟨b, x * 2, none⟩) hb).trans (hc x (by omega)).1
      have hcx2 := (hkp.1.cell (p := ⟨b, x * 2 + 1, none⟩) hb).trans (hc x (by omega)).2
      have hxh : x < h := by omega
      have hge : (0 : Int) ≤ (x : Int) := by omega
      have e1 : wrap64 ((x : Int) - 1) = (x : Int) - 1 := wrapI (by omega) (by omega)
      have e2 : IntKind.i64.wrap ((x : Int) - 1) = (x : Int) - 1 := (wrapK _).trans e1
      obtain ⟨fn, tmps, assign, body, hy, hR⟩ := hY _ x wr hJs (by rw [dnL_len]; exact hlt)
      unfold encN at hy
      clear e0 hcb hc hY hBs h0
      generalize (nd x).1 = z1 at *
      generalize (nd x).2 = z2 at *
      have HX := Lib.hid hx
      clear hx hy0
      gi_wp2
      refine hR.mono ?_
      rintro e W3 (⟨rfl, hJ3, hk3⟩ | ⟨rfl, hJx3⟩)
      · gi_wp2
        go_roundw
        case rel => exact ⟨k + 1, _, by omega, rfl, by have := HX.out; omega, by rw [dnL_succ, ← HX.out]; exact hJ3, hkp.trans hk3⟩
        case measure => simp [intOf] <;> omega
      · gi_wp2
        refine bodyPost_ret (results_none rfl _ _ _) rfl ?_
        exact ⟨⟨_, rfl⟩, .inr ⟨_, trivial, hJx3⟩⟩
    · obtain rfl : k = h := by omega
      obtain rfl : y = -1 := by omega
      gi_wp2
      go_end0
      exact ⟨⟨_, rfl⟩, .inl ⟨_, rfl, hJs⟩⟩

set_option maxHeartbeats 1000000 in
theorem backward_any (a : Option Addr) (len cap : Nat) (w : World) :
    Calls Tryz.prog 243 #[.slice a len cap] w fun e w' => e = .returned (.func (.func 256) #[] #[.pointer (some ⟨w.heap.size, 0, none⟩)]) ∧ w' = w.alloc (.cells #[.slice a len cap] 306) := by
  go_enter Tryz.func243, Tryz.ntmps243
  go_wp2
  go_ret
  exact ⟨rfl, rfl⟩

theorem back_stops (F : Fence) (n : Nat) (hF : F.fn 256) (hro : F.round = none) (hn : 1 ≤ n) (Bs n₀ b h c : Nat) (nd : Nat → Nat × Nat) (hh : h ≤ 1000) (hb : b < n₀) (w : World) (hn₀ : n₀ ≤ w.heap.size)
    (hBs : w.heap[Bs]? = some (.cells #[.slice (some ⟨b, 0, none⟩) h c] 306 (0, 0))) (hc : ∀ i, i < h → w.cell? ⟨b, i * 2, none⟩ = some (.int .i64 ((nd i).1 : Int)) ∧ w.cell? ⟨b, i * 2 + 1, none⟩ = some (.int .i64 ((nd i).2 : Int))) :
    SeqStopsK F n Tryz.prog 256 #[.pointer (some ⟨Bs, 0, none⟩)] (encN nd) (KpB n₀ Bs) (fun ys => ys = dnL h h) (fun _ => True) h w := fun l J Jx W hW _ _ hY h0 =>
  back1_in F n hF hro hn l Bs n₀ b h c nd hh hb J Jx hY W ((hW.block Bs (Array.getElem?_eq_some_iff.1 hBs).1).trans hBs) (fun i hi => ⟨(hW.cell (p := ⟨b, i * 2, none⟩) (Nat.lt_of_lt_of_le hb hn₀)).trans (hc i hi).1, (hW.cell (p := ⟨b, i * 2 + 1, none⟩) (Nat.lt_of_lt_of_le hb hn₀)).trans (hc i hi).2⟩) h0
end Go.Proofs.YtgkfhihnfllmhaaGreatDoor

namespace Go.Proofs.YtgkfhihnfllmhaaGreatDoor
set_option maxRecDepth 100000
open Go.RowKit
set_option linter.unusedVariables false

section
variable {P : Program} {ops : Array Oper} {Q : Exit → Act → World → Prop} {md : Region.Mode} {S : World → Prop} {L : Nat}

def noDefer (ops : Array Oper) : Bool := ops.all fun o => match o.op with | .defer _ => false | _ => true
theorem noDefer_spec (h : noDefer ops = true) : ∀ (j : Nat) (o : Oper) c, ops[j]? = some o → o.op ≠ .defer c := by
  intro j o c hj e
  obtain ⟨hlt, rfl⟩ := Array.getElem?_eq_some_iff.1 hj
  have := (Array.all_eq_true.1 h) j hlt
  rw [e] at this
  cases this

theorem wpOp_round {i : Nat} {K : Act → World → Prop} {a : Act} {w : World} (l n : Nat) (hnd : noDefer ops = true) (hout : ¬ LetsOut Q) (h : wpOp P ops Q i K a w) : wpOpIn (Fence.wide.inRound l) n P ops Q i K a w := by
  unfold wpOp at h
  unfold wpOpIn
  cases ho : ops[i]? with
  | none => rw [ho] at h; exact h
  | some o =>
    rw [ho] at h
    dsimp only at h ⊢
    split
    · rename_i hw
      rw [if_pos hw] at h
      rcases h with h | ⟨_, h⟩
      · refine ⟨fun _ _ => trivial, ?_⟩
        rw [Fence.inRound_round, Oper.semAt_some l _ _ (fun c => noDefer_spec hnd i o c ho)]
        unfold Oper.wp at h
        generalize (execOp a.eval o).run P w = r at *
        unfold Oper.upon at h
        split at h
        · exact h
        · exact h
        · exact h
        · exact ⟨fun h => (by cases h), CallsIn.inRound l (callsIn_wide.2 h)⟩
        · exact ⟨fun h => (by cases h), fun c cs _ => let ⟨v, w', r, s⟩ := h c cs; ⟨v, w', r, stepsIn_wide.2 s⟩⟩
        · exact h
        · exact h.elim
      · exact absurd h hout
    · rename_i hw
      rw [if_neg hw] at h
      exact ⟨fun _ _ => trivial, h⟩

theorem wpAny_round (l n : Nat) (hnd : noDefer ops = true) (hout : ¬ LetsOut Q) : ∀ (k : Nat) (done : Array Bool) (a : Act) (w : World), wpAny P md ops Q k done a w → wpAnyIn (Fence.wide.inRound l) n P md ops Q k done a w
  | 0, _, _, _, h => h
  | k + 1, done, a, w, h => ⟨h.1, fun i hi => wpOp_round l n hnd hout (wpOp_mono (fun a' w' h' => wpAny_round l n hnd hout k _ a' w' h') (h.2 i hi))⟩

theorem region_round {id l n : Nat} {a : Act} {w : World} (N : Nat) (hN : ops.size = N) (hm : P.follows .mixedOrders = true) (hnd : noDefer ops = true) (hout : ¬ LetsOut Q) (hS : S w.drew)
    (h : S w.drew → heldL P .any ops Q S L N (Array.replicate N false) a w.drew) : (Code.region id ops true).wpIn (Fence.wide.inRound l) n P Q a w := by
  subst hN
  exact wpIn_region_any hm (wpAny_round l n hnd hout _ _ _ _ (any_of_heldL _ _ _ _ (h hS)))
end
end Go.Proofs.YtgkfhihnfllmhaaGreatDoor
