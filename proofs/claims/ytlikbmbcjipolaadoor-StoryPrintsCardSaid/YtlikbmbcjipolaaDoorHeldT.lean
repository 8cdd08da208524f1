/-
  A drawn region where two operations are ready at once that can't be taken ahead of one another; what is held may become more.
-/
import Derived.Test.YtlikbmbcjipolaaDoorHeldH
namespace Go.Proofs.YtlikbmbcjipolaaDoor
set_option maxRecDepth 100000
open Go.RowKit

section
variable {P : Program} {ops : Array Oper} {Q : Exit → Act → World → Prop} {md : Region.Mode} {S S' : World → Prop}

/-- What is held from here on is more. -/
theorem heldH_more (hS : ∀ u, S' u → S u) : ∀ (n : Nat) (listed : Array Bool) (a : Act) (w : World), wpAnyH P md ops Q S' n listed a w → wpAnyH P md ops Q S n listed a w
  | 0, _, _, _, h => h
  | n + 1, _, _, _, h => ⟨h.1, fun i hi => wpOp_mono (fun _ _ h' => ⟨hS _ h'.1, heldH_more hS n _ _ _ h'.2⟩) (h.2 i hi)⟩
/-- Two are ready: each is shown. -/
theorem heldH_two {i j : Nat} {o p : Oper} {n N : Nat} {listed : Array Bool} {a : Act} {w : World} (hN : N = n + 1) (hr : Region.ready md ops listed = [i, j]) (ho : ops[i]? = some o) (hp : ops[j]? = some p)
    (h : ∀ K : Act → World → Prop, (∀ a w, S w → (S w → wpAnyH P md ops Q S n (listed.setIfInBounds i true) a w) → K a w) → if Region.wanted o (yielded ops a.tmps) = true then Oper.wp P o a w K Q else K (a.put o.dst undef) w)
    (h2 : ∀ K : Act → World → Prop, (∀ a w, S w → (S w → wpAnyH P md ops Q S n (listed.setIfInBounds j true) a w) → K a w) → if Region.wanted p (yielded ops a.tmps) = true then Oper.wp P p a w K Q else K (a.put p.dst undef) w) : wpAnyH P md ops Q S N listed a w := by
  subst hN
  refine wpAnyH_all hr (by simp) fun k hk => ?_
  rcases List.mem_cons.1 hk with rfl | hk
  · exact wpOp_step ho (fun K hK => h K (fun a w hS hW => hK a w ⟨hS, hW hS⟩))
  · obtain rfl := List.mem_singleton.1 hk
    exact wpOp_step hp (fun K hK => h2 K (fun a w hS hW => hK a w ⟨hS, hW hS⟩))
end
end Go.Proofs.YtlikbmbcjipolaaDoor
