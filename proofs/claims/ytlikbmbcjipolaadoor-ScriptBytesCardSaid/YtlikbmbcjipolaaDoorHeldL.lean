/-
  A region that draws its order, whose last operation (number L, which waits for those that are taken first) may change what the others read: what is read is asked to stand only till then.
-/
import Derived.Test.YtlikbmbcjipolaaDoorBase
import Derived.OrdersHeld
import Derived.Deep.RegionHeld
namespace Go.Proofs.YtlikbmbcjipolaaDoor
set_option maxRecDepth 100000
open Go.RowKit

section
variable {P : Program} {ops : Array Oper} {Q : Exit → Act → World → Prop} {md : Region.Mode} {S : World → Prop} {L : Nat}

/-- In whatever order; behind each operation S, till L has come up. -/
def heldL (P : Program) (md : Region.Mode) (ops : Array Oper) (Q : Exit → Act → World → Prop) (S : World → Prop) (L : Nat) : Nat → Array Bool → Act → World → Prop
  | 0, done, a, w => Region.ready md ops done = [] ∧ Q .normal a w
  | n + 1, done, a, w => (Region.ready md ops done = [] → Q .normal a w) ∧ ∀ i ∈ Region.ready md ops done, wpOp P ops Q i (fun a' w' => ((done.setIfInBounds i true).getD L true = false → S w') ∧ heldL P md ops Q S L n (done.setIfInBounds i true) a' w') a w

theorem any_of_heldL : ∀ (n : Nat) (done : Array Bool) (a : Act) (w : World), heldL P md ops Q S L n done a w → wpAny P md ops Q n done a w
  | 0, _, _, _, h => h
  | n + 1, _, _, _, h => ⟨h.1, fun i hi => wpOp_mono (fun a' w' h' => any_of_heldL n _ a' w' h'.2) (h.2 i hi)⟩

/-- L waits for i. -/
def waitsFor (md : Region.Mode) (ops : Array Oper) (L i : Nat) : Bool := ((ops[L]?).map fun o => o.after.any fun e => Region.binds md e && e.on == i).getD false

theorem not_ready {i : Nat} {done : Array Bool} (hw : waitsFor md ops L i = true) (hi : done.getD i true = false) : L ∉ Region.ready md ops done := by
  intro h
  obtain ⟨_, o, ho, hall⟩ := mem_ready.1 h
  unfold waitsFor at hw
  rw [ho] at hw
  simp only [Option.map_some, Option.getD_some, Array.any_eq_true] at hw
  obtain ⟨k, hk, he⟩ := hw
  rw [Bool.and_eq_true, beq_iff_eq] at he
  have h1 := hall _ (Array.getElem_mem hk) he.1
  rw [he.2] at h1
  rcases Nat.lt_or_ge i done.size with h' | h'
  · simp [h'] at hi h1
    rw [hi] at h1
    cases h1
  · simp [Array.getElem?_eq_none h'] at h1

/-- What yields its value in every world that meets S, and is waited for by L, may be taken first. -/
theorem heldL_first {i : Nat} {oi : Oper} {v : Value} (hi : ops[i]? = some oi) (hsel : ∀ (j : Nat) (o : Oper) cs b, ops[j]? = some o → o.op ≠ .select cs b)
    (hQ : ∀ c a w, Q (.panic c) (a.put oi.dst v) w → Q (.panic c) a w) (hwait : waitsFor md ops L i = true) :
    ∀ (n : Nat) (done : Array Bool) (a : Act) (w : World),
      (∀ j oj, ops[j]? = some oj → j ≠ i → done.getD j true = false → (∀ e ∈ oj.after, Region.binds md e = true → e.on ≠ i) → oi.apart ops oj = true) →
      i ∈ Region.ready md ops done → done.getD L true = false → i ≠ L → YieldsIf P ops S oi v a → S w →
      heldL P md ops Q S L n (done.setIfInBounds i true) (a.put oi.dst v) w → heldL P md ops Q S L (n + 1) done a w := by
  intro n
  induction n with
  | zero =>
    intro done a w _ hr _ _ hy hS H
    refine ⟨fun h => absurd hr (by rw [h]; simp), fun j hj => ?_⟩
    by_cases e : j = i
    · subst e
      exact hy.wpOp hi hS ⟨fun _ => hS, H⟩
    · exact absurd (ready_mono hj e) (by rw [H.1]; simp)
  | succ n ih =>
    intro done a w hfree hr hLu hne hy hS H
    refine ⟨fun h => absurd hr (by rw [h]; simp), fun j hj => ?_⟩
    by_cases e : j = i
    · subst e
      exact hy.wpOp hi hS ⟨fun _ => hS, H⟩
    · have hiu := (mem_ready.1 hr).1
      have hjL : j ≠ L := fun h => not_ready hwait hiu (h ▸ hj)
      obtain ⟨hjun, oj, hoj, hall⟩ := mem_ready.1 hj
      have hnot : ∀ x ∈ oj.after, Region.binds md x = true → x.on ≠ i := fun x hx hb hxi => by
        have h1 := hall x hx hb
        rw [hxi] at h1
        rcases Nat.lt_or_ge i done.size with h' | h'
        · simp [h'] at hiu h1
          rw [hiu] at h1
          cases h1
        · simp [Array.getElem?_eq_none h'] at h1
      have h2 := wpOp_putIf hoj (hfree j oj hoj e hjun hnot) (fun cs b => hsel i oi cs b hi) (fun cs b => hsel j oj cs b hoj) hQ hy (H.2 j (ready_mono hj e))
      have hLj : (done.setIfInBounds j true).getD L true = false := by rw [getD_set_ne true hjL]; exact hLu
      have hLij : ((done.setIfInBounds i true).setIfInBounds j true).getD L true = false := by rw [getD_set_ne true hjL, getD_set_ne true hne]; exact hLu
      refine wpOp_mono (fun a' w' h3 => ?_) h2
      have hS' : S w' := h3.2.1 hLij
      refine ⟨fun _ => hS', ih (done.setIfInBounds j true) a' w' ?_ (ready_mono hr (Ne.symm e)) hLj hne h3.1 hS' ?_⟩
      · intro k ok hk hki hun hno
        refine hfree k ok hk hki ?_ hno
        by_cases hjk : j = k
        · subst hjk; exact hjun
        · rwa [getD_set_ne true hjk] at hun
      · rw [Array.setIfInBounds_comm _ _ e]
        exact h3.2.2

/-- As a move of a walk. -/
theorem heldL_take {i : Nat} {oi : Oper} {v : Value} {n N : Nat} {done : Array Bool} {a : Act} {w : World} {dst : Option Tmp} (hN : N = n + 1) (hi : ops[i]? = some oi) (hd : oi.dst = dst)
    (hs : Region.noSelect ops = true) (hf : Region.free md ops done i = true) (hr : (Region.ready md ops done).contains i = true) (hw : waitsFor md ops L i = true) (hL : (done.getD L true == false && i != L) = true)
    (hQ : ∀ c a w, Q (.panic c) (a.put dst v) w → Q (.panic c) a w) (hy : YieldsIf P ops S oi v a) (hS : S w)
    (h : heldL P md ops Q S L n (done.setIfInBounds i true) (a.put dst v) w) : heldL P md ops Q S L N done a w := by
  subst hN hd
  simp only [Bool.and_eq_true, beq_iff_eq, bne_iff_ne] at hL
  exact heldL_first hi (Region.noSelect_spec hs) hQ hw n done a w (Region.free_spec hi hf) (by simpa using hr) hL.1 hL.2 hy hS h

/-- One operation alone may come up: it is carried out; S is shown of the world behind it. -/
theorem heldL_step {i : Nat} {o : Oper} {n N : Nat} {done : Array Bool} {a : Act} {w : World} (hN : N = n + 1) (hr : Region.ready md ops done = [i]) (ho : ops[i]? = some o)
    (h : ∀ K : Act → World → Prop, (∀ a w, S w → (S w → heldL P md ops Q S L n (done.setIfInBounds i true) a w) → K a w) → if Region.wanted o (yielded ops a.tmps) = true then Oper.wp P o a w K Q else K (a.put o.dst undef) w) : heldL P md ops Q S L N done a w := by
  subst hN
  refine ⟨fun h0 => absurd hr (by rw [h0]; simp), fun j hj => ?_⟩
  rw [hr] at hj
  obtain rfl := List.mem_singleton.1 hj
  exact wpOp_step ho (fun K hK => h K (fun a w hS hW => hK a w ⟨fun _ => hS, hW hS⟩))

/-- L is the last one. -/
theorem heldL_last {o : Oper} {n N : Nat} {done : Array Bool} {a : Act} {w : World} (hN : N = n + 1) (hr : Region.ready md ops done = [L]) (hr2 : Region.ready md ops (done.setIfInBounds L true) = []) (hsz : L < done.size) (ho : ops[L]? = some o)
    (h : ∀ K : Act → World → Prop, (∀ a w, Q .normal a w → K a w) → if Region.wanted o (yielded ops a.tmps) = true then Oper.wp P o a w K Q else K (a.put o.dst undef) w) : heldL P md ops Q S L N done a w := by
  subst hN
  refine ⟨fun h0 => absurd hr (by rw [h0]; simp), fun j hj => ?_⟩
  rw [hr] at hj
  obtain rfl := List.mem_singleton.1 hj
  refine wpOp_step ho (fun K hK => h K (fun a w hN => hK a w ⟨fun hl => ?_, ?_⟩))
  · simp [hsz] at hl
  · cases n with
    | zero => exact ⟨hr2, hN⟩
    | succ n => exact ⟨fun _ => hN, by rw [hr2]; simp⟩

theorem region_heldL {id : Nat} {a : Act} {w : World} (N : Nat) (hN : ops.size = N) (hm : P.follows .mixedOrders = true) (hS : S w.drew)
    (h : S w.drew → heldL P .any ops Q S L N (Array.replicate N false) a w.drew) : (Code.region id ops true).wp P Q a w := by
  subst hN
  exact wp_region_any hm (any_of_heldL _ _ _ _ (h hS))
end
end Go.Proofs.YtlikbmbcjipolaaDoor
