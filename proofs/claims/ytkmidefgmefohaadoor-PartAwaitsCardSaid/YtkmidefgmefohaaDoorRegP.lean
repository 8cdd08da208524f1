/-
  A region that draws its order, walked by hand: operations that look at no memory by the kernel, many at once; calls by their contracts. (No program is named here.)
-/
import Derived.Test.YtkmidefgmefohaaDoorBase
import Derived.RegionTactic
namespace Go.Proofs.YtkmidefgmefohaaDoor
set_option maxRecDepth 100000
set_option linter.unusedVariables false

section
variable {P : Program} {ops : Array Oper} {Q : Exit → Act → World → Prop} {md : Region.Mode}

/-- The frame behind operation i, which came to v. -/
def takeOne (ops : Array Oper) (a : Act) (i : Nat) (v : Value) : Act :=
  match ops[i]? with
  | some o => a.put o.dst v
  | none => a
def takeAct (ops : Array Oper) : List (Nat × Value) → Act → Act
  | [], a => a
  | x :: l, a => takeAct ops l (takeOne ops a x.1 x.2)

/-- Any two operations, of which none waits for the other, lie apart. -/
def allApart (md : Region.Mode) (ops : Array Oper) : Bool :=
  (List.range ops.size).all fun i => (List.range ops.size).all fun j => i == j || match ops[i]?, ops[j]? with
    | some oi, some oj => oi.after.any (fun e => Region.binds md e && e.on == j) || oj.after.any (fun e => Region.binds md e && e.on == i) || oi.apart ops oj
    | _, _ => true

/-- May it come up? -/
def mayOne (md : Region.Mode) (ops : Array Oper) (listed : Array Bool) (i : Nat) : Bool :=
  !listed.getD i true && ((ops[i]?).map (·.after.all fun e => !Region.binds md e || listed.getD e.on false)).getD false

theorem free_of {i : Nat} {listed : Array Bool} (ha : allApart md ops = true) (hm : mayOne md ops listed i = true) :
    ∃ o, ops[i]? = some o ∧ Region.free md ops listed i = true ∧ (Region.ready md ops listed).contains i = true := by
  unfold mayOne at hm
  rw [Bool.and_eq_true] at hm
  obtain ⟨h1, h2⟩ := hm
  cases ho : ops[i]? with
  | none => rw [ho] at h2; cases h2
  | some o =>
    rw [ho] at h2
    simp only [Option.map_some, Option.getD_some] at h2
    have hi : i < ops.size := (Array.getElem?_eq_some_iff.1 ho).1
    refine ⟨o, rfl, ?_, ?_⟩
    · unfold Region.free
      rw [ho]
      simp only [List.all_eq_true, List.mem_range]
      intro j hj
      by_cases e : j = i
      · simp [e]
      by_cases hl : listed.getD j true = true
      · simp [hl]
      have hoj : ops[j]? = some ops[j] := Array.getElem?_eq_getElem hj
      have h3 := ha
      unfold allApart at h3
      simp only [List.all_eq_true, List.mem_range] at h3
      have h4 := h3 i hi j hj
      rw [ho, hoj] at h4
      simp only [Bool.or_eq_true, beq_iff_eq] at h4
      rw [hoj]
      simp only [Bool.or_eq_true, beq_iff_eq]
      rcases h4 with h4 | (h4 | h4) | h4
      · exact absurd h4.symm e
      · exfalso
        rw [Array.any_eq_true] at h4
        obtain ⟨k, hk, h5⟩ := h4
        rw [Bool.and_eq_true, beq_iff_eq] at h5
        rw [Array.all_eq_true] at h2
        have h6 := h2 k hk
        rw [h5.1] at h6
        simp only [Bool.not_true, Bool.false_or] at h6
        rw [h5.2] at h6
        rcases Nat.lt_or_ge j listed.size with h' | h'
        · simp [h'] at hl h6
          rw [h6] at hl
          cases hl
        · simp [Array.getElem?_eq_none h'] at h6
      · exact .inr (.inl h4)
      · exact .inr (.inr h4)
    · simp only [List.contains_iff_mem]
      unfold Region.ready
      rw [List.mem_filter]
      refine ⟨List.mem_range.2 hi, ?_⟩
      rw [Bool.and_eq_true]
      exact ⟨h1, by rw [ho]; exact h2⟩

/-- May they be taken first, in turn? -/
def mayTake (md : Region.Mode) (ops : Array Oper) : List Nat → Array Bool → Bool
  | [], _ => true
  | i :: l, listed => mayOne md ops listed i && mayTake md ops l (listed.setIfInBounds i true)
def listAll : List Nat → Array Bool → Array Bool
  | [], listed => listed
  | i :: l, listed => listAll l (listed.setIfInBounds i true)

/-- What they come to, and what they are to come to, in whatever world. -/
def runsTo (P : Program) (ops : Array Oper) (w : World) : List (Nat × Value) → Act → List (Result Next)
  | [], _ => []
  | x :: l, a => (match ops[x.1]? with
    | some o => if Region.wanted o (yielded ops a.tmps) = true then (execOp a.eval o).run P w else .ok (.value undef) w
    | none => .ok (.value undef) w) :: runsTo P ops w l (takeOne ops a x.1 x.2)

theorem any_take : ∀ (l : List (Nat × Value)) {fuel : Nat} {listed : Array Bool} {a : Act} {w : World} (hs : Region.noSelect ops = true) (ha : allApart md ops = true) (hm : mayTake md ops (l.map (·.1)) listed = true)
    (hQ : ∀ d v c a w, Q (.panic c) (a.put d v) w → Q (.panic c) a w) (hr : ∀ w, runsTo P ops w l a = l.map fun x => .ok (.value x.2) w)
    (h : wpAny P md ops Q fuel (listAll (l.map (·.1)) listed) (takeAct ops l a) w), wpAny P md ops Q (fuel + l.length) listed a w
  | [], _, _, _, _, _, _, _, _, _, h => h
  | x :: l, fuel, listed, a, w, hs, ha, hm, hQ, hr, h => by
    simp only [List.map_cons, mayTake, Bool.and_eq_true] at hm
    obtain ⟨hi, hm⟩ := hm
    obtain ⟨o, ho, hf, hc⟩ := free_of ha hi
    have h1 : ∀ w, (match ops[x.1]? with
      | some o => if Region.wanted o (yielded ops a.tmps) = true then (execOp a.eval o).run P w else .ok (.value undef) w
      | none => .ok (.value undef) w) = .ok (.value x.2) w := fun w => (List.cons.inj (hr w)).1
    have h2 := fun w => (List.cons.inj (hr w)).2
    rw [ho] at h1
    simp only at h1
    have h3 := any_take l hs ha hm hQ h2 h
    unfold takeOne at h3
    rw [ho] at h3
    simp only at h3
    by_cases hw : Region.wanted o (yielded ops a.tmps) = true
    · refine wpAny_take ho hs hf hc (hQ _ _) (.inl ⟨hw, fun w => ?_⟩) h3
      have := h1 w
      rwa [if_pos hw] at this
    · refine wpAny_take ho hs hf hc (hQ _ _) (.inr ⟨by simpa using hw, ?_⟩) h3
      have := h1 default
      rw [if_neg hw] at this
      injection this with this
      injection this with this
      exact this.symm

/-- One whose value is told. -/
theorem any_told (i : Nat) (v : Value) {o : Oper} {fuel : Nat} {listed : Array Bool} {a : Act} {w : World} (ho : ops[i]? = some o) (hs : Region.noSelect ops = true) (ha : allApart md ops = true) (hm : mayOne md ops listed i = true)
    (hQ : ∀ d v c a w, Q (.panic c) (a.put d v) w → Q (.panic c) a w) (hw : Region.wanted o (yielded ops a.tmps) = true) (hv : ∀ w, (execOp a.eval o).run P w = .ok (.value v) w)
    (h : wpAny P md ops Q fuel (listed.setIfInBounds i true) (a.put o.dst v) w) : wpAny P md ops Q (fuel + 1) listed a w := by
  obtain ⟨o', ho', hf, hc⟩ := free_of ha hm
  exact wpAny_take ho hs hf hc (hQ _ _) (.inl ⟨hw, hv⟩) h

/-- The region's beginning: what is asked of all its operations, once. -/
theorem region_begin {id : Nat} {a : Act} {w : World} (hm : P.follows .mixedOrders = true) (hs : Region.noSelect ops = true) (ha : allApart .any ops = true)
    (h : Region.noSelect ops = true → allApart .any ops = true → wpAny P .any ops Q ops.size (Array.replicate ops.size false) a { w with drawn := w.drawn + 1 }) : (Code.region id ops true).wp P Q a w := wp_region_any hm (h hs ha)

/-- A value that is known otherwise. -/
theorem told_as {S : Sem Next} {v v' : Value} (h : v' = v) (hv : ∀ w, S.run P w = .ok (.value v') w) : ∀ w, S.run P w = .ok (.value v) w := fun w => by rw [hv w, h]
theorem told_if {S : Sem Next} {b b' : Bool} (h : b' = b) (hv : ∀ w, S.run P w = .ok (.value (.bool b')) w) : ∀ w, S.run P w = .ok (.value (.bool b)) w := fun w => by rw [hv w, h]

/-- A call, where nothing else may come up. -/
theorem any_call (i : Nat) {f : FuncId} {args : Array Value} {o : Oper} {fuel : Nat} {listed : Array Bool} {a : Act} {w : World} (ho : ops[i]? = some o) (hr : Region.ready md ops listed = [i])
    (hw : Region.wanted o (yielded ops a.tmps) = true) (hv : (execOp a.eval o).run P w = .ok (.enter f args) w)
    (h : Calls P f args w fun
      | .returned v, w'' => wpAny P md ops Q fuel (listed.setIfInBounds i true) (a.put o.dst v) w''
      | .panicked chain, w'' => Q (.panic chain) a w''
      | .outgrown, _ => LetsOut Q) : wpAny P md ops Q (fuel + 1) listed a w := by
  refine wpAny_all hr (by simp) fun j hj => ?_
  rw [List.mem_singleton.1 hj]
  unfold wpOp
  simp only [ho, hw, if_true]
  unfold Oper.wp
  rw [hv]
  exact .inl h

/-- Behind the region: the function's end. -/
theorem ret_known {fn : Func} {R : Ending → World → Prop} {K : Act → World → Prop} {a : Act} {w : World} (v : Value) (hK : ∀ a w, Code.wp P Code.ret (bodyPost P fn R) a w → K a w)
    (hr : (results fn a.tmps).run P w = .ok v w) (hd : a.defers = []) (hR : R (.returned v) w) : K a w := hK _ _ (wp_ret ⟨hd, v, hr, hR⟩)
end
end Go.Proofs.YtkmidefgmefohaaDoor
