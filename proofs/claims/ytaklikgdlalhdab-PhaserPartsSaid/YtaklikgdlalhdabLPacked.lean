/-
  The laws of chapter 18: what packing is told first.
-/
import Derived.Test.YtaklikgdlalhdabPkCode
import Derived.Test.YtaklikgdlalhdabKPhaser
namespace Go.Proofs.Ytaklikgdlalhdab
open Go.RowKit
set_option linter.unusedVariables false
set_option linter.unusedSimpArgs false

/-- Two states are the same. -/
def phEq (o : Bool) (f p q : Int) (o' : Bool) (f' p' q' : Int) : Bool := o == o' && (f == f' && (p == p' && q == q'))
theorem phEq_iff {o : Bool} {f p q : Int} {o' : Bool} {f' p' q' : Int} : phEq o f p q o' f' p' q' = true ↔ PhS.mk o f p q = PhS.mk o' f' p' q' := by
  unfold phEq
  simp [PhS.mk.injEq]
theorem phEq_same (o : Bool) (f p q : Int) : phEq o f p q o f p q = true := phEq_iff.2 rfl
theorem fieldsPh : (Try.prog.fieldsOf 23).toList.map (fun f => (f.name, f.type, f.offset)) = [("Over", 4, 0), ("Phase", 3, 1), ("Parties", 3, 2), ("Waiting", 3, 3)] := by kernel_rfl
theorem run_phEq (o : Bool) (f p q : Int) (o' : Bool) (f' p' q' : Int) (w : World) :
    (binOp .eql 23 (.agg #[.bool o, .int .i64 f, .int .i64 p, .int .i64 q]) (.agg #[.bool o', .int .i64 f', .int .i64 p', .int .i64 q'])).run Try.prog w = .ok (.bool (phEq o f p q o' f' p' q')) w := by
  rw [run_eql_struct, run_equalIn_struct w 9999 23 _ _ (by kernel_rfl) (by kernel_rfl)]
  simp [Program.fieldsOf, Try.underlying23, Op.eqFields, go_sem, Try.underlying3, Try.underlying4]
  unfold phEq
  by_cases h1 : o = o'
  · by_cases h2 : f = f'
    · by_cases h3 : p = p'
      · by_cases h4 : q = q' <;> simp [h1, h2, h3, h4]
      · simp [h1, h2, h3]
    · simp [h1, h2]
  · simp [h1]
theorem run_phSame (o : Bool) (f p q : Int) (w : World) :
    (binOp .eql 23 (.agg #[.bool o, .int .i64 f, .int .i64 p, .int .i64 q]) (.agg #[.bool o, .int .i64 f, .int .i64 p, .int .i64 q])).run Try.prog w = .ok (.bool true) w := by
  rw [run_phEq, phEq_same]

theorem packs_any (w : World) : Calls Try.prog 8 #[] w fun e w' => e = .returned (.bool true) ∧ Below w.heap.size w w' := by
  have HW := Lib.hid (fun W => pkWord_yes false 3 2 1 W ⟨⟨by decide, by decide⟩, ⟨by decide, by decide⟩, by decide, by decide⟩)
  rw [show PhS.word ⟨false, 3, 2, 1⟩ = 12885032961 from by decide] at HW
  have HO := Lib.hid (fun W => pkOf_yes (W := 9223372058329612288) (o := true) (f := 5) (p := 0) (q := 0) W (by decide) (by decide) (PhS.ext_iff'.2 ⟨by decide, by decide, by decide, by decide⟩) ⟨⟨by decide, by decide⟩, ⟨by decide, by decide⟩, by decide, by decide⟩)
  go_enter Try.func8, Try.ntmps8
  go_wp2_with fail
  refine (HW.out _).mono ?_
  rintro e w1 ⟨rfl, hb⟩
  have HB := Lib.hid hb
  clear hb HW
  go_wp2_with fail
  refine (HO.out _).mono ?_
  rintro e w2 ⟨rfl, hb⟩
  have HB2 := Lib.hid (HB.out.trans (hb.mono HB.out.size))
  clear hb HO HB
  go_wp2
  --MB
  go_ret
  exact ⟨rfl, HB2.out.alloc HB2.out.size _⟩

/-! PIECE BY PIECE. -/
structure Four (w : World) (b c : Nat) (o : Bool) (f p q : Int) : Prop where
  a0 : PhAt w b o f p q
  a1 : PhAt w c o f (p + 1) q
  a2 : PhAt w (c + 1) o f (p + 1) (q + 1)
  a3 : PhAt w (c + 1 + 1) o (f + 1) p q
theorem Four.below {w w' : World} {b c : Nat} {o : Bool} {f p q : Int} (h : Four w b c o f p q) (hb : Below w.heap.size w w') : Four w' b c o f p q :=
  ⟨h.a0.below hb h.a0.lt, h.a1.below hb h.a1.lt, h.a2.below hb h.a2.lt, h.a3.below hb h.a3.lt⟩
def threeW (w : World) (o : Bool) (f p q : Int) : World := ((w.alloc (.cells #[.bool o, .int .i64 f, .int .i64 (p + 1), .int .i64 q] 23)).alloc (.cells #[.bool o, .int .i64 f, .int .i64 (p + 1), .int .i64 (q + 1)] 23)).alloc (.cells #[.bool o, .int .i64 (f + 1), .int .i64 p, .int .i64 q] 23)
theorem Four.new {w : World} {b : Nat} {o : Bool} {f p q : Int} (h : PhAt w b o f p q) : Four (threeW w o f p q) b w.heap.size o f p q :=
  ⟨((h.alloc _).alloc _).alloc _, ((PhAt.new _ _ _ _ _).alloc _).alloc _, (PhAt.new2 _ _ _ _ _ _).alloc _, PhAt.new3 _ _ _ _ _ _ _⟩
theorem word_parts {o : Bool} {f p q : Int} : PhS.word ⟨o, f, p + 1, q⟩ = PhS.word ⟨o, f, p, q⟩ + 65536 ∧ PhS.word ⟨o, f, p + 1, q + 1⟩ = PhS.word ⟨o, f, p + 1, q⟩ + 1 ∧ PhS.word ⟨o, f + 1, p, q⟩ = PhS.word ⟨o, f, p, q⟩ + 4294967296 := by
  unfold PhS.word
  refine ⟨?_, ?_, ?_⟩
  · show q + 65536 * (p + 1) + 4294967296 * f + overW o = q + 65536 * p + 4294967296 * f + overW o + 65536
    omega
  · show q + 1 + 65536 * (p + 1) + 4294967296 * f + overW o = q + 65536 * (p + 1) + 4294967296 * f + overW o + 1
    omega
  · show q + 65536 * p + 4294967296 * (f + 1) + overW o = q + 65536 * p + 4294967296 * f + overW o + 4294967296
    omega
end Go.Proofs.Ytaklikgdlalhdab
