/-
  Package packed: whether a state may be; its word; the state that a word is.
-/
import Derived.Test.YtaklikgdlalhdaaDoorKPhase
import Derived.Laws.StructEq
import Derived.Laws.ResultCell
import Derived.Laws.Rows
namespace Go.Proofs.YtaklikgdlalhdaaDoor
set_option maxRecDepth 100000
open Go.RowKit
set_option linter.unusedVariables false
set_option linter.unusedSimpArgs false

theorem upTo_any (x m : Int) (w : World) : Calls Tryd.prog 12 #[.int .i64 x, .int .i64 m] w fun e w' => e = .returned (.bool (decide (0 ≤ x ∧ x ≤ m))) ∧ w = w' := by
  by_cases h : 0 ≤ x
  · by_cases h2 : x ≤ m
    · have e : decide (0 ≤ x ∧ x ≤ m) = true := decide_eq_true ⟨h, h2⟩
      rw [e]
      go_enter Tryd.func12, Tryd.ntmps12
      go_wp2
      go_ret
      exact ⟨rfl, rfl⟩
    · have e : decide (0 ≤ x ∧ x ≤ m) = false := decide_eq_false fun h => h2 h.2
      rw [e]
      go_enter Tryd.func12, Tryd.ntmps12
      go_wp2
      go_ret
      exact ⟨rfl, rfl⟩
  · have e : decide (0 ≤ x ∧ x ≤ m) = false := decide_eq_false fun h' => h h'.1
    rw [e]
    go_enter Tryd.func12, Tryd.ntmps12
    go_wp2
    go_ret
    exact ⟨rfl, rfl⟩
theorem upTo_yes {x m : Int} (h : 0 ≤ x ∧ x ≤ m) (w : World) : Calls Tryd.prog 12 #[.int .i64 x, .int .i64 m] w fun e w' => e = .returned (.bool true) ∧ w = w' := by
  have := upTo_any x m w
  rwa [decide_eq_true h] at this
theorem upTo_no {x m : Int} (h : ¬ (0 ≤ x ∧ x ≤ m)) (w : World) : Calls Tryd.prog 12 #[.int .i64 x, .int .i64 m] w fun e w' => e = .returned (.bool false) ∧ w = w' := by
  have := upTo_any x m w
  rwa [decide_eq_false h] at this

theorem pkRight_yes (o : Bool) (f p q : Int) (w : World) (h : PhS.ok ⟨o, f, p, q⟩) : Calls Tryd.prog 9 #[.agg #[.bool o, .int .i64 f, .int .i64 p, .int .i64 q]] w fun e w' => e = .returned (.bool true) ∧ Below w.heap.size w w' := by
  obtain ⟨h1, h2, h3⟩ := h
  have H1 := Lib.hid (fun W => upTo_yes h1 W)
  have H2 := Lib.hid (fun W => upTo_yes h2 W)
  have H3 := Lib.hid (fun W => upTo_yes h3 W)
  clear h1 h2 h3
  go_enter Tryd.func9, Tryd.ntmps9
  go_wp2_with fail
  refine (H1.out _).mono ?_
  rintro e w1 ⟨rfl, rfl⟩
  go_wp2_with fail
  refine (H2.out _).mono ?_
  rintro e w1 ⟨rfl, rfl⟩
  go_wp2_with fail
  refine (H3.out _).mono ?_
  rintro e w1 ⟨rfl, rfl⟩
  go_wp2
  go_ret
  exact ⟨rfl, (Below.refl _ _).alloc (Nat.le_refl _) _⟩
theorem pkRight_no (o : Bool) (f p q : Int) (w : World) (h : ¬ PhS.ok ⟨o, f, p, q⟩) : Calls Tryd.prog 9 #[.agg #[.bool o, .int .i64 f, .int .i64 p, .int .i64 q]] w fun e w' => e = .returned (.bool false) ∧ Below w.heap.size w w' := by
  by_cases h1 : 0 ≤ f ∧ f ≤ 2147483647
  · have H1 := Lib.hid (fun W => upTo_yes h1 W)
    by_cases h2 : 0 ≤ p ∧ p ≤ 65535
    · have H2 := Lib.hid (fun W => upTo_yes h2 W)
      have h3 : ¬ (0 ≤ q ∧ q ≤ p) := fun h3 => h ⟨h1, h2, h3⟩
      have H3 := Lib.hid (fun W => upTo_no h3 W)
      clear h h1 h2 h3
      go_enter Tryd.func9, Tryd.ntmps9
      go_wp2_with fail
      refine (H1.out _).mono ?_
      rintro e w1 ⟨rfl, rfl⟩
      go_wp2_with fail
      refine (H2.out _).mono ?_
      rintro e w1 ⟨rfl, rfl⟩
      go_wp2_with fail
      refine (H3.out _).mono ?_
      rintro e w1 ⟨rfl, rfl⟩
      go_wp2
      go_ret
      exact ⟨rfl, (Below.refl _ _).alloc (Nat.le_refl _) _⟩
    · have H2 := Lib.hid (fun W => upTo_no h2 W)
      clear h h1 h2
      go_enter Tryd.func9, Tryd.ntmps9
      go_wp2_with fail
      refine (H1.out _).mono ?_
      rintro e w1 ⟨rfl, rfl⟩
      go_wp2_with fail
      refine (H2.out _).mono ?_
      rintro e w1 ⟨rfl, rfl⟩
      go_wp2
      go_ret
      exact ⟨rfl, (Below.refl _ _).alloc (Nat.le_refl _) _⟩
  · have H1 := Lib.hid (fun W => upTo_no h1 W)
    clear h h1
    go_enter Tryd.func9, Tryd.ntmps9
    go_wp2_with fail
    refine (H1.out _).mono ?_
    rintro e w1 ⟨rfl, rfl⟩
    go_wp2
    go_ret
    exact ⟨rfl, (Below.refl _ _).alloc (Nat.le_refl _) _⟩

theorem bcell {W w1 : World} (hb : Below W.heap.size W w1) : (∀ b o, b < W.heap.size → w1.cell? ⟨b, o, none⟩ = W.cell? ⟨b, o, none⟩) ∧ (∀ b o, b < W.heap.size → w1.frozen? ⟨b, o, none⟩ = W.frozen? ⟨b, o, none⟩) :=
  ⟨fun b o h => hb.cell (p := ⟨b, o, none⟩) h, fun b o h => hb.frozen (p := ⟨b, o, none⟩) h⟩

theorem ret_word {a b : Int} (h : a = b) : Ending.returned (.tuple #[.int .u64 a, .nilIface]) = .returned (.tuple #[.int .u64 b, .nilIface]) := by rw [h]
theorem u64_twice (q : Int) : IntKind.u64.wrap (IntKind.u64.wrap q) = IntKind.u64.wrap q := by simp [IntKind.wrap, IntKind.signed, IntKind.bits]
theorem pkWord_yes (o : Bool) (f p q : Int) (w : World) (h : PhS.ok ⟨o, f, p, q⟩) : Calls Tryd.prog 5 #[.agg #[.bool o, .int .i64 f, .int .i64 p, .int .i64 q]] w fun e w' => e = .returned (.tuple #[.int .u64 (PhS.word ⟨o, f, p, q⟩), .nilIface]) ∧ Below w.heap.size w w' := by
  have HR := Lib.hid (fun W => pkRight_yes o f p q W h)
  have H := Lib.hid h
  clear h
  cases o
  · go_enter Tryd.func5, Tryd.ntmps5
    go_wp2_with fail
    refine (HR.out _).mono ?_
    rintro e w1 ⟨rfl, hb⟩
    obtain ⟨hc, hf⟩ := bcell hb
    have HB := Lib.hid hb
    clear hb HR
    go_wp2
    go_ret2
    exact ⟨ret_word (by first | exact word_false H.out | (rw [u64_twice]; exact word_false H.out)), ((Below.refl _ _).alloc (Nat.le_refl _) _).trans (HB.out.mono (by simp))⟩
  · go_enter Tryd.func5, Tryd.ntmps5
    go_wp2_with fail
    refine (HR.out _).mono ?_
    rintro e w1 ⟨rfl, hb⟩
    obtain ⟨hc, hf⟩ := bcell hb
    have HB := Lib.hid hb
    clear hb HR
    go_wp2
    go_ret2
    exact ⟨ret_word (by first | exact word_true H.out | (rw [u64_twice]; exact word_true H.out)), ((Below.refl _ _).alloc (Nat.le_refl _) _).trans (HB.out.mono (by simp))⟩
theorem pkWord_no (o : Bool) (f p q : Int) (w : World) (h : ¬ PhS.ok ⟨o, f, p, q⟩) : Calls Tryd.prog 5 #[.agg #[.bool o, .int .i64 f, .int .i64 p, .int .i64 q]] w fun e w' => e = .returned (.tuple #[.int .u64 0, .iface 25 (.int .i64 1)]) ∧ Below w.heap.size w w' := by
  have HR := Lib.hid (fun W => pkRight_no o f p q W h)
  clear h
  go_enter Tryd.func5, Tryd.ntmps5
  go_wp2_with fail
  refine (HR.out _).mono ?_
  rintro e w1 ⟨rfl, hb⟩
  have HB := Lib.hid hb
  clear hb HR
  go_wp2
  go_ret2
  exact ⟨rfl, ((Below.refl _ _).alloc (Nat.le_refl _) _).trans (HB.out.mono (by simp))⟩

/-- A block that is a state. -/
def PhAt (w : World) (b : Nat) (o : Bool) (f p q : Int) : Prop := w.heap[b]? = some (.cells #[.bool o, .int .i64 f, .int .i64 p, .int .i64 q] 23 (0, 0))
section
variable {w w' : World} {b B : Nat} {o : Bool} {f p q : Int}
theorem PhAt.lt (h : PhAt w b o f p q) : b < w.heap.size := by
  unfold PhAt at h
  exact (Array.getElem?_eq_some_iff.1 h).1
theorem PhAt.new (w : World) (o : Bool) (f p q : Int) : PhAt (w.alloc (.cells #[.bool o, .int .i64 f, .int .i64 p, .int .i64 q] 23)) w.heap.size o f p q := heap_alloc_new w _
theorem PhAt.new2 (w : World) (O : Obj) (o : Bool) (f p q : Int) : PhAt ((w.alloc O).alloc (.cells #[.bool o, .int .i64 f, .int .i64 p, .int .i64 q] 23)) (w.heap.size + 1) o f p q := by
  have := PhAt.new (w.alloc O) o f p q
  rwa [World.size_alloc] at this
theorem PhAt.new3 (w : World) (O O2 : Obj) (o : Bool) (f p q : Int) : PhAt (((w.alloc O).alloc O2).alloc (.cells #[.bool o, .int .i64 f, .int .i64 p, .int .i64 q] 23)) (w.heap.size + 1 + 1) o f p q := by
  have := PhAt.new ((w.alloc O).alloc O2) o f p q
  rwa [World.size_alloc, World.size_alloc] at this
theorem PhAt.drew (h : PhAt w b o f p q) : PhAt w.drew b o f p q := h
theorem PhAt.below (h : PhAt w b o f p q) (hb : Below B w w') (hB : b < B) : PhAt w' b o f p q := (hb.block b hB).trans h
theorem PhAt.alloc (h : PhAt w b o f p q) (O : Obj) : PhAt (w.alloc O) b o f p q := (Below.heap_alloc w O b h.lt).trans h
theorem PhAt.far (h : PhAt w b o f p q) {a : Addr} (hn : b ≠ a.block) (v : Value) : PhAt (w.setCell a v) b o f p q := (Below.heap_setCell w a v b hn).trans h
theorem PhAt.cells (h : PhAt w b o f p q) : w.cell? ⟨b, 0, none⟩ = some (.bool o) ∧ w.cell? ⟨b, 1, none⟩ = some (.int .i64 f) ∧ w.cell? ⟨b, 2, none⟩ = some (.int .i64 p) ∧ w.cell? ⟨b, 3, none⟩ = some (.int .i64 q) :=
  ⟨cell_of_row w b 0 _ _ _ h, cell_of_row w b 1 _ _ _ h, cell_of_row w b 2 _ _ _ h, cell_of_row w b 3 _ _ _ h⟩
theorem PhAt.frozen (h : PhAt w b o f p q) (i : Nat) : w.frozen? ⟨b, i, none⟩ = false := frozen_of_row w b i _ _ h
theorem PhAt.set0 (h : PhAt w b o f p q) (x : Bool) : PhAt (w.setCell ⟨b, 0, none⟩ (.bool x)) b x f p q := heap_setCell_same w b 0 _ _ _ h
theorem PhAt.set1 (h : PhAt w b o f p q) (x : Int) : PhAt (w.setCell ⟨b, 1, none⟩ (.int .i64 x)) b o x p q := heap_setCell_same w b 1 _ _ _ h
theorem PhAt.set2 (h : PhAt w b o f p q) (x : Int) : PhAt (w.setCell ⟨b, 2, none⟩ (.int .i64 x)) b o f x q := heap_setCell_same w b 2 _ _ _ h
theorem PhAt.set3 (h : PhAt w b o f p q) (x : Int) : PhAt (w.setCell ⟨b, 3, none⟩ (.int .i64 x)) b o f p x := heap_setCell_same w b 3 _ _ _ h
/-- A whole state is stored. -/
def put4 (w : World) (b : Nat) (o : Bool) (f p q : Int) : World := (((w.setCell ⟨b, 0, none⟩ (.bool o)).setCell ⟨b, 1, none⟩ (.int .i64 f)).setCell ⟨b, 2, none⟩ (.int .i64 p)).setCell ⟨b, 3, none⟩ (.int .i64 q)
theorem PhAt.set4 (h : PhAt w b o f p q) (o' : Bool) (f' p' q' : Int) : PhAt (put4 w b o' f' p' q') b o' f' p' q' := (((h.set0 o').set1 f').set2 p').set3 q'
theorem PhAt.far4 {c : Nat} (h : PhAt w b o f p q) (hn : b ≠ c) (o' : Bool) (f' p' q' : Int) : PhAt (put4 w c o' f' p' q') b o f p q := (((h.far (a := ⟨c, 0, none⟩) hn _).far (a := ⟨c, 1, none⟩) hn _).far (a := ⟨c, 2, none⟩) hn _).far (a := ⟨c, 3, none⟩) hn _
theorem below4 {W : World} (h : Below B W w) (hB : B ≤ b) (o : Bool) (f p q : Int) : Below B W (put4 w b o f p q) := (((h.setCell hB _).setCell hB _).setCell hB _).setCell hB _
theorem size4 (w : World) (b : Nat) (o : Bool) (f p q : Int) : (put4 w b o f p q).heap.size = w.heap.size := by simp [put4]
theorem PhAt.load (h : PhAt w b o f p q) : (loadVar 23 ⟨b, 0, none⟩).run Tryd.prog w = .ok (.agg #[.bool o, .int .i64 f, .int .i64 p, .int .i64 q]) w :=
  run_loadVar_row (P := Tryd.prog) w b 23 23 _ _ _ h Tryd.underlying23 rfl (by kernel_rfl)
theorem PhAt.res1 {fn : Func} {p0 : Tmp} (h : PhAt w b o f p q) (hr : fn.results = #[.cell p0 23]) (tmps : Array Value) (hp : tmps.getD p0 undef = .pointer (some ⟨b, 0, none⟩)) :
    (results fn tmps).run Tryd.prog w = .ok (.agg #[.bool o, .int .i64 f, .int .i64 p, .int .i64 q]) w :=
  results_cell_row hr _ _ b 23 _ _ _ hp h Tryd.underlying23 rfl (by kernel_rfl)
theorem PhAt.res2 {fn : Func} {p0 u : Tmp} (h : PhAt w b o f p q) (hr : fn.results = #[.cell p0 23, .tmp u]) (tmps : Array Value) (hp : tmps.getD p0 undef = .pointer (some ⟨b, 0, none⟩)) {v : Value} (hu : tmps.getD u undef = v) :
    (results fn tmps).run Tryd.prog w = .ok (.tuple #[.agg #[.bool o, .int .i64 f, .int .i64 p, .int .i64 q], v]) w := by
  rw [results_cell_tmp hr, hp, hu]
  have hld := h.load
  simp [asAddr, Result.andThen, hld]
theorem PhAt.res3 {fn : Func} {p0 u x : Tmp} (h : PhAt w b o f p q) (hr : fn.results = #[.cell p0 23, .tmp u, .tmp x]) (tmps : Array Value) (hp : tmps.getD p0 undef = .pointer (some ⟨b, 0, none⟩)) {v y : Value} (hu : tmps.getD u undef = v) (hx : tmps.getD x undef = y) :
    (results fn tmps).run Tryd.prog w = .ok (.tuple #[.agg #[.bool o, .int .i64 f, .int .i64 p, .int .i64 q], v, y]) w := by
  have hld := h.load
  have hp' : tmps[p0]?.getD undef = .pointer (some ⟨b, 0, none⟩) := by simpa using hp
  have hu' : tmps[u]?.getD undef = v := by simpa using hu
  have hx' : tmps[x]?.getD undef = y := by simpa using hx
  simp only [results, hr]
  simp [Sem.run_bind, Result.andThen, asAddr, hld, hp', hu', hx']
end

theorem pkOf_yes {W : Int} (w : World) (h0 : 0 ≤ W) (h1 : W < 18446744073709551616) {o : Bool} {f p q : Int} (hx : phOf W = ⟨o, f, p, q⟩) (h : PhS.ok ⟨o, f, p, q⟩) : Calls Tryd.prog 7 #[.int .u64 W] w fun e w' => e = .returned (.tuple #[.agg #[.bool o, .int .i64 f, .int .i64 p, .int .i64 q], .nilIface]) ∧ Below w.heap.size w w' := by
  have HR := Lib.hid (fun w => pkRight_yes o f p q w h)
  obtain ⟨e1, e2, e3, e4⟩ := of_bits h0 h1 hx
  have HX := Lib.hid (((Below.refl w.heap.size w).alloc (Nat.le_refl _) (.cells #[.bool false, .int .i64 0, .int .i64 0, .int .i64 0] 23)).alloc (by simp) (.cells #[.bool o, .int .i64 f, .int .i64 p, .int .i64 q] 23))
  have HP := Lib.hid ((PhAt.new w false 0 0 0).alloc (.cells #[.bool o, .int .i64 f, .int .i64 p, .int .i64 q] 23))
  clear h hx
  go_enter Tryd.func7, Tryd.ntmps7
  go_wp2_with fail
  clear e1 e2 e3 e4 h0 h1
  refine (HR.out _).mono ?_
  rintro e w1 ⟨rfl, hb⟩
  obtain ⟨hc, hf⟩ := bcell hb
  have HB := Lib.hid (HX.out.trans (hb.mono (by simp; omega)))
  have HP1 := Lib.hid (HP.out.below hb (by simp; omega))
  have hz : w.heap.size + 1 < w1.heap.size := by have := hb.size; simp at this; omega
  clear hb HR
  go_wp2
  --MB
  exact bodyPost_ret ((HP1.out.set4 o f p q).res2 (fn := Tryd.f7) (p0 := 2) (u := 3) (v := .nilIface) (by kernel_rfl) _ (by rfl) (by rfl)) rfl ⟨rfl, below4 HB.out (Nat.le_refl _) o f p q⟩
theorem pkOf_no {W : Int} (w : World) (h0 : 0 ≤ W) (h1 : W < 18446744073709551616) {o : Bool} {f p q : Int} (hx : phOf W = ⟨o, f, p, q⟩) (h : ¬ PhS.ok ⟨o, f, p, q⟩) : Calls Tryd.prog 7 #[.int .u64 W] w fun e w' => e = .returned (.tuple #[.agg #[.bool false, .int .i64 0, .int .i64 0, .int .i64 0], .iface 25 (.int .i64 3)]) ∧ Below w.heap.size w w' := by
  have HR := Lib.hid (fun w => pkRight_no o f p q w h)
  obtain ⟨e1, e2, e3, e4⟩ := of_bits h0 h1 hx
  have HX := Lib.hid (((Below.refl w.heap.size w).alloc (Nat.le_refl _) (.cells #[.bool false, .int .i64 0, .int .i64 0, .int .i64 0] 23)).alloc (by simp) (.cells #[.bool o, .int .i64 f, .int .i64 p, .int .i64 q] 23))
  have HP := Lib.hid ((PhAt.new w false 0 0 0).alloc (.cells #[.bool o, .int .i64 f, .int .i64 p, .int .i64 q] 23))
  clear h hx
  go_enter Tryd.func7, Tryd.ntmps7
  go_wp2_with fail
  clear e1 e2 e3 e4 h0 h1
  refine (HR.out _).mono ?_
  rintro e w1 ⟨rfl, hb⟩
  obtain ⟨hc, hf⟩ := bcell hb
  have HB := Lib.hid (HX.out.trans (hb.mono (by simp; omega)))
  have HP1 := Lib.hid (HP.out.below hb (by simp; omega))
  have hz : w.heap.size + 1 < w1.heap.size := by have := hb.size; simp at this; omega
  clear hb HR
  go_wp2
  --MC
  exact bodyPost_ret ((HP1.out.set4 false 0 0 0).res2 (fn := Tryd.f7) (p0 := 2) (u := 3) (v := .iface 25 (.int .i64 3)) (by kernel_rfl) _ (by rfl) (by rfl)) rfl ⟨rfl, below4 HB.out (Nat.le_refl _) false 0 0 0⟩
end Go.Proofs.YtaklikgdlalhdaaDoor
