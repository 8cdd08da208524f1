/-
  A phaser's states, as words, and what comes of calls: plain functions of chapters 18 and 19. Package packed: whether a state may be; its word; the state that a word is. What comes of calls of a phaser, one behind the other: plain facts for the laws of chapter 19.
-/
import Derived.Test.YtdhlmgoodpepeaaGreatDoorQA
import Derived.Laws.BitsLemmas
import Derived.Laws.BitsAllLaws
import Derived.Laws.StructEq
import Derived.Laws.ResultCell
import Derived.Laws.Rows
namespace Go.Proofs.YtdhlmgoodpepeaaGreatDoor
set_option maxRecDepth 100000
open Go.RowKit

/-- A phaser's state. -/
structure PhS where
  o : Bool
  f : Int
  p : Int
  q : Int
theorem PhS.ext_iff' {x y : PhS} : x = y ↔ x.o = y.o ∧ x.f = y.f ∧ x.p = y.p ∧ x.q = y.q := by
  constructor
  · rintro rfl
    exact ⟨rfl, rfl, rfl, rfl⟩
  · obtain ⟨a, b, c, d⟩ := x
    obtain ⟨a', b', c', d'⟩ := y
    rintro ⟨rfl, rfl, rfl, rfl⟩
    rfl
/-- It may be. -/
def PhS.ok (x : PhS) : Prop := (0 ≤ x.f ∧ x.f ≤ 2147483647) ∧ (0 ≤ x.p ∧ x.p ≤ 65535) ∧ (0 ≤ x.q ∧ x.q ≤ x.p)
def overW (o : Bool) : Int := match o with
  | true => 9223372036854775808
  | false => 0
/-- Its word. -/
def PhS.word (x : PhS) : Int := x.q + 65536 * x.p + 4294967296 * x.f + overW x.o
/-- A word's parts. -/
def phOf (w : Int) : PhS := ⟨decide (9223372036854775808 ≤ w), w / 4294967296 % 2147483648, w / 65536 % 65536, w % 65536⟩
theorem overW_cases (o : Bool) : (o = true ∧ overW o = 9223372036854775808) ∨ (o = false ∧ overW o = 0) := by
  cases o
  · exact .inr ⟨rfl, rfl⟩
  · exact .inl ⟨rfl, rfl⟩
theorem PhS.word_lt {x : PhS} (h : x.ok) : 0 ≤ x.word ∧ x.word < 18446744073709551616 := by
  obtain ⟨⟨a, b⟩, ⟨c, d⟩, e, f⟩ := h
  unfold PhS.word
  rcases overW_cases x.o with ⟨_, h⟩ | ⟨_, h⟩ <;> rw [h] <;> omega
theorem of_word {x : PhS} (h : x.ok) : phOf x.word = x := by
  obtain ⟨⟨a, b⟩, ⟨c, d⟩, e, f⟩ := h
  unfold PhS.word phOf
  rw [PhS.ext_iff']
  rcases overW_cases x.o with ⟨h1, h⟩ | ⟨h1, h⟩ <;> rw [h, h1]
  · exact ⟨decide_eq_true (by omega), by show _ / _ % _ = _; omega, by show _ / _ % _ = _; omega, by show _ % _ = _; omega⟩
  · exact ⟨decide_eq_false (by omega), by show _ / _ % _ = _; omega, by show _ / _ % _ = _; omega, by show _ % _ = _; omega⟩
theorem word_inj {x y : PhS} (hx : x.ok) (hy : y.ok) : x.word = y.word ↔ x = y := by
  constructor
  · intro h
    rw [← of_word hx, ← of_word hy, h]
  · rintro rfl
    rfl

/-! The word by bits. -/
theorem wraps_u64 (n : Int) (h0 : 0 ≤ n) (h1 : n < 2 ^ 64) : IntKind.u64.wrap n = n := by
  simp [IntKind.wrap, IntKind.bits, IntKind.signed]
  omega
theorem or_flip (x y : Int) : bits .or .u64 x y = bits .or .u64 y x := by
  show IntKind.u64.wrap ((BitVec.ofInt 64 x ||| BitVec.ofInt 64 y).toNat : Int) = IntKind.u64.wrap ((BitVec.ofInt 64 y ||| BitVec.ofInt 64 x).toNat : Int)
  rw [BitVec.or_comm]
theorem or_join (i : Nat) (x y : Int) (hx0 : 0 ≤ x) (hx : x % 2 ^ i = 0) (hx1 : x < 2 ^ 64) (hy0 : 0 ≤ y) (hy : y < 2 ^ i) (hy1 : y < 2 ^ 64) : bits .or .u64 y x = y + x := by
  rw [or_flip, bits_join .u64 64 (by decide) wraps_u64 i x y hx0 hx hx1 hy0 hy hy1, Int.add_comm]
theorem word_low {o : Bool} {f p q : Int} (h : PhS.ok ⟨o, f, p, q⟩) :
    bits .or .u64 (bits .or .u64 (IntKind.u64.wrap q) (IntKind.u64.wrap (IntKind.u64.wrap p * 65536))) (IntKind.u64.wrap (IntKind.u64.wrap f * 4294967296)) = q + 65536 * p + 4294967296 * f := by
  obtain ⟨⟨a, b⟩, ⟨c, d⟩, e, g⟩ := h
  have a : 0 ≤ f := a
  have b : f ≤ 2147483647 := b
  have c : 0 ≤ p := c
  have d : p ≤ 65535 := d
  have e : 0 ≤ q := e
  have g : q ≤ p := g
  rw [wraps_u64 q (by omega) (by omega), wraps_u64 p (by omega) (by omega), wraps_u64 f (by omega) (by omega), wraps_u64 (p * 65536) (by omega) (by omega), wraps_u64 (f * 4294967296) (by omega) (by omega)]
  rw [or_join 16 (p * 65536) q (by omega) (by omega) (by omega) (by omega) (by omega) (by omega)]
  rw [or_join 32 (f * 4294967296) (q + p * 65536) (by omega) (by omega) (by omega) (by omega) (by omega) (by omega)]
  omega
theorem word_false {f p q : Int} (h : PhS.ok ⟨false, f, p, q⟩) :
    bits .or .u64 (bits .or .u64 (IntKind.u64.wrap q) (IntKind.u64.wrap (IntKind.u64.wrap p * 65536))) (IntKind.u64.wrap (IntKind.u64.wrap f * 4294967296)) = PhS.word ⟨false, f, p, q⟩ := by
  rw [word_low h]
  show _ = q + 65536 * p + 4294967296 * f + 0
  omega
theorem word_true {f p q : Int} (h : PhS.ok ⟨true, f, p, q⟩) :
    bits .or .u64 (bits .or .u64 (bits .or .u64 (IntKind.u64.wrap q) (IntKind.u64.wrap (IntKind.u64.wrap p * 65536))) (IntKind.u64.wrap (IntKind.u64.wrap f * 4294967296))) 9223372036854775808 = PhS.word ⟨true, f, p, q⟩ := by
  rw [word_low h]
  obtain ⟨⟨a, b⟩, ⟨c, d⟩, e, g⟩ := h
  have a : 0 ≤ f := a
  have b : f ≤ 2147483647 := b
  have c : 0 ≤ p := c
  have d : p ≤ 65535 := d
  have e : 0 ≤ q := e
  have g : q ≤ p := g
  rw [or_join 63 9223372036854775808 _ (by omega) (by omega) (by omega) (by omega) (by omega) (by omega)]
  rfl

/-! What comes of a call. -/
def fitsC (a n : Int) : Prop := (a = 6 ∧ 1 ≤ n ∧ n ≤ 65535) ∨ (a = 10 ∧ 0 ≤ n ∧ n ≤ 2147483647) ∨ ((a = 7 ∨ a = 8 ∨ a = 9 ∨ a = 11) ∧ n = 0)
/-- The next phase. -/
def phUp (f : Int) : Int := if f = 2147483647 then 0 else f + 1
theorem phUp_ok {f : Int} (h : 0 ≤ f ∧ f ≤ 2147483647) : 0 ≤ phUp f ∧ phUp f ≤ 2147483647 := by
  unfold phUp
  split <;> omega
theorem phUp_mod {f : Int} (h : 0 ≤ f ∧ f ≤ 2147483647) : phUp f = (f + 1) % 2147483648 := by
  unfold phUp
  split <;> omega
def phTurn (x : PhS) : PhS := if x.q = 0 then (if x.p = 0 then ⟨true, x.f, x.p, x.q⟩ else ⟨x.o, phUp x.f, x.p, x.p⟩) else x
def phArrive (x : PhS) (l : Int) : PhS × Int := if x.q = 0 then (x, -2) else (phTurn ⟨x.o, x.f, x.p - l, x.q - 1⟩, x.f)
def phNext (x : PhS) (a n : Int) : PhS × Int :=
  if x.o = true then (x, -1)
  else if a = 6 then (if 65535 < x.p + n then (x, -3) else (⟨x.o, x.f, x.p + n, x.q + n⟩, x.f))
  else if a = 7 then phArrive x 0
  else if a = 8 then phArrive x 1
  else if a = 11 then (⟨true, x.f, x.p, x.q⟩, 0)
  else (x, if x.f = n then -4 else x.f)
theorem phTurn_ok {x : PhS} (h : x.ok) : (phTurn x).ok := by
  obtain ⟨⟨a, b⟩, ⟨c, d⟩, e, f⟩ := h
  unfold phTurn
  split
  · split
    · exact ⟨⟨a, b⟩, ⟨c, d⟩, e, f⟩
    · exact ⟨phUp_ok ⟨a, b⟩, ⟨c, d⟩, c, Int.le_refl _⟩
  · exact ⟨⟨a, b⟩, ⟨c, d⟩, e, f⟩
theorem phArrive_ok {x : PhS} {l : Int} (h : x.ok) (hl : l = 0 ∨ l = 1) : (phArrive x l).1.ok := by
  unfold phArrive
  split
  · exact h
  · obtain ⟨⟨a, b⟩, ⟨c, d⟩, e, f⟩ := h
    refine phTurn_ok ⟨⟨a, b⟩, ⟨?_, ?_⟩, ?_, ?_⟩
    · show 0 ≤ x.p - l
      omega
    · show x.p - l ≤ _
      omega
    · show 0 ≤ x.q - 1
      omega
    · show x.q - 1 ≤ x.p - l
      omega
end Go.Proofs.YtdhlmgoodpepeaaGreatDoor

namespace Go.Proofs.YtdhlmgoodpepeaaGreatDoor
set_option maxRecDepth 100000
open Go.RowKit
set_option linter.unusedVariables false
set_option linter.unusedSimpArgs false

theorem upTo_any (x m : Int) (w : World) : Calls Tryz.prog 86 #[.int .i64 x, .int .i64 m] w fun e w' => e = .returned (.bool (decide (0 ≤ x ∧ x ≤ m))) ∧ w = w' := by
  by_cases h : 0 ≤ x
  · by_cases h2 : x ≤ m
    · have e : decide (0 ≤ x ∧ x ≤ m) = true := decide_eq_true ⟨h, h2⟩
      rw [e]
      go_enter Tryz.func86, Tryz.ntmps86
      go_wp2
      go_ret
      exact ⟨rfl, rfl⟩
    · have e : decide (0 ≤ x ∧ x ≤ m) = false := decide_eq_false fun h => h2 h.2
      rw [e]
      go_enter Tryz.func86, Tryz.ntmps86
      go_wp2
      go_ret
      exact ⟨rfl, rfl⟩
  · have e : decide (0 ≤ x ∧ x ≤ m) = false := decide_eq_false fun h' => h h'.1
    rw [e]
    go_enter Tryz.func86, Tryz.ntmps86
    go_wp2
    go_ret
    exact ⟨rfl, rfl⟩
theorem upTo_yes {x m : Int} (h : 0 ≤ x ∧ x ≤ m) (w : World) : Calls Tryz.prog 86 #[.int .i64 x, .int .i64 m] w fun e w' => e = .returned (.bool true) ∧ w = w' := by
  have := upTo_any x m w
  rwa [decide_eq_true h] at this
theorem pkRight_yes (o : Bool) (f p q : Int) (w : World) (h : PhS.ok ⟨o, f, p, q⟩) : Calls Tryz.prog 56 #[.agg #[.bool o, .int .i64 f, .int .i64 p, .int .i64 q]] w fun e w' => e = .returned (.bool true) ∧ Below w.heap.size w w' := by
  obtain ⟨h1, h2, h3⟩ := h
  have H1 := Lib.hid (fun W => upTo_yes h1 W)
  have H2 := Lib.hid (fun W => upTo_yes h2 W)
  have H3 := Lib.hid (fun W => upTo_yes h3 W)
  clear h1 h2 h3
  go_enter Tryz.func56, Tryz.ntmps56
  go_wp2_with fail
  refine (H1.out _).mono ?_
  rintro e w1 ⟨rfl, rfl⟩
  go_wp2_with fail
  refine (H2.out _).mono ?_
  rintro e w1 ⟨rfl, rfl⟩
  go_wp2_with fail
  refine (H3.out _).mono ?_
  rintro e w1 ⟨rfl, rfl⟩
  go_wp2
  go_ret
  exact ⟨rfl, (Below.refl _ _).alloc (Nat.le_refl _) _⟩
theorem bcell {W w1 : World} (hb : Below W.heap.size W w1) : (∀ b o, b < W.heap.size → w1.cell? ⟨b, o, none⟩ = W.cell? ⟨b, o, none⟩) ∧ (∀ b o, b < W.heap.size → w1.frozen? ⟨b, o, none⟩ = W.frozen? ⟨b, o, none⟩) :=
  ⟨fun b o h => hb.cell (p := ⟨b, o, none⟩) h, fun b o h => hb.frozen (p := ⟨b, o, none⟩) h⟩

theorem ret_word {a b : Int} (h : a = b) : Ending.returned (.tuple #[.int .u64 a, .nilIface]) = .returned (.tuple #[.int .u64 b, .nilIface]) := by rw [h]
theorem u64_twice (q : Int) : IntKind.u64.wrap (IntKind.u64.wrap q) = IntKind.u64.wrap q := by simp [IntKind.wrap, IntKind.signed, IntKind.bits]
theorem pkWord_yes (o : Bool) (f p q : Int) (w : World) (h : PhS.ok ⟨o, f, p, q⟩) : Calls Tryz.prog 24 #[.agg #[.bool o, .int .i64 f, .int .i64 p, .int .i64 q]] w fun e w' => e = .returned (.tuple #[.int .u64 (PhS.word ⟨o, f, p, q⟩), .nilIface]) ∧ Below w.heap.size w w' := by
  have HR := Lib.hid (fun W => pkRight_yes o f p q W h)
  have H := Lib.hid h
  clear h
  cases o
  · go_enter Tryz.func24, Tryz.ntmps24
    go_wp2_with fail
    refine (HR.out _).mono ?_
    rintro e w1 ⟨rfl, hb⟩
    obtain ⟨hc, hf⟩ := bcell hb
    have HB := Lib.hid hb
    clear hb HR
    go_wp2
    go_ret2
    exact ⟨ret_word (by first | exact word_false H.out | (rw [u64_twice]; exact word_false H.out)), ((Below.refl _ _).alloc (Nat.le_refl _) _).trans (HB.out.mono (by simp))⟩
  · go_enter Tryz.func24, Tryz.ntmps24
    go_wp2_with fail
    refine (HR.out _).mono ?_
    rintro e w1 ⟨rfl, hb⟩
    obtain ⟨hc, hf⟩ := bcell hb
    have HB := Lib.hid hb
    clear hb HR
    go_wp2
    go_ret2
    exact ⟨ret_word (by first | exact word_true H.out | (rw [u64_twice]; exact word_true H.out)), ((Below.refl _ _).alloc (Nat.le_refl _) _).trans (HB.out.mono (by simp))⟩
/-- A block that is a state. -/
def PhAt (w : World) (b : Nat) (o : Bool) (f p q : Int) : Prop := w.heap[b]? = some (.cells #[.bool o, .int .i64 f, .int .i64 p, .int .i64 q] 28 (0, 0))
section
variable {w w' : World} {b B : Nat} {o : Bool} {f p q : Int}
theorem PhAt.lt (h : PhAt w b o f p q) : b < w.heap.size := by
  unfold PhAt at h
  exact (Array.getElem?_eq_some_iff.1 h).1
theorem PhAt.new (w : World) (o : Bool) (f p q : Int) : PhAt (w.alloc (.cells #[.bool o, .int .i64 f, .int .i64 p, .int .i64 q] 28)) w.heap.size o f p q := heap_alloc_new w _
theorem PhAt.new2 (w : World) (O : Obj) (o : Bool) (f p q : Int) : PhAt ((w.alloc O).alloc (.cells #[.bool o, .int .i64 f, .int .i64 p, .int .i64 q] 28)) (w.heap.size + 1) o f p q := by
  have := PhAt.new (w.alloc O) o f p q
  rwa [World.size_alloc] at this
theorem PhAt.new3 (w : World) (O O2 : Obj) (o : Bool) (f p q : Int) : PhAt (((w.alloc O).alloc O2).alloc (.cells #[.bool o, .int .i64 f, .int .i64 p, .int .i64 q] 28)) (w.heap.size + 1 + 1) o f p q := by
  have := PhAt.new ((w.alloc O).alloc O2) o f p q
  rwa [World.size_alloc, World.size_alloc] at this
theorem PhAt.drew (h : PhAt w b o f p q) : PhAt w.drew b o f p q := h
theorem PhAt.below (h : PhAt w b o f p q) (hb : Below B w w') (hB : b < B) : PhAt w' b o f p q := (hb.block b hB).trans h
theorem PhAt.alloc (h : PhAt w b o f p q) (O : Obj) : PhAt (w.alloc O) b o f p q := (Below.heap_alloc w O b h.lt).trans h
theorem PhAt.far (h : PhAt w b o f p q) {a : Addr} (hn : b ≠ a.block) (v : Value) : PhAt (w.setCell a v) b o f p q := (Below.heap_setCell w a v b hn).trans h
theorem PhAt.cells (h : PhAt w b o f p q) : w.cell? ⟨b, 0, none⟩ = some (.bool o) ∧ w.cell? ⟨b, 1, none⟩ = some (.int .i64 f) ∧ w.cell? ⟨b, 2, none⟩ = some (.int .i64 p) ∧ w.cell? ⟨b, 3, none⟩ = some (.int .i64 q) :=
  ⟨cell_of_row w b 0 _ _ _ h, cell_of_row w b 1 _ _ _ h, cell_of_row w b 2 _ _ _ h, cell_of_row w b 3 _ _ _ h⟩
theorem PhAt.frozen (h : PhAt w b o f p q) (i : Nat) : w.frozen? ⟨b, i, none⟩ = false := frozen_of_row w b i _ _ h
theorem PhAt.set0 (h : PhAt w b o f p q) (x : Bool) : PhAt (w.setCell ⟨b, 0, none⟩ (.bool x)) b x f p q := heap_setCell_same w b 0 _ _ _ h
theorem PhAt.set1 (h : PhAt w b o f p q) (x : Int) : PhAt (w.setCell ⟨b, 1, none⟩ (.int .i64 x)) b o x p q := heap_setCell_same w b 1 _ _ _ h
theorem PhAt.set2 (h : PhAt w b o f p q) (x : Int) : PhAt (w.setCell ⟨b, 2, none⟩ (.int .i64 x)) b o f x q := heap_setCell_same w b 2 _ _ _ h
theorem PhAt.set3 (h : PhAt w b o f p q) (x : Int) : PhAt (w.setCell ⟨b, 3, none⟩ (.int .i64 x)) b o f p x := heap_setCell_same w b 3 _ _ _ h
/-- A whole state is stored. -/
def put4 (w : World) (b : Nat) (o : Bool) (f p q : Int) : World := (((w.setCell ⟨b, 0, none⟩ (.bool o)).setCell ⟨b, 1, none⟩ (.int .i64 f)).setCell ⟨b, 2, none⟩ (.int .i64 p)).setCell ⟨b, 3, none⟩ (.int .i64 q)
theorem PhAt.set4 (h : PhAt w b o f p q) (o' : Bool) (f' p' q' : Int) : PhAt (put4 w b o' f' p' q') b o' f' p' q' := (((h.set0 o').set1 f').set2 p').set3 q'
theorem PhAt.far4 {c : Nat} (h : PhAt w b o f p q) (hn : b ≠ c) (o' : Bool) (f' p' q' : Int) : PhAt (put4 w c o' f' p' q') b o f p q := (((h.far (a := ⟨c, 0, none⟩) hn _).far (a := ⟨c, 1, none⟩) hn _).far (a := ⟨c, 2, none⟩) hn _).far (a := ⟨c, 3, none⟩) hn _
theorem below4 {W : World} (h : Below B W w) (hB : B ≤ b) (o : Bool) (f p q : Int) : Below B W (put4 w b o f p q) := (((h.setCell hB _).setCell hB _).setCell hB _).setCell hB _
theorem size4 (w : World) (b : Nat) (o : Bool) (f p q : Int) : (put4 w b o f p q).heap.size = w.heap.size := by simp [put4]
theorem PhAt.load (h : PhAt w b o f p q) : (loadVar 28 ⟨b, 0, none⟩).run Tryz.prog w = .ok (.agg #[.bool o, .int .i64 f, .int .i64 p, .int .i64 q]) w :=
  run_loadVar_row (P := Tryz.prog) w b 28 28 _ _ _ h Tryz.underlying28 rfl (by kernel_rfl)
theorem PhAt.res1 {fn : Func} {p0 : Tmp} (h : PhAt w b o f p q) (hr : fn.results = #[.cell p0 28]) (tmps : Array Value) (hp : tmps.getD p0 undef = .pointer (some ⟨b, 0, none⟩)) :
    (results fn tmps).run Tryz.prog w = .ok (.agg #[.bool o, .int .i64 f, .int .i64 p, .int .i64 q]) w :=
  results_cell_row hr _ _ b 28 _ _ _ hp h Tryz.underlying28 rfl (by kernel_rfl)
theorem PhAt.res2 {fn : Func} {p0 u : Tmp} (h : PhAt w b o f p q) (hr : fn.results = #[.cell p0 28, .tmp u]) (tmps : Array Value) (hp : tmps.getD p0 undef = .pointer (some ⟨b, 0, none⟩)) {v : Value} (hu : tmps.getD u undef = v) :
    (results fn tmps).run Tryz.prog w = .ok (.tuple #[.agg #[.bool o, .int .i64 f, .int .i64 p, .int .i64 q], v]) w := by
  rw [results_cell_tmp hr, hp, hu]
  have hld := h.load
  simp [asAddr, Result.andThen, hld]
theorem PhAt.res3 {fn : Func} {p0 u x : Tmp} (h : PhAt w b o f p q) (hr : fn.results = #[.cell p0 28, .tmp u, .tmp x]) (tmps : Array Value) (hp : tmps.getD p0 undef = .pointer (some ⟨b, 0, none⟩)) {v y : Value} (hu : tmps.getD u undef = v) (hx : tmps.getD x undef = y) :
    (results fn tmps).run Tryz.prog w = .ok (.tuple #[.agg #[.bool o, .int .i64 f, .int .i64 p, .int .i64 q], v, y]) w := by
  have hld := h.load
  have hp' : tmps[p0]?.getD undef = .pointer (some ⟨b, 0, none⟩) := by simpa using hp
  have hu' : tmps[u]?.getD undef = v := by simpa using hu
  have hx' : tmps[x]?.getD undef = y := by simpa using hx
  simp only [results, hr]
  simp [Sem.run_bind, Result.andThen, asAddr, hld, hp', hu', hx']
end

end Go.Proofs.YtdhlmgoodpepeaaGreatDoor

namespace Go.Proofs.YtdhlmgoodpepeaaGreatDoor
set_option maxRecDepth 100000

theorem phNext_over {x : PhS} (h : x.o = true) (a n : Int) : phNext x a n = (x, -1) := by
  unfold phNext
  rw [if_pos h]
theorem phNext_close {x : PhS} (h : x.o = false) : phNext x 11 0 = (⟨true, x.f, x.p, x.q⟩, 0) := by
  unfold phNext
  rw [if_neg (by rw [h]; decide), if_neg (by decide), if_neg (by decide), if_neg (by decide), if_pos rfl]
theorem phNext_watch {x : PhS} (h : x.o = false) (n : Int) : phNext x 10 n = (x, if x.f = n then -4 else x.f) := by
  unfold phNext
  rw [if_neg (by rw [h]; decide), if_neg (by decide), if_neg (by decide), if_neg (by decide), if_neg (by decide)]
theorem phNext_reg {x : PhS} (h : x.o = false) {n : Int} (hn : ¬ 65535 < x.p + n) : phNext x 6 n = (⟨x.o, x.f, x.p + n, x.q + n⟩, x.f) := by
  unfold phNext
  rw [if_neg (by rw [h]; decide), if_pos rfl, if_neg hn]
theorem phNext_full {x : PhS} (h : x.o = false) {n : Int} (hn : 65535 < x.p + n) : phNext x 6 n = (x, -3) := by
  unfold phNext
  rw [if_neg (by rw [h]; decide), if_pos rfl, if_pos hn]
theorem phNext_arrive {x : PhS} (h : x.o = false) : phNext x 7 0 = phArrive x 0 := by
  unfold phNext
  rw [if_neg (by rw [h]; decide), if_neg (by decide), if_pos rfl]
theorem phNext_leave {x : PhS} (h : x.o = false) : phNext x 8 0 = phArrive x 1 := by
  unfold phNext
  rw [if_neg (by rw [h]; decide), if_neg (by decide), if_neg (by decide), if_pos rfl]
theorem phArrive_more {x : PhS} {l : Int} (h : 2 ≤ x.q) : phArrive x l = (⟨x.o, x.f, x.p - l, x.q - 1⟩, x.f) := by
  unfold phArrive phTurn
  rw [if_neg (by omega), if_neg (by show ¬ x.q - 1 = 0; omega)]
theorem phArrive_last {x : PhS} {l : Int} (h : x.q = 1) : phArrive x l = (if x.p - l = 0 then ⟨true, x.f, x.p - l, x.q - 1⟩ else ⟨x.o, phUp x.f, x.p - l, x.p - l⟩, x.f) := by
  unfold phArrive phTurn
  rw [if_neg (by omega), if_pos (by show x.q - 1 = 0; omega)]
theorem phArrive_none {x : PhS} {l : Int} (h : x.q = 0) : phArrive x l = (x, -2) := by
  unfold phArrive
  rw [if_pos h]

/-! Two calls, in whichever order. -/
/-- What a call leaves, of whatever right state: at most one phase on; what is over stays so; the answer. -/
def stays (x y : PhS) (k : Int) : Prop := y.ok ∧ (y.f = x.f ∨ y.f = (x.f + 1) % 2147483648) ∧ (x.o = true → y = x ∧ k = -1) ∧ -4 ≤ k
/-! All arrive; all leave. -/
end Go.Proofs.YtdhlmgoodpepeaaGreatDoor
