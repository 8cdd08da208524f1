/-
  What instructions come to, group by group: a machine behind each of the functions that do calls.
-/
import Derived.Test.YtkmidefgmefohaaDoorMReach
namespace Go.Proofs.YtkmidefgmefohaaDoor
set_option maxRecDepth 100000
open Go.RowKit Go.Shelf Go.Sort
set_option linter.unusedVariables false

/-- The machine behind what an instruction comes to; its step is counted, and it is at the next one. -/
def after (m : Mach) (k : Nat) (op : Int) : Eff → Mach
  | .halt => { m with ended := m.ended.set k true }
  | .set r v => { m with regs := m.regs.set k ((m.regs.getD k []).set r v) }
  | .mem c now none => { m with cells := m.cells.set c now, acts := m.acts ++ [((m.steps : Int), (k : Int), op, (c : Int), m.cells.getD c 0, now)] }
  | .mem c now (some rv) => { m with cells := m.cells.set c now, regs := m.regs.set k ((m.regs.getD k []).set rv.1 rv.2), acts := m.acts ++ [((m.steps : Int), (k : Int), op, (c : Int), m.cells.getD c 0, now)] }
  | .goto p => { m with at_ := m.at_.set k p }
  | .next => m
  | .sleep c => { m with lot := m.lot ++ [((k : Int), c)] }
  | .wake c n => { m with lot := wakeL m.lot c n.toNat }
  | .say what v => { m with events := m.events ++ [((m.steps : Int), what, (k : Int), v)] }
  | .lost => { m with ended := m.ended.set k true }

/-- What the functions ask of the machine. -/
structure Fits (m : Mach) (k : Nat) (x : Ins5) : Prop where
  hk : k < m.progs.length
  la : m.at_.length = m.progs.length
  le : m.ended.length = m.progs.length
  lr : m.regs.length = m.progs.length
  r8 : (m.regs.getD k []).length = 8
  ru : ∀ v ∈ m.regs.getD k [], okU v
  c3 : m.cells.length ≤ 300
  fit : FitX (m.progs.getD k []).length m.cells.length x
  few : m.lot.length ≤ 16
  once : m.lot.Pairwise fun a b => a.1 ≠ b.1
  awake : asleepM m k = false
  acts : m.acts.length ≤ 20000
  events : m.events.length ≤ 20000

theorem set_getD_self {l : List Int} {q : Nat} (h : q < l.length) : l.set q (l.getD q 0) = l := by
  rw [List.getD_eq_getElem?_getD, List.getElem?_eq_getElem h]
  simp

theorem nat_of {v : Int} (h : 0 ≤ v) : ∃ n : Nat, v = n := ⟨v.toNat, by omega⟩

section
variable {w : World} {B : Nat} {S : Nat → Prop} {X : KB} {m : Mach} {k : Nat} {tb cap : Nat}

theorem Core.registers (h : Core w B S X m) (hk : k < m.progs.length) (htv : X.tv = .slice (some ⟨tb, 0, none⟩) m.progs.length cap) : Regs w tb (k * 11) (m.regs.getD k []) :=
  ⟨(h.thread hk htv).2.2.2.1, (h.thread hk htv).2.2.2.2⟩

theorem RegSet.moved {a : Nat} {v : Int} {e : Ending} {w' : World} (hr : RegSet tb (k * 11) a v w e w') (h : Core w B S X m) (hk : k < m.progs.length) (hlr : m.regs.length = m.progs.length) (hr8 : (m.regs.getD k []).length = 8) (htv : X.tv = .slice (some ⟨tb, 0, none⟩) m.progs.length cap) (ha : a < 8) :
    e = .returned (.tuple #[]) ∧ Moved w B S X { m with regs := m.regs.set k ((m.regs.getD k []).set a v) } w' := by
  obtain ⟨he, hg⟩ := hr
  obtain ⟨h1, h2⟩ := h.setReg hlr hk hr8 htv a ha v
  exact ⟨he, (Moved.of h1 h2).grow hg⟩

theorem kreckon_any (h : Core w B S X m) {x : Ins5} (hf : Fits m k x) (htv : X.tv = .slice (some ⟨tb, 0, none⟩) m.progs.length cap) (ho : x.1 = 1 ∨ x.1 = 2 ∨ x.1 = 3 ∨ x.1 = 4 ∨ x.1 = 5) :
    Calls Tryd.prog 50 #[.pointer (some ⟨tb, k * 11, none⟩), insV x] w fun e w' => e = .returned (.tuple #[]) ∧ Moved w B S X (after m k x.1 (eff x (m.regs.getD k []) m.cells)) w' := by
  obtain ⟨op, a, b, c, d⟩ := x
  have hR := h.registers hf.hk htv
  have hx := hf.fit
  dsimp only at ho
  rcases ho with rfl | rfl | rfl | rfl | rfl
  · obtain ⟨a0, a7⟩ := hx.ra (by simp)
    obtain ⟨a, rfl⟩ := nat_of a0
    dsimp only at a7
    exact (reckon_let hR a (by omega) b c d).mono fun e w' hr => hr.moved h hf.hk hf.lr hf.r8 htv (by omega)
  · obtain ⟨a0, a7⟩ := hx.ra (by simp)
    obtain ⟨b0, b7⟩ := hx.rb (by simp)
    obtain ⟨a, rfl⟩ := nat_of a0
    obtain ⟨b, rfl⟩ := nat_of b0
    dsimp only at a7 b7
    exact (reckon_copy hR a b (by omega) (by omega) c d).mono fun e w' hr => hr.moved h hf.hk hf.lr hf.r8 htv (by omega)
  · obtain ⟨a0, a7⟩ := hx.ra (by simp)
    obtain ⟨b0, b7⟩ := hx.rb (by simp)
    obtain ⟨a, rfl⟩ := nat_of a0
    obtain ⟨b, rfl⟩ := nat_of b0
    dsimp only at a7 b7
    exact (reckon_plus hR a b (by omega) (by omega) c d).mono fun e w' hr => hr.moved h hf.hk hf.lr hf.r8 htv (by omega)
  · obtain ⟨a0, a7⟩ := hx.ra (by simp)
    obtain ⟨b0, b7⟩ := hx.rb (by simp)
    obtain ⟨c0, c7⟩ := hx.rc (by simp)
    obtain ⟨a, rfl⟩ := nat_of a0
    obtain ⟨b, rfl⟩ := nat_of b0
    obtain ⟨c, rfl⟩ := nat_of c0
    dsimp only at a7 b7 c7
    exact (reckon_sum hR a b c (by omega) (by omega) (by omega) d).mono fun e w' hr => hr.moved h hf.hk hf.lr hf.r8 htv (by omega)
  · obtain ⟨a0, a7⟩ := hx.ra (by simp)
    obtain ⟨b0, b7⟩ := hx.rb (by simp)
    obtain ⟨c0, c7, d0, d7⟩ := hx.bw rfl
    obtain ⟨a, rfl⟩ := nat_of a0
    obtain ⟨b, rfl⟩ := nat_of b0
    obtain ⟨c, rfl⟩ := nat_of c0
    obtain ⟨d, rfl⟩ : ∃ n : Nat, d = n := ⟨d.toNat, by dsimp only at d0; omega⟩
    dsimp only at a7 b7 c7 d7
    exact (reckon_field hR a b c d (by omega) (by omega) (by omega) (by omega) (getD_okU hf.ru _)).mono fun e w' hr => hr.moved h hf.hk hf.lr hf.r8 htv (by omega)

theorem AtSet.moved {p : Int} {e : Ending} {w' : World} (hr : AtSet tb (k * 11) p w e w') (h : Core w B S X m) (hk : k < m.progs.length) (hla : m.at_.length = m.progs.length) (htv : X.tv = .slice (some ⟨tb, 0, none⟩) m.progs.length cap) :
    e = .returned (.tuple #[]) ∧ Moved w B S X { m with at_ := m.at_.set k p } w' := by
  obtain ⟨he, hg⟩ := hr
  obtain ⟨h1, h2⟩ := h.setAt hla hk htv p
  exact ⟨he, (Moved.of h1 h2).grow hg⟩
theorem Passed.moved {e : Ending} {w' : World} (hr : Passed w e w') (h : Core w B S X m) : e = .returned (.tuple #[]) ∧ Moved w B S X m w' := by
  obtain ⟨he, hg⟩ := hr
  exact ⟨he, (Moved.of h (Keeps.refl _ _)).grow hg⟩

theorem kturn_any (h : Core w B S X m) {x : Ins5} (hf : Fits m k x) (htv : X.tv = .slice (some ⟨tb, 0, none⟩) m.progs.length cap) (ho : x.1 = 10 ∨ x.1 = 11 ∨ x.1 = 12 ∨ x.1 = 13) :
    Calls Tryd.prog 51 #[.pointer (some ⟨tb, k * 11, none⟩), insV x] w fun e w' => e = .returned (.tuple #[]) ∧ Moved w B S X (after m k x.1 (eff x (m.regs.getD k []) m.cells)) w' := by
  obtain ⟨op, a, b, c, d⟩ := x
  have hR := h.registers hf.hk htv
  obtain ⟨-, ⟨z, hz, -⟩, -⟩ := h.thread hf.hk htv
  have hx := hf.fit
  dsimp only at ho
  rcases ho with rfl | rfl | rfl | rfl
  · exact (turn_jump hR hz a b c d).mono fun e w' hr => hr.moved h hf.hk hf.la htv
  · obtain ⟨a0, a7⟩ := hx.ra (by simp)
    obtain ⟨a, rfl⟩ := nat_of a0
    dsimp only at a7
    by_cases hc : (m.regs.getD k []).getD a 0 = b % m64
    · have e : eff (11, (a : Int), b, c, d) (m.regs.getD k []) m.cells = .goto c := by
        show (if regOf (m.regs.getD k []) (a : Int) = b % m64 then Eff.goto c else .next) = _
        unfold regOf; rw [Int.toNat_natCast, if_pos hc]
      rw [e]
      exact (turn_same_yes hR hz a (by omega) b c d hc).mono fun e w' hr => hr.moved h hf.hk hf.la htv
    · have e : eff (11, (a : Int), b, c, d) (m.regs.getD k []) m.cells = .next := by
        show (if regOf (m.regs.getD k []) (a : Int) = b % m64 then Eff.goto c else .next) = _
        unfold regOf; rw [Int.toNat_natCast, if_neg hc]
      rw [e]
      exact (turn_same_no hR hz a (by omega) b c d hc).mono fun e w' hr => hr.moved h
  · obtain ⟨a0, a7⟩ := hx.ra (by simp)
    obtain ⟨b0, b7⟩ := hx.rb (by simp)
    obtain ⟨a, rfl⟩ := nat_of a0
    obtain ⟨b, rfl⟩ := nat_of b0
    dsimp only at a7 b7
    by_cases hc : (m.regs.getD k []).getD a 0 < (m.regs.getD k []).getD b 0
    · have e : eff (12, (a : Int), (b : Int), c, d) (m.regs.getD k []) m.cells = .goto c := by
        show (if regOf (m.regs.getD k []) (a : Int) < regOf (m.regs.getD k []) (b : Int) then Eff.goto c else .next) = _
        unfold regOf; rw [Int.toNat_natCast, Int.toNat_natCast, if_pos hc]
      rw [e]
      exact (turn_less_yes hR hz a b (by omega) (by omega) c d hc).mono fun e w' hr => hr.moved h hf.hk hf.la htv
    · have e : eff (12, (a : Int), (b : Int), c, d) (m.regs.getD k []) m.cells = .next := by
        show (if regOf (m.regs.getD k []) (a : Int) < regOf (m.regs.getD k []) (b : Int) then Eff.goto c else .next) = _
        unfold regOf; rw [Int.toNat_natCast, Int.toNat_natCast, if_neg hc]
      rw [e]
      exact (turn_less_no hR hz a b (by omega) (by omega) c d hc).mono fun e w' hr => hr.moved h
  · obtain ⟨a0, a7⟩ := hx.ra (by simp)
    obtain ⟨b0, b7⟩ := hx.rb (by simp)
    obtain ⟨a, rfl⟩ := nat_of a0
    obtain ⟨b, rfl⟩ := nat_of b0
    dsimp only at a7 b7
    by_cases hc : (m.regs.getD k []).getD a 0 = (m.regs.getD k []).getD b 0
    · have e : eff (13, (a : Int), (b : Int), c, d) (m.regs.getD k []) m.cells = .goto c := by
        show (if regOf (m.regs.getD k []) (a : Int) = regOf (m.regs.getD k []) (b : Int) then Eff.goto c else .next) = _
        unfold regOf; rw [Int.toNat_natCast, Int.toNat_natCast, if_pos hc]
      rw [e]
      exact (turn_equal_yes hR hz a b (by omega) (by omega) c d hc).mono fun e w' hr => hr.moved h hf.hk hf.la htv
    · have e : eff (13, (a : Int), (b : Int), c, d) (m.regs.getD k []) m.cells = .next := by
        show (if regOf (m.regs.getD k []) (a : Int) = regOf (m.regs.getD k []) (b : Int) then Eff.goto c else .next) = _
        unfold regOf; rw [Int.toNat_natCast, Int.toNat_natCast, if_neg hc]
      rw [e]
      exact (turn_equal_no hR hz a b (by omega) (by omega) c d hc).mono fun e w' hr => hr.moved h

theorem ktouch_any (h : Core w B S X m) (hB : B ≤ w.heap.size) {x : Ins5} (hf : Fits m k x) (ho : x.1 = 6 ∨ x.1 = 8 ∨ x.1 = 9) :
    Calls Tryd.prog 52 #[.pointer (some ⟨X.c, 0, none⟩), .int .i64 k, insV x, .int .i64 x.2.2.1] w fun e w' => e = .returned (.tuple #[]) ∧ Moved w B S X (after m k x.1 (eff x (m.regs.getD k []) m.cells)) w' := by
  obtain ⟨op, a, b, c, d⟩ := x
  have hx := hf.fit
  dsimp only at ho
  rcases ho with rfl | rfl | rfl
  · obtain ⟨a0, a7⟩ := hx.ra (by simp)
    obtain ⟨b0, b7⟩ := hx.cb (by simp)
    obtain ⟨a, rfl⟩ := nat_of a0
    obtain ⟨b, rfl⟩ := nat_of b0
    dsimp only at a7 b7
    have hb : b < m.cells.length := by omega
    refine (touch_load h hB hf.hk hf.lr hf.r8 hb hf.acts a (by omega) b c d).mono fun e w' ht => ⟨ht.moved.1, ?_⟩
    have e : after m k 6 (eff (6, (a : Int), (b : Int), c, d) (m.regs.getD k []) m.cells) = { m with regs := m.regs.set k ((m.regs.getD k []).set a (m.cells.getD b 0)), acts := m.acts ++ [((m.steps : Int), (k : Int), 6, (b : Int), m.cells.getD b 0, m.cells.getD b 0)] } := by
      show ({ m with cells := m.cells.set b (m.cells.getD b 0), regs := _, acts := _ } : Mach) = _
      rw [set_getD_self hb]
      rfl
    rw [e]
    exact ht.moved.2
  · obtain ⟨a0, a7⟩ := hx.ra (by simp)
    obtain ⟨b0, b7⟩ := hx.cb (by simp)
    obtain ⟨a, rfl⟩ := nat_of a0
    obtain ⟨b, rfl⟩ := nat_of b0
    dsimp only at a7 b7
    have hb : b < m.cells.length := by omega
    exact (touch_fetch h hB hf.hk hf.lr hf.r8 hb hf.acts a (by omega) b c d).mono fun e w' ht => ht.moved
  · obtain ⟨a0, a7⟩ := hx.ra (by simp)
    obtain ⟨b0, b7⟩ := hx.cb (by simp)
    obtain ⟨c0, c7⟩ := hx.rc (by simp)
    obtain ⟨d0, d7⟩ := hx.rd rfl
    obtain ⟨a, rfl⟩ := nat_of a0
    obtain ⟨b, rfl⟩ := nat_of b0
    obtain ⟨c, rfl⟩ := nat_of c0
    obtain ⟨d, rfl⟩ := nat_of d0
    dsimp only at a7 b7 c7 d7
    have hb : b < m.cells.length := by omega
    by_cases he : m.cells.getD b 0 = (m.regs.getD k []).getD c 0
    · have e : eff (9, (a : Int), (b : Int), (c : Int), (d : Int)) (m.regs.getD k []) m.cells = .mem b ((m.regs.getD k []).getD d 0) (some (a, 1)) := by
        show (if m.cells.getD (b : Int).toNat 0 = regOf (m.regs.getD k []) (c : Int) then Eff.mem (b : Int).toNat (regOf (m.regs.getD k []) (d : Int)) (some ((a : Int).toNat, 1)) else _) = _
        unfold regOf; rw [Int.toNat_natCast, Int.toNat_natCast, Int.toNat_natCast, Int.toNat_natCast, if_pos he]
      rw [e]
      exact (touch_swap_yes h hB hf.hk hf.lr hf.r8 hb hf.acts a c d (by omega) (by omega) (by omega) b he).mono fun e w' ht => ht.moved
    · have e : eff (9, (a : Int), (b : Int), (c : Int), (d : Int)) (m.regs.getD k []) m.cells = .mem b (m.cells.getD b 0) (some (a, 0)) := by
        show (if m.cells.getD (b : Int).toNat 0 = regOf (m.regs.getD k []) (c : Int) then _ else Eff.mem (b : Int).toNat (m.cells.getD (b : Int).toNat 0) (some ((a : Int).toNat, 0))) = _
        unfold regOf; simp only [Int.toNat_natCast]; rw [if_neg he]
      rw [e]
      refine (touch_swap_no h hB hf.hk hf.lr hf.r8 hb hf.acts a c d (by omega) (by omega) (by omega) b he).mono fun e w' ht => ⟨ht.moved.1, ?_⟩
      have e2 : after m k 9 (.mem b (m.cells.getD b 0) (some (a, 0))) = { m with regs := m.regs.set k ((m.regs.getD k []).set a 0), acts := m.acts ++ [((m.steps : Int), (k : Int), 9, (b : Int), m.cells.getD b 0, m.cells.getD b 0)] } := by
        show ({ m with cells := m.cells.set b (m.cells.getD b 0), regs := _, acts := _ } : Mach) = _
        rw [set_getD_self hb]
      rw [e2]
      exact ht.moved.2

theorem kwait_any (h : Core w B S X m) (hB : B ≤ w.heap.size) {x : Ins5} (hf : Fits m k x) (ho : x.1 = 14) :
    Calls Tryd.prog 53 #[.pointer (some ⟨X.c, 0, none⟩), .int .i64 k, insV x] w fun e w' => e = .returned (.tuple #[]) ∧ Moved w B S X (after m k x.1 (eff x (m.regs.getD k []) m.cells)) w' := by
  obtain ⟨op, a, b, c, d⟩ := x
  have hx := hf.fit
  dsimp only at ho
  subst ho
  obtain ⟨a0, a7⟩ := hx.ca (by simp)
  obtain ⟨b0, b7⟩ := hx.rb (by simp)
  obtain ⟨a, rfl⟩ := nat_of a0
  obtain ⟨b, rfl⟩ := nat_of b0
  dsimp only at a7 b7
  have ha : a < m.cells.length := by omega
  have hc3 := hf.c3
  by_cases he : m.cells.getD a 0 = (m.regs.getD k []).getD b 0
  · have e : eff (14, (a : Int), (b : Int), c, d) (m.regs.getD k []) m.cells = .sleep a := by
      show (if m.cells.getD (a : Int).toNat 0 = regOf (m.regs.getD k []) (b : Int) then Eff.sleep a else .next) = _
      unfold regOf; rw [Int.toNat_natCast, Int.toNat_natCast, if_pos he]
    rw [e]
    exact wait_yes h hB hf.few hf.hk a ha (by omega) b (by omega) c d hf.awake he
  · have e : eff (14, (a : Int), (b : Int), c, d) (m.regs.getD k []) m.cells = .next := by
      show (if m.cells.getD (a : Int).toNat 0 = regOf (m.regs.getD k []) (b : Int) then Eff.sleep a else .next) = _
      unfold regOf; rw [Int.toNat_natCast, Int.toNat_natCast, if_neg he]
    rw [e]
    exact (wait_no h hf.hk a ha b (by omega) c d he).mono fun e w' ⟨h1, h2⟩ => ⟨h1, (Moved.of h (Keeps.refl _ _)).grow h2⟩

theorem kreach_any (h : Core w B S X m) (hB : B ≤ w.heap.size) {x : Ins5} (hf : Fits m k x) (ho : x.1 = 7 ∨ x.1 = 15) :
    Calls Tryd.prog 54 #[.pointer (some ⟨X.c, 0, none⟩), .int .i64 k, insV x] w fun e w' => e = .returned (errV (errEff (eff x (m.regs.getD k []) m.cells))) ∧ Moved w B S X (after m k x.1 (eff x (m.regs.getD k []) m.cells)) w' := by
  obtain ⟨op, a, b, c, d⟩ := x
  have hx := hf.fit
  dsimp only at ho
  have hca := hx.ca (by simp only; omega)
  have hoc := hx.oc (by simp only; omega)
  dsimp only at hca hoc
  rcases ho with rfl | rfl
  · obtain ⟨b0, b7⟩ := hx.rb (by simp)
    obtain ⟨b, rfl⟩ := nat_of b0
    dsimp only at b7
    by_cases hp : placeOf a c (m.regs.getD k []) < m.cells.length
    · have hnn : 0 ≤ placeOf a c (m.regs.getD k []) := by
        unfold placeOf
        have := (getD_okU hf.ru c.toNat).1
        unfold regOf
        split <;> omega
      obtain ⟨q, hq⟩ := nat_of hnn
      have e : eff (7, a, (b : Int), c, d) (m.regs.getD k []) m.cells = .mem q ((m.regs.getD k []).getD b 0) none := by
        show (if placeOf a c (m.regs.getD k []) < m.cells.length then Eff.mem (placeOf a c (m.regs.getD k [])).toNat (regOf (m.regs.getD k []) (b : Int)) none else .lost) = _
        rw [if_pos hp, hq]
        unfold regOf; rw [Int.toNat_natCast, Int.toNat_natCast]
      rw [e]
      exact reach_store h hB hf.hk hf.lr hf.r8 hf.acts hf.c3 hf.ru a c d b (by omega) hca.1 hca.2 hoc.1 hoc.2 q hq (by omega)
    · have e : eff (7, a, (b : Int), c, d) (m.regs.getD k []) m.cells = .lost := by
        show (if placeOf a c (m.regs.getD k []) < m.cells.length then Eff.mem (placeOf a c (m.regs.getD k [])).toNat (regOf (m.regs.getD k []) (b : Int)) none else .lost) = _
        rw [if_neg hp]
      rw [e]
      exact reach_lost h hf.hk hf.le hf.c3 hf.ru 7 a b c d hca.1 hca.2 hoc.1 hoc.2 hp
  · by_cases hp : placeOf a c (m.regs.getD k []) < m.cells.length
    · have e : eff (15, a, b, c, d) (m.regs.getD k []) m.cells = .wake (placeOf a c (m.regs.getD k [])) b := by
        show (if placeOf a c (m.regs.getD k []) < m.cells.length then Eff.wake (placeOf a c (m.regs.getD k [])) b else .lost) = _
        rw [if_pos hp]
      rw [e]
      exact reach_wake h hf.hk hf.few hf.once hf.c3 hf.ru a b c d hca.1 hca.2 hoc.1 hoc.2 hp
    · have e : eff (15, a, b, c, d) (m.regs.getD k []) m.cells = .lost := by
        show (if placeOf a c (m.regs.getD k []) < m.cells.length then Eff.wake (placeOf a c (m.regs.getD k [])) b else .lost) = _
        rw [if_neg hp]
      rw [e]
      exact reach_lost h hf.hk hf.le hf.c3 hf.ru 15 a b c d hca.1 hca.2 hoc.1 hoc.2 hp
end
end Go.Proofs.YtkmidefgmefohaaDoor
