/-
  The lot and the reference's lot, side by side: what one call of each does.
-/
import Derived.Test.YtnooegfhkeddnaaDoorRSame
import Derived.Test.YtnooegfhkeddnaaDoorLotH
import Derived.Test.YtnooegfhkeddnaaDoorBare
namespace Go.Proofs.YtnooegfhkeddnaaDoor
set_option maxRecDepth 100000
open Go.RowKit Go.Shelf

/-- Both lots, and what they say. -/
def Both (w0 w : World) (p r bs bw m : Nat) (nt : Int) : Prop :=
  ∃ L v f g, ∃ clock : Nat, Lot w w0.heap.size p nt v (L.map pr) ∧ RLot w w0.heap.size r nt (clock : Int) bs bw m f g ∧ Same L f g clock ∧ clock ≤ m ∧ L.length ≤ m ∧ Below w0.heap.size w0 w

theorem lots_apart {w : World} {B C p r : Nat} {nt nt2 clock : Int} {v : Value} {l : List (Int × Int)} {bs bw m : Nat} {f g : Int → Option Int} (hL : Lot w B p nt v l) (hR : RLot w C r nt2 clock bs bw m f g) :
    (r ≠ p ∧ bs ≠ p ∧ bw ≠ p) ∧ (v.ownBlock ≠ some r ∧ v.ownBlock ≠ some bs ∧ v.ownBlock ≠ some bw) := by
  obtain ⟨es, c1, hs⟩ := hR.since.isMap
  obtain ⟨ew, c2, hw⟩ := hR.where_.isMap
  have hp := hL.at_
  have hr := hR.at_
  refine ⟨⟨?_, ?_, ?_⟩, ?_⟩
  · intro e
    rw [e, hp] at hr
    injection hr with hr
    injection hr with _ ht
    exact absurd ht (by decide)
  · intro e
    rw [e, hp] at hs
    cases hs
  · intro e
    rw [e, hp] at hw
    cases hw
  · rcases hL.own.2 with ⟨rfl, _⟩ | ⟨g0, cap, cur, rfl, _, hg, _⟩
    · refine ⟨?_, ?_, ?_⟩ <;> simp [Value.ownBlock]
    · refine ⟨?_, ?_, ?_⟩
      · intro e
        obtain rfl : g0 = r := by simpa [Value.ownBlock] using e
        rw [hg] at hr
        injection hr with hr
        injection hr with _ ht
        exact absurd ht (by decide)
      · intro e
        obtain rfl : g0 = bs := by simpa [Value.ownBlock] using e
        rw [hg] at hs
        cases hs
      · intro e
        obtain rfl : g0 = bw := by simpa [Value.ownBlock] using e
        rw [hg] at hw
        cases hw

/-- Blocks but those of the lot. -/
theorem RLot.beside {w w' : World} {B C p r : Nat} {nt nt2 clock : Int} {v : Value} {l : List (Int × Int)} {bs bw m : Nat} {f g : Int → Option Int} (hR : RLot w C r nt2 clock bs bw m f g) (hL : Lot w B p nt v l)
    (hk : ∀ k, k < w.heap.size → k ≠ p → some k ≠ v.ownBlock → w'.heap[k]? = w.heap[k]?) : RLot w' C r nt2 clock bs bw m f g := by
  obtain ⟨⟨a1, a2, a3⟩, b1, b2, b3⟩ := lots_apart hL hR
  exact ⟨(hk r hR.lt a1 (fun e => b1 e.symm)).trans hR.at_, hR.since.block (hk bs hR.since.lt a2 (fun e => b2 e.symm)), hR.where_.block (hk bw hR.where_.lt a3 (fun e => b3 e.symm)), hR.ne, hR.lr, hR.ls, hR.lw⟩

/-- Blocks but those of the reference's lot. -/
theorem Lot.beside {w w' : World} {B C p r : Nat} {nt nt2 clock : Int} {v : Value} {l : List (Int × Int)} {bs bw m : Nat} {f g : Int → Option Int} (hL : Lot w B p nt v l) (hR : RLot w C r nt2 clock bs bw m f g)
    (hk : Keeps (fun k => k = r ∨ k = bs ∨ k = bw) w w') : Lot w' B p nt v l := by
  obtain ⟨⟨a1, a2, a3⟩, b1, b2, b3⟩ := lots_apart hL hR
  refine hL.keeps hk ?_ fun g hg => ?_
  · rintro (h | h | h)
    · exact a1 h.symm
    · exact a2 h.symm
    · exact a3 h.symm
  · rintro (h | h | h)
    · subst h; exact b1 hg
    · subst h; exact b2 hg
    · subst h; exact b3 hg

theorem RLot.mono {w : World} {B r : Nat} {nt clock : Int} {bs bw m m' : Nat} {f g : Int → Option Int} (h : RLot w B r nt clock bs bw m f g) (hm : m ≤ m') : RLot w B r nt clock bs bw m' f g :=
  ⟨h.at_, h.since.mono hm, h.where_.mono hm, h.ne, h.lr, h.ls, h.lw⟩

theorem RLot.below {w0 w w' : World} {B r : Nat} {nt clock : Int} {bs bw m : Nat} {f g : Int → Option Int} (h : RLot w B r nt clock bs bw m f g) (hb : Below B w0 w) (hB : B ≤ w.heap.size) (hk : Keeps (fun k => k = r ∨ k = bs ∨ k = bw) w w') : Below B w0 w' :=
  hb.trans (hk.below hB fun k hs => by
    rcases hs with rfl | rfl | rfl
    · exact h.lr
    · exact h.ls
    · exact h.lw)

theorem Both.grow {w0 w w' : World} {p r bs bw m : Nat} {nt : Int} (h : Both w0 w p r bs bw m nt) (hg : w.grownBy w' none) : Both w0 w' p r bs bw m nt := by
  obtain ⟨L, v, f, g, clock, hL, hR, hS, h1, h2, hb⟩ := h
  exact ⟨L, v, f, g, clock, hL.grow hg, hR.grown hg (by simp) (by simp) (by simp), hS, h1, h2, hb.grown hg hb.size (by intro k hk; cases hk)⟩

theorem Both.mono {w0 w : World} {p r bs bw m m' : Nat} {nt : Int} (h : Both w0 w p r bs bw m nt) (hm : m ≤ m') : Both w0 w p r bs bw m' nt := by
  obtain ⟨L, v, f, g, clock, hL, hR, hS, h1, h2, hb⟩ := h
  exact ⟨L, v, f, g, clock, hL, hR.mono hm, hS, by omega, by omega, hb⟩

theorem thread_cases (L : List (Int × Int × Nat)) (t : Int) : (∀ s ∈ L, s.1 ≠ t) ∨ ∃ s ∈ L, s.1 = t := by
  by_cases h : ∃ s ∈ L, s.1 = t
  · exact .inr h
  · exact .inl fun s hs e => h ⟨s, hs, e⟩

/-- Blocks that hold a nap are as they were. -/
def NapKept (w w' : World) : Prop := ∀ (x : Nat) (cur : Array Value), w.heap[x]? = some (.cells cur 57 (0, 0)) → w'.heap[x]? = some (.cells cur 57 (0, 0))

theorem NapKept.trans {a b c : World} (h : NapKept a b) (k : NapKept b c) : NapKept a c := fun x cur hx => k x cur (h x cur hx)

theorem NapKept.refl (w : World) : NapKept w w := fun _ _ hx => hx

theorem NapKept.grown {w w' : World} (hg : w.grownBy w' none) : NapKept w w' := fun x _ hx => (hg.block x (lt_of_block hx) (by simp)).trans hx

theorem NapKept.lot {w w' : World} {B p : Nat} {nt : Int} {v : Value} {l : List (Int × Int)} (hL : Lot w B p nt v l) (hk : ∀ k, k < w.heap.size → k ≠ p → some k ≠ v.ownBlock → w'.heap[k]? = w.heap[k]?) : NapKept w w' := fun x cur hx => by
  refine (hk x (lt_of_block hx) ?_ ?_).trans hx
  · intro e
    have hp := hL.at_
    rw [← e, hx] at hp
    injection hp with hp
    injection hp with _ ht
    exact absurd ht (by decide)
  · intro e
    rcases hL.own.2 with ⟨rfl, _⟩ | ⟨g0, cap, cur0, rfl, _, hg, _⟩
    · simp [Value.ownBlock] at e
    · obtain rfl : x = g0 := by simpa [Value.ownBlock] using e
      rw [hx] at hg
      injection hg with hg
      injection hg with _ ht
      exact absurd ht (by decide)

theorem NapKept.rlot {w w' : World} {C r : Nat} {nt2 clock : Int} {bs bw m : Nat} {f g : Int → Option Int} (hR : RLot w C r nt2 clock bs bw m f g) (hk : Keeps (fun k => k = r ∨ k = bs ∨ k = bw) w w') : NapKept w w' := fun x cur hx => by
  refine (hk.block x (lt_of_block hx) ?_).trans hx
  rintro (e | e | e)
  · have hr := hR.at_
    rw [← e, hx] at hr
    injection hr with hr
    injection hr with _ ht
    exact absurd ht (by decide)
  · obtain ⟨es, c, hm⟩ := hR.since.isMap
    rw [← e, hx] at hm
    cases hm
  · obtain ⟨es, c, hm⟩ := hR.where_.isMap
    rw [← e, hx] at hm
    cases hm

/-- A call of each, and what 'bare' says of their answers. -/
def Agree (w0 w : World) (p r bs bw m : Nat) (nt : Int) (F1 F2 : FuncId) (xs : List Value) : Prop :=
  ∃ (err : Value) (k : Int) (M N : World → Prop),
    Calls Tryd.prog F1 (#[.pointer (some ⟨p, 0, none⟩)] ++ xs.toArray) w (fun e w' => e = .returned err ∧ NapKept w w' ∧ M w') ∧
    (∀ w1, M w1 → Calls Tryd.prog F2 (#[.pointer (some ⟨r, 0, none⟩)] ++ xs.toArray) w1 (fun e w' => e = .returned (.int .i64 k) ∧ NapKept w1 w' ∧ N w')) ∧
    (∀ w2, N w2 → Calls Tryd.prog 6 #[err, .int .i64 k] w2 (fun e w' => e = .returned (.bool true) ∧ NapKept w2 w' ∧ Both w0 w' p r bs bw (m + 1) nt))

theorem sleep_both {w0 w : World} {p r bs bw m : Nat} {nt : Int} (h : Both w0 w p r bs bw m nt) (hg0 : ErrVar w0) (h0 : 0 ≤ nt) (h1 : nt ≤ 16) (hm : m ≤ 900) (t c : Int) : Agree w0 w p r bs bw m nt 20 21 [.int .i64 t, .int .i64 c] := by
  obtain ⟨L, v, f, g, clock, hL, hR, hS, hk1, hk2, hb⟩ := h
  have hw0 := errVar_lt hg0
  have herr : ∀ (k : Int) (u : World), Both w0 u p r bs bw m nt → Calls Tryd.prog 6 #[.iface 30 (.int .i64 k), .int .i64 k] u (fun e w' => e = .returned (.bool true) ∧ NapKept u w' ∧ Both w0 w' p r bs bw (m + 1) nt) := fun k u hu => by
    have hbel : Below w0.heap.size w0 u := by obtain ⟨_, _, _, _, _, _, _, _, _, _, hb⟩ := hu; exact hb
    exact (bare_errno k u (errVar_below hg0 hbel hw0)).mono fun e w' ⟨he, hg⟩ => ⟨he, NapKept.grown hg, (hu.grow hg).mono (by omega)⟩
  by_cases hr : t < 0 ∨ nt ≤ t ∨ c < 0 ∨ 300 ≤ c
  · refine ⟨.iface 30 (.int .i64 2), 2, fun w' => w.grownBy w' none, fun w' => w.grownBy w' none, (sleep_range hL t c hr).mono fun e w' ⟨he, hg⟩ => ⟨he, NapKept.grown hg, hg⟩, fun w1 hg1 => ?_, fun w2 hg2 => herr 2 w2 (Both.grow ⟨L, v, f, g, clock, hL, hR, hS, hk1, hk2, hb⟩ hg2)⟩
    exact (rsleep_range (hR.grown hg1 (by simp) (by simp) (by simp)) h0 h1 t c hr).mono fun e w' ⟨he, hw⟩ => ⟨he, hw ▸ NapKept.refl w1, hw ▸ hg1⟩
  · have ht0 : 0 ≤ t := by omega
    have ht1 : t < nt := by omega
    have hc0 : 0 ≤ c := by omega
    have hc1 : c < 300 := by omega
    rcases thread_cases L t with hn | ⟨s, hs, hst⟩
    · have hno : ∀ s ∈ L.map pr, isThread t s = false := fun s hs => by
        obtain ⟨x, hx, rfl⟩ := List.mem_map.1 hs
        rw [isThread_pr]
        simpa using hn x hx
      have hlen : (L.map pr).length ≤ 1000 := by rw [List.length_map]; omega
      have hB : w0.heap.size ≤ w.heap.size := hb.size
      refine ⟨.nilIface, 0, fun w1 => ∃ v', Lot w1 w0.heap.size p nt v' (L.map pr ++ [(t, c)]) ∧ RLot w1 w0.heap.size r nt (clock : Int) bs bw m f g ∧ Below w0.heap.size w0 w1, fun w2 => Both w0 w2 p r bs bw (m + 1) nt, ?_, ?_, ?_⟩
      · refine (sleep_new2 hL hB hlen t c ht0 ht1 hc0 hc1 hno).mono ?_
        rintro e w1 ⟨v', rfl, hL1, hb1, hkk⟩
        exact ⟨rfl, NapKept.lot hL hkk, v', hL1, hR.beside hL hkk, hb.trans hb1⟩
      · rintro w1 ⟨v', hL1, hR1, hb1⟩
        refine (rsleep_new hR1 h0 h1 t c ht0 ht1 hc0 hc1 (hS.none hn) (by omega) (by omega) (by omega)).mono ?_
        rintro e w2 ⟨rfl, hR2, hkp⟩
        refine ⟨rfl, NapKept.rlot hR1 hkp, L ++ [(t, c, clock + 1)], v', _, _, clock + 1, ?_, ?_, hS.sleep t c ht0 (by omega) hn, by omega, by simp; omega, hR1.below hb1 hb1.size hkp⟩
        · rw [List.map_append]
          exact hL1.beside hR1 hkp
        · exact hR2
      · intro w2 hB2
        exact (bare_nil w2).mono fun e w' ⟨he, hw⟩ => ⟨he, hw ▸ NapKept.refl w2, hw ▸ hB2⟩
    · obtain ⟨hf, _⟩ := hS.has s hs
      rw [hst] at hf
      have hpos := (hS.low s hs).1
      have hsl : sleeps (L.map pr) t := ⟨pr s, List.mem_map.2 ⟨s, hs, rfl⟩, by rw [isThread_pr, hst]; exact beq_self_eq_true _⟩
      refine ⟨.iface 30 (.int .i64 6), 6, fun w' => w.grownBy w' none, fun w' => w.grownBy w' none, (sleep_twice hL t c ht0 ht1 hc0 hc1 hsl).mono fun e w' ⟨he, hg⟩ => ⟨he, NapKept.grown hg, hg⟩, fun w1 hg1 => ?_, fun w2 hg2 => herr 6 w2 (Both.grow ⟨L, v, f, g, clock, hL, hR, hS, hk1, hk2, hb⟩ hg2)⟩
      exact (rsleep_twice (hR.grown hg1 (by simp) (by simp) (by simp)) h0 h1 t c ht0 ht1 hc0 hc1 s.2.2 (by omega) hf).mono fun e w' ⟨he, hw⟩ => ⟨he, hw ▸ NapKept.refl w1, hw ▸ hg1⟩

theorem poke_both {w0 w : World} {p r bs bw m : Nat} {nt : Int} (h : Both w0 w p r bs bw m nt) (hg0 : ErrVar w0) (h0 : 0 ≤ nt) (h1 : nt ≤ 16) (t : Int) : Agree w0 w p r bs bw m nt 25 26 [.int .i64 t] := by
  obtain ⟨L, v, f, g, clock, hL, hR, hS, hk1, hk2, hb⟩ := h
  have hw0 := errVar_lt hg0
  have herr : ∀ (k : Int) (u : World), Both w0 u p r bs bw m nt → Calls Tryd.prog 6 #[.iface 30 (.int .i64 k), .int .i64 k] u (fun e w' => e = .returned (.bool true) ∧ NapKept u w' ∧ Both w0 w' p r bs bw (m + 1) nt) := fun k u hu => by
    have hbel : Below w0.heap.size w0 u := by obtain ⟨_, _, _, _, _, _, _, _, _, _, hb⟩ := hu; exact hb
    exact (bare_errno k u (errVar_below hg0 hbel hw0)).mono fun e w' ⟨he, hg⟩ => ⟨he, NapKept.grown hg, (hu.grow hg).mono (by omega)⟩
  by_cases hr : t < 0 ∨ nt ≤ t
  · refine ⟨.iface 30 (.int .i64 2), 2, fun w' => w.grownBy w' none, fun w' => w.grownBy w' none, (poke_range hL t hr).mono fun e w' ⟨he, hg⟩ => ⟨he, NapKept.grown hg, hg⟩, fun w1 hg1 => ?_, fun w2 hg2 => herr 2 w2 (Both.grow ⟨L, v, f, g, clock, hL, hR, hS, hk1, hk2, hb⟩ hg2)⟩
    exact (rpoke_range (hR.grown hg1 (by simp) (by simp) (by simp)) h0 h1 t hr).mono fun e w' ⟨he, hw⟩ => ⟨he, hw ▸ NapKept.refl w1, hw ▸ hg1⟩
  · have ht0 : 0 ≤ t := by omega
    have ht1 : t < nt := by omega
    rcases thread_cases L t with hn | ⟨s, hs, hst⟩
    · have hno : ∀ s ∈ L.map pr, isThread t s = false := fun s hs => by
        obtain ⟨x, hx, rfl⟩ := List.mem_map.1 hs
        rw [isThread_pr]
        simpa using hn x hx
      refine ⟨.iface 30 (.int .i64 6), 6, fun w' => w.grownBy w' none, fun w' => w.grownBy w' none, (poke_none hL t ht0 ht1 hno).mono fun e w' ⟨he, hg⟩ => ⟨he, NapKept.grown hg, hg⟩, fun w1 hg1 => ?_, fun w2 hg2 => herr 6 w2 (Both.grow ⟨L, v, f, g, clock, hL, hR, hS, hk1, hk2, hb⟩ hg2)⟩
      exact (rpoke_none (hR.grown hg1 (by simp) (by simp) (by simp)) h0 h1 t ht0 ht1 (hS.none hn)).mono fun e w' ⟨he, hw⟩ => ⟨he, hw ▸ NapKept.refl w1, hw ▸ hg1⟩
    · obtain ⟨hf, _⟩ := hS.has s hs
      rw [hst] at hf
      have hpos := (hS.low s hs).1
      have hsl : sleeps (L.map pr) t := ⟨pr s, List.mem_map.2 ⟨s, hs, rfl⟩, by rw [isThread_pr, hst]; exact beq_self_eq_true _⟩
      refine ⟨.nilIface, 0, fun w1 => ∃ v', Lot w1 w0.heap.size p nt v' ((L.filter fun s => !([t] : List Int).contains s.1).map pr) ∧ RLot w1 w0.heap.size r nt (clock : Int) bs bw m f g ∧ Below w0.heap.size w0 w1, fun w2 => Both w0 w2 p r bs bw (m + 1) nt, ?_, ?_, ?_⟩
      · refine (poke_yes2 hL hb.size t ht0 ht1 hsl).mono ?_
        rintro e w1 ⟨v', rfl, hL1, hb1, _, hkk⟩
        rw [hS.erase t] at hL1
        exact ⟨rfl, NapKept.lot hL hkk, v', hL1, hR.beside hL hkk, hb.trans hb1⟩
      · rintro w1 ⟨v', hL1, hR1, hb1⟩
        refine (rpoke_yes hR1 h0 h1 t ht0 ht1 s.2.2 (by omega) hf).mono ?_
        rintro e w2 ⟨rfl, hR2, hg2⟩
        have hkp : Keeps (fun k => k = r ∨ k = bs ∨ k = bw) w1 w2 := Keeps.of_grown hg2 (fun k e => .inr (.inl (by injection e with e; exact e.symm)))
        rw [dropAt_one] at hR2
        refine ⟨rfl, NapKept.rlot hR1 hkp, _, v', _, _, clock, hL1.beside hR1 hkp, hR2.mono (by omega), hS.drop [t], by omega, ?_, hR1.below hb1 hb1.size hkp⟩
        exact Nat.le_trans (List.length_filter_le _ _) (by omega)
      · intro w2 hB2
        exact (bare_nil w2).mono fun e w' ⟨he, hw⟩ => ⟨he, hw ▸ NapKept.refl w2, hw ▸ hB2⟩
end Go.Proofs.YtnooegfhkeddnaaDoor
