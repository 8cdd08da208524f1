/-
  Who is alone is answered at once: what one thread asks for is answered as one call behind the other is, till it would have to wait: GatherAlone returns true, and panics at no argument.
-/
import Derived.Test.YtdhlmgoodpepeaaGreatDoorQT3
import Derived.Test.YtdhlmgoodpepeaaGreatDoorQP3
import Derived.Test.YtdhlmgoodpepeaaGreatDoorQR4
import Derived.Laws.StructEq
import Derived.Test.YtdhlmgoodpepeaaGreatDoorRows
import Derived.Test.YtdhlmgoodpepeaaGreatDoorCards
import Derived.Test.YtdhlmgoodpepeaaGreatDoorTie
import Derived.WalkKit
import Derived.ProofKit
import Derived.OpenShut
import Derived.ChangeOld
import Derived.Below
import Derived.ChangeSame
import Derived.ChangeVars
import Derived.JoinedOf
import Derived.RowKitTokens
import Derived.LaidLaws
import Derived.LaidHandle
import Derived.Stop.Joined
import Derived.SevenTiedAt
import Derived.Lib.LaidTab
import Derived.Lib.LaidIn
import Derived.ChangeMaps5
import Derived.Test.YtdhlmgoodpepeaaGreatDoorQE
import Derived.Test.YtdhlmgoodpepeaaGreatDoorQE2
namespace Go.Proofs.YtdhlmgoodpepeaaGreatDoor
open Go.ChangeShapes Go.WideShapes Go.Deep Go.RowKit
set_option maxRecDepth 100000
set_option linter.unusedVariables false
set_option linter.unusedSimpArgs false
section
variable {H : Type} {enc : TypeId × Value → H} {w : World} {base : Nat} {spare : Nat → Bool} {held : Bool}
theorem isInt_wf {n : Int} (h : (Lit.int .i64 n).wf = true) : isInt n := by
  simp [Lit.wf, IntKind.min, IntKind.max, IntKind.signed, IntKind.bits] at h
  unfold isInt
  omega
end
section
variable {H : Type} {enc : TypeId × Value → H} {w : World} {base : Nat} {spare : Nat → Bool} {held : Bool} {fuel : Nat} {a : Option Addr} {len cap : Nat} {x : DataW H × List MemPlace}
theorem ints_of (h : DataW.trod enc Tryz.prog w base spare held fuel 57 [.slice a len cap] = some x) : ∃ xs, Ints .i64 w w.heap.size a len xs ∧ ∀ x ∈ xs, isInt x := by
  rcases open_ints Tryz.underlying57 Tryz.underlying3 (by kernel_rfl) h with ⟨h0, _⟩ | ⟨ad, l, c, zs, hcs, _, hlc, _, hzl, _, hc, hwf⟩
  · simp only [List.cons.injEq, Value.slice.injEq, and_true] at h0
    obtain ⟨rfl, rfl, _⟩ := h0
    exact ⟨[], ⟨rfl, fun h => absurd h (Nat.lt_irrefl 0)⟩, fun x hx => by cases hx⟩
  · simp only [List.cons.injEq, Value.slice.injEq, and_true] at hcs
    obtain ⟨rfl, rfl, _⟩ := hcs
    have hle : len ≤ zs.length := by split at hzl <;> omega
    refine ⟨zs.take len, ⟨by rw [List.length_take]; omega, fun h0 => ?_⟩, fun x hx => isInt_wf (hwf x (List.mem_of_mem_take hx))⟩
    obtain ⟨b, off, spot⟩ := ad
    have c0 := hc 0 (by omega)
    have hspot : spot = none := by simpa [Addr.add] using World.cell?_spot c0
    subst hspot
    have hlt : b < w.heap.size := by
      have := World.block_lt_of_cell? w _ c0
      simpa [Addr.add] using this
    refine ⟨b, off, rfl, hlt, fun i hi => ?_⟩
    have h1 := hc i (by omega)
    have ha : (⟨b, off, none⟩ : Addr).add i = ⟨b, off + i, none⟩ := by unfold Addr.add; split <;> simp_all
    rw [ha] at h1
    rw [h1, List.getD_eq_getElem?_getD, List.getD_eq_getElem?_getD, List.getElem?_take, if_pos hi]
end
section
theorem cap_slice {H : Type} {enc : TypeId × Value → H} {w : World} {base : Nat} {spare : Nat → Bool} {held : Bool} {fuel : Nat} {a : Option Addr} {len cap : Nat} {x : DataW H × List MemPlace} {t e : TypeId} (ht : Tryz.prog.underlying t = some (.slice e)) (h : DataW.trod enc Tryz.prog w base spare held fuel t [.slice a len cap] = some x) : len ≤ cap := by
  rcases open_slice ht h with ⟨h0, _⟩ | ⟨a', l, c, m, n, D, Pl, hcs, _, hl, hm, _⟩
  · simp only [List.cons.injEq, Value.slice.injEq, and_true] at h0
    omega
  · simp only [List.cons.injEq, Value.slice.injEq, and_true] at hcs
    obtain ⟨_, rfl, rfl⟩ := hcs
    omega
end
section
theorem phNext_ok {x : PhS} {a n : Int} (h : x.ok) (hc : fitsC a n) : (phNext x a n).1.ok := by
  unfold phNext
  split
  · exact h
  · split
    · split
      · exact h
      · obtain ⟨⟨a, b⟩, ⟨c, d⟩, e, f⟩ := h
        have hn : 1 ≤ n := by
          unfold fitsC at hc
          omega
        refine ⟨⟨a, b⟩, ⟨?_, ?_⟩, ?_, ?_⟩
        · show 0 ≤ x.p + n
          omega
        · show x.p + n ≤ _
          omega
        · show 0 ≤ x.q + n
          omega
        · show x.q + n ≤ x.p + n
          omega
    · split
      · exact phArrive_ok h (.inl rfl)
      · split
        · exact phArrive_ok h (.inr rfl)
        · split
          · obtain ⟨⟨a, b⟩, ⟨c, d⟩, e, f⟩ := h
            exact ⟨⟨a, b⟩, ⟨c, d⟩, e, f⟩
          · exact h
end
section
variable {n : Nat} {calls : Nat → List GC} {w0 v : Int} {log pre rest full : List LE} {t u k : Nat} {s op o w a : Int} {e : LE} {x x0 : PhS}
theorem phNext_le (hx : x.ok) (b m : Int) : (phNext x b m).2 ≤ 2147483647 := by
  have hf := hx.1.2
  have arr : ∀ l, (phArrive x l).2 ≤ 2147483647 := fun l => by
    unfold phArrive
    split
    · show (-2 : Int) ≤ _; decide
    · exact hf
  unfold phNext
  split
  · show (-1 : Int) ≤ _; decide
  · split
    · split
      · show (-3 : Int) ≤ _; decide
      · exact hf
    · split
      · exact arr 0
      · split
        · exact arr 1
        · split
          · show (0 : Int) ≤ _; decide
          · show (if x.f = m then (-4 : Int) else x.f) ≤ _
            split
            · decide
            · exact hf
end
end Go.Proofs.YtdhlmgoodpepeaaGreatDoor

namespace Go.Proofs.YtdhlmgoodpepeaaGreatDoor
set_option maxRecDepth 100000
open Go.RowKit Go.Shelf Go.Sort
set_option linter.unusedVariables false
set_option linter.unusedSimpArgs false

section
variable {l : List GC} {x0 x y : PhS} {k : Nat} {ys zs : List Int}
theorem solo_len (h : SoloG l x0 k x ys) : ys.length = k := by
  induction h with
  | nil => rfl
  | step h hx hc h1 hb ih => rw [List.length_append, ih]; rfl
theorem solo_uniq (h : SoloG l x0 k x ys) (h2 : SoloG l x0 k y zs) : x = y ∧ ys = zs := by
  induction h generalizing y zs with
  | nil => cases h2; exact ⟨rfl, rfl⟩
  | step h hx hc h1 hb ih =>
    cases h2 with
    | step g gx gc g1 gb =>
      obtain ⟨e1, e2⟩ := ih g
      subst e1 e2
      rw [hc] at gc
      obtain rfl := Option.some.inj gc
      rw [h1] at g1
      obtain ⟨rfl, rfl⟩ := Prod.mk.inj g1
      exact ⟨rfl, rfl⟩
theorem solo_at (h : SoloG l x0 k x ys) : ∀ i, i < k → ∃ (xi z : PhS) (b : Int) (c : GC), SoloG l x0 i xi (ys.take i) ∧ l[i]? = some c ∧ oneG xi c = (z, b) ∧ b ≠ -4 ∧ ys[i]? = some b ∧ SoloG l x0 (i + 1) z (ys.take (i + 1)) := by
  induction h with
  | nil => intro i hi; exact absurd hi (Nat.not_lt_zero _)
  | @step k x y ys c b h hx hc h1 hb ih =>
    have hl := solo_len h
    intro i hi
    by_cases e : i < k
    · obtain ⟨xi, z, b', c', g1, g2, g3, g4, g5, g6⟩ := ih i e
      refine ⟨xi, z, b', c', ?_, g2, g3, g4, ?_, ?_⟩
      · rw [List.take_append_of_le_length (by omega)]; exact g1
      · rw [List.getElem?_append_left (by omega)]; exact g5
      · rw [List.take_append_of_le_length (by omega)]; exact g6
    · have e : i = k := by omega
      subst e
      refine ⟨x, y, b, c, ?_, hc, h1, hb, ?_, ?_⟩
      · rw [List.take_append_of_le_length (by omega), List.take_of_length_le (by omega)]; exact h
      · rw [List.getElem?_append_right (by omega), hl, Nat.sub_self]; rfl
      · rw [List.take_of_length_le (by rw [List.length_append, hl]; exact Nat.le_refl _)]
        exact .step h hx hc h1 hb
theorem watch_same (y : PhS) (n : Int) : (phNext y 10 n).1 = y := by
  cases ho : y.o with
  | true => rw [phNext_over ho]
  | false => rw [phNext_watch ho]
theorem oneG_ok {c : GC} {b : Int} (hx : x.ok) (hc : fitsC (c.w : Int) c.n) (h : oneG x c = (y, b)) : y.ok := by
  have hask : fitsC (askW c) c.n := by
    unfold askW
    split
    · next h9 =>
      unfold fitsC at hc ⊢
      rw [h9] at hc
      omega
    · exact hc
  unfold oneG at h
  split at h
  · have := congrArg Prod.fst h
    rw [← show (phNext x (askW c) c.n).1 = y from this]
    exact phNext_ok hx hask
  · have := congrArg Prod.fst h
    rw [← show (phNext x (askW c) c.n).1 = y from this]
    exact phNext_ok hx hask
theorem solo_ok (hx0 : x0.ok) (hf : FitL l) (h : SoloG l x0 k x ys) : x.ok := by
  induction h with
  | nil => exact hx0
  | step h hx hc h1 hb ih => exact oneG_ok hx (hf _ (List.mem_of_getElem? hc)) h1
end
/-- What one thread alone was told, and whether it waits. -/
structure AloneF (L : List GC) (x0 : PhS) (own : List Int) (ends : Bool × Bool) (x : PhS) : Prop where
  len : own.length ≤ L.length
  solo : SoloG L x0 own.length x own
  fin : (own.length = L.length ∧ ends = (true, false)) ∨ ∃ c, L[own.length]? = some c ∧ (oneG x c).2 = -4 ∧ ends = (false, true)
theorem alone_fact {L : List GC} {x0 : PhS} {h : GaOk [L] x0 6} {p : Nat} {m m' : Mach} (hm : GaM h p m) (hp : p ≤ 500) (hf : Fin m m') :
    (∀ y ∈ m'.events, ∃ s v : Int, ∃ u : Nat, u < 1 ∧ y = (s, 3, (u : Int), v)) ∧ ∃ x, AloneF L x0 (ansOf m'.events 0) (endsM m') x := by
  obtain ⟨S, hS, hq⟩ := ga_fin hm hp hf
  obtain ⟨hG, hN⟩ := gaM_inv hS
  have hwf := hS.sim.wf
  have hG2 := hG
  obtain ⟨log0, q1, q2, hL0, _⟩ := hG2
  have hc0 : callsG [L] 0 = L := rfl
  obtain ⟨log, x, e1, e2, h1, h2, h3⟩ := alone_still h.ok hwf hG hN hq
  have hlen : (saidL 0 log).length = (S.th 0).k := h1
  have ht : 0 < ([L] : List (List GC)).length := Nat.zero_lt_one
  have hk := (hwf.th 0 ht).k
  rw [hc0] at h2 h3 hk
  refine ⟨by rw [← q2]; exact log_evs hL0, x, ?_⟩
  rw [← e2, ans_log]
  refine ⟨by rw [hlen]; exact hk, by rw [hlen]; exact h2, ?_⟩
  rcases h3 with h3 | ⟨hs, c, hc, h4⟩
  · refine .inl ⟨by rw [hlen]; exact h3, ga_all_ends hS fun t ht => ?_⟩
    have ht' : t < 1 := ht
    have e : t = 0 := by omega
    subst e
    exact still_end hN (hq 0 ht) ht (by rw [hc0]; exact h3)
  · refine .inr ⟨c, by rw [hlen]; exact hc, h4, ga_stuck_ends hS hq ht ?_⟩
    cases he : (S.th 0).en with
    | false => rfl
    | true =>
      have := (hwf.th 0 ht).fin he
      rw [hc0, hc] at this
      cases this
/-- Round by round: the state so far, in its block; all else is as it was. -/
structure AloneW (L : List GC) (x0 : PhS) (own : List Int) (W0 : World) (pb i : Nat) (x : PhS) (wr : World) : Prop where
  grown : W0.grownBy wr (some pb)
  ph : PhAt wr pb x.o x.f x.p x.q
  solo : SoloG L x0 i x (own.take i)
  le : i ≤ own.length
theorem irows_one {w : World} {A : Option Addr} {n c : Nat} {xs : List Int} (h : Ints .i64 w w.heap.size A n xs) (hc : n ≤ c) : IRows (w.alloc (.cells #[.slice A n c] 57)) (w.alloc (.cells #[.slice A n c] 57)).heap.size (some ⟨w.heap.size, 0, none⟩) 1 [xs] := by
  have hlen := h.len
  subst hlen
  refine ⟨rfl, fun _ => ⟨_, 0, rfl, by simp, fun i hi => ?_⟩⟩
  have hat := heap_alloc_new w (.cells #[.slice A xs.length c] 57)
  match i, hi with
  | 0, _ => exact ⟨A, c, (cell_of_row _ _ 0 _ _ _ hat).trans rfl, hc, h.old ((Below.refl w.heap.size w).alloc (Nat.le_refl _) _)⟩
theorem ends_but {wb w7 wr : World} {c pb : Nat} {m : Mach} (h : At wb c m w7) (hp : pb < wb.heap.size) (hg : w7.grownBy wr (some pb)) (hn : m.progs.length ≤ 16) :
    Calls Tryz.prog 27 #[.pointer (some ⟨c, 0, none⟩)] wr fun e w' => e = .returned (.tuple #[.bool (endsM m).1, .bool (endsM m).2]) ∧ wr.grownBy w' none := by
  obtain ⟨S, X, rfl, hC, hB⟩ := h
  exact ends_any (hC.keeps (T := fun k => k = pb) (Keeps.of_grown hg (fun k hk => by injection hk with hk; exact hk.symm)) (fun k hk e => by have := (hC.slo k hk).1; omega)) hn
theorem own_ints_ne {w : World} {B n c pb : Nat} {A : Option Addr} {ys : List Int} (h : w.ownsRow B 3 1 (.slice A n c) n (ys.map (Value.int .i64))) (hpb : pb < B) :
    ys.length = n ∧ (0 < n → ∃ g off, A = some ⟨g, off, none⟩ ∧ g ≠ pb ∧ g < w.heap.size ∧ ∀ j, j < n → w.cell? ⟨g, off + j, none⟩ = some (.int .i64 (ys.getD j 0))) := by
  have hI := Ints.of_own h
  refine ⟨hI.len, fun h0 => ?_⟩
  obtain ⟨b, off, hA, hb, hx⟩ := hI.row h0
  subst hA
  have := h.lt b rfl
  exact ⟨b, off, rfl, by omega, hb, hx⟩
/-- What the next call comes to: it is what was told, or it waits. -/
theorem alone_next {L : List GC} {x0 x xe : PhS} {own : List Int} {ends : Bool × Bool} {i : Nat} (h : AloneF L x0 own ends xe) (hs : SoloG L x0 i x (own.take i)) (hi : i ≤ own.length) (hl : i < L.length) :
    ∃ (c : GC) (y : PhS) (b : Int), L[i]? = some c ∧ oneG x c = (y, b) ∧ ((i < own.length ∧ b ≠ -4 ∧ own.getD i 0 = b ∧ SoloG L x0 (i + 1) y (own.take (i + 1))) ∨ (i = own.length ∧ b = -4 ∧ ends = (false, true))) := by
  by_cases hk : i < own.length
  · obtain ⟨xi, z, b, c, g1, g2, g3, g4, g5, g6⟩ := solo_at h.solo i hk
    obtain ⟨rfl, -⟩ := solo_uniq hs g1
    exact ⟨c, z, b, g2, g3, .inl ⟨hk, g4, by rw [List.getD_eq_getElem?_getD, g5]; rfl, g6⟩⟩
  · have e : i = own.length := by omega
    subst e
    rw [List.take_of_length_le (Nat.le_refl _)] at hs
    obtain ⟨rfl, -⟩ := solo_uniq hs h.solo
    rcases h.fin with ⟨h1, _⟩ | ⟨c, h1, h2, h3⟩
    · omega
    · exact ⟨c, (oneG x c).1, (oneG x c).2, h1, rfl, .inr ⟨rfl, h2, h3⟩⟩
theorem put4_grown (w : World) (b : Nat) (o : Bool) (f p q : Int) : w.grownBy (put4 w b o f p q) (some b) := by
  have h : ∀ (w : World) (i : Nat) (v : Value), w.grownBy (w.setCell ⟨b, i, none⟩ v) (some b) := fun w i v => ⟨rfl, rfl, rfl, by simp, fun k _ hk => heap_setCell_other w ⟨b, i, none⟩ k v (fun e => hk (by simp [e]))⟩
  exact (((h w 0 _).andThen (h _ 1 _) (fun k hk => .inr hk)).andThen (h _ 2 _) (fun k hk => .inr hk)).andThen (h _ 3 _) (fun k hk => .inr hk)
theorem put4_far (w : World) (b c : Nat) (o : Bool) (f p q : Int) (hn : ¬ b = c) (hc : c < w.heap.size) {v : Value} (h : w.cell? ⟨c, 0, none⟩ = some v) (O : Obj) : ((put4 w b o f p q).alloc O).cell? ⟨c, 0, none⟩ = some v := by
  have h1 : w.grownBy ((put4 w b o f p q).alloc O) (some b) := (put4_grown w b o f p q).andThen (World.grownBy_alloc _ O none) (fun k hk => by cases hk)
  exact h1.cell h (fun e => hn (by injection e with e; exact e.symm))
theorem alone_step {w7 x2 : World} {pb : Nat} {o : Bool} {f p q : Int} (hg : w7.grownBy x2 (some pb)) (hp : PhAt x2 pb o f p q) (O : Obj) (o2 : Bool) (f2 p2 q2 : Int) :
    w7.grownBy ((put4 x2 pb o2 f2 p2 q2).alloc O) (some pb) ∧ PhAt ((put4 x2 pb o2 f2 p2 q2).alloc O) pb o2 f2 p2 q2 :=
  ⟨(hg.andThen (put4_grown x2 pb o2 f2 p2 q2) (fun k hk => .inr hk)).andThen (World.grownBy_alloc _ O none) (fun k hk => by cases hk), (hp.set4 o2 f2 p2 q2).alloc O⟩
theorem box_two (w : World) (a1 a2 b1 : Int) : ((w.alloc (.cells #[.int .i64 a1, .int .i64 a2] 63)).alloc (.cells #[.int .i64 b1, .int .i64 a2] 63)).cell? ⟨w.heap.size, 0, none⟩ = some (.int .i64 a1) ∧ ((w.alloc (.cells #[.int .i64 a1, .int .i64 a2] 63)).alloc (.cells #[.int .i64 b1, .int .i64 a2] 63)).cell? ⟨w.heap.size, 1, none⟩ = some (.int .i64 a2) := by
  have h : ((w.alloc (.cells #[.int .i64 a1, .int .i64 a2] 63)).alloc (.cells #[.int .i64 b1, .int .i64 a2] 63)).heap[w.heap.size]? = some (.cells #[.int .i64 a1, .int .i64 a2] 63 (0, 0)) := (Below.heap_alloc _ _ w.heap.size (by simp)).trans (heap_alloc_new w _)
  exact ⟨(cell_in h 0).trans rfl, (cell_in h 1).trans rfl⟩
set_option maxHeartbeats 8000000 in
theorem gatherAlone_any {w : World} (hw : CW w) (A : Option Addr) (n cap : Nat) (xs : List Int) (hR : Ints .i64 w w.heap.size A n xs) (hcap : n ≤ cap) (phase parties : Int) :
    Calls Tryz.prog 6 #[.slice A n cap, .int .i64 phase, .int .i64 parties] w fun e w' => e = .returned (.bool true) ∧ Below w.heap.size w w' := by
  have HGt := Lib.hid (gathered_any hw)
  obtain ⟨f0, p0, hok, hbg⟩ := begins_any phase parties
  have HBg := Lib.hid hbg
  have HOk := Lib.hid hok
  have HR := Lib.hid hR
  have HW := Lib.hid hw
  have HCap := Lib.hid hcap
  clear hR hw hcap hok hbg
  go_enter Tryz.func6, Tryz.ntmps6
  go_wp2_with fail
  refine HGt.out.mono ?_
  rintro e w1 ⟨rfl, hb1⟩
  have HB1 := Lib.hid hb1
  clear hb1 HGt
  go_wp2_with fail
  --MA
  refine (phased_any _).mono ?_
  rintro e w2 ⟨rfl, hb2⟩
  have hB2 := HB1.out.trans (hb2.mono HB1.out.size)
  have hI2 := HR.out.old hB2
  have hr1 := irows_one hI2 HCap.out
  have HGu := Lib.hid (guests_any (some ⟨w2.heap.size, 0, none⟩) 1 1 [xs] hr1 (Nat.le_refl _))
  have HB2 := Lib.hid (hB2.trans (((Below.refl w2.heap.size w2).alloc (Nat.le_refl _) (.cells #[.slice A n cap] 57)).mono hB2.size))
  clear hb2 hB2 hI2 hr1 HB1 HR HCap
  go_wp2_with fail
  --MB
  refine HGu.out.mono ?_
  rintro e w3 ⟨v3, rfl, ⟨A3, c3, Ls, rfl, hN, hLs, hL6⟩⟩
  obtain ⟨L, rfl⟩ : ∃ L, Ls = [L] := by
    match Ls, hLs with
    | [L], _ => exact ⟨L, rfl⟩
  have hN : GaNest _ A3 1 c3 [L] w3 := hN
  have HN := Lib.hid hN
  have HL6 := Lib.hid (hL6 L (List.mem_singleton.2 rfl))
  have HB3 := Lib.hid (HB2.out.trans (hN.bel.mono HB2.out.size))
  clear hN hLs hL6 HGu HB2
  go_wp2_with fail
  --MC
  refine (HBg.out _).mono ?_
  rintro e w4 ⟨rfl, hb4⟩
  obtain ⟨wd, hwd⟩ : ∃ wd, PhS.word ⟨false, f0, p0, p0⟩ = wd := ⟨_, rfl⟩
  have hbP := (Below.refl w4.heap.size w4).alloc (Nat.le_refl _) (.cells #[.bool false, .int .i64 f0, .int .i64 p0, .int .i64 p0] 28)
  have hbb := hb4.trans (hbP.mono hb4.size)
  have hB5 := HB3.out.trans (hbb.mono HB3.out.size)
  have hok2 : GaOk [L] ⟨false, f0, p0, p0⟩ 6 := ⟨by show (1 : Nat) ≤ 16; decide, fun M hM => by rw [List.mem_singleton.1 hM]; exact HL6.out.1, by decide, fun M hM => by rw [List.mem_singleton.1 hM]; exact HL6.out.2, HOk.out, by show 1 * ((39 + 28 * 1) * 6 + 1) + 4000 < 20000; decide⟩
  have hcr := HN.out.calls.old hbb
  have HMd := Lib.hid (gamade3 HW.out hB5 hok2 A3 none 1 c3 0 0 hcr [] ⟨rfl, fun h => absurd h (by omega)⟩ (by omega) wd hwd.symm)
  rw [World.size_alloc] at HMd
  have HB5 := Lib.hid hB5
  have HCr := Lib.hid (HN.out.calls.below hbb)
  have HLe := Lib.hid hb4.size
  have HPb := Lib.hid (PhAt.new w4 false f0 p0 p0)
  rw [hwd]
  clear hb4 hbP hbb hB5 hwd HN HW HBg hcr
  go_wp2_with fail
  --MD
  refine HMd.out.mono ?_
  rintro e w5 ⟨c, m, rfl, hA, -⟩
  have HLo := Lib.hid (show w4.heap.size < (w4.alloc (.cells #[.bool false, .int .i64 f0, .int .i64 p0, .int .i64 p0] 28)).heap.size by simp)
  have HF := Lib.hid (at_finish hA.at_ hA.big)
  have HL := Lib.hid (show GaM hok2 0 m from hA.la)
  clear hA HMd
  go_wp2_with fail
  refine HF.out.mono ?_
  rintro e w6 ⟨m', hf, rfl, hA2, hb2⟩
  obtain ⟨f6, x, hAF⟩ := alone_fact HL.out (by decide) hf
  have hev : m'.events.length ≤ 20000 := by have := hb2.events; have := hb2.most; omega
  have HAn := Lib.hid (answers_any (n := 1) hA2 hev f6 (by decide))
  have HFew := Lib.hid hb2.few
  have HA2 := Lib.hid hA2
  have HAF := Lib.hid hAF
  generalize ((m'.steps : Int) - (m.steps : Int)) = dd
  clear hf hA2 hb2 f6 hev hAF HF HL
  go_wp2_with fail
  --ME
  refine HAn.out.mono ?_
  rintro e w7 ⟨g, rfl, hAn⟩
  have hB7 := HA2.out.keepB hAn.bel
  have HA7 := Lib.hid hB7
  have hpb7 := HPb.out.below hB7.bel HPb.out.lt
  have hcr7 := HCr.out.below (hB7.bel.mono (by have := HLe.out; have := HLo.out; omega))
  have HB7 := Lib.hid (HB5.out.trans (hB7.bel.mono HB5.out.size))
  have HLo2 := Lib.hid (show w4.heap.size < w6.heap.size by have := HA2.out.bel.size; have := HLo.out; omega)
  obtain ⟨xs7, q1, q2, q3⟩ := hAn.row
  obtain ⟨A0, c0, q4, q5⟩ := q2 0 (by decide)
  have hcell0 : w7.cell? ⟨g, 0, none⟩ = some (.slice A0 (ansOf m'.events 0).length c0) := (q1.cellAt 0 (by have := q1.1; omega)).trans q4
  obtain ⟨ow1, ow2⟩ := own_ints_ne q5 HLo2.out
  obtain ⟨own, hown⟩ : ∃ own, ansOf m'.events 0 = own := ⟨_, rfl⟩
  rw [hown] at hcell0 ow1 ow2 HAF
  obtain ⟨K, hK⟩ : ∃ K, own.length = K := ⟨_, rfl⟩
  rw [hK] at hcell0 ow2
  obtain ⟨b3, off3, hA3, hb3, hx3⟩ := hcr7.row (by decide)
  subst hA3
  obtain ⟨A6, c6, hcell6, hrow6⟩ := hx3 0 (by decide)
  have hcell6 : w7.cell? ⟨b3, off3, none⟩ = some (.slice A6 L.length c6) := by
    have e : (([L].map (List.map encG)).getD 0 []).length = L.length := by simp
    rw [e] at hcell6; exact hcell6
  have hrow6 : CRow w7 w3.heap.size A6 L.length (L.map encG) := by
    have e : ([L].map (List.map encG)).getD 0 [] = L.map encG := rfl
    rw [e, List.length_map] at hrow6; exact hrow6
  have HRow6 := Lib.hid hrow6
  have HOw := Lib.hid (And.intro hK ow2)
  have HW7 := Lib.hid (show AloneW L ⟨false, f0, p0, p0⟩ own w7 w4.heap.size 0 ⟨false, f0, p0, p0⟩ w7 from ⟨World.grownBy.refl _ _, hpb7, .nil, Nat.zero_le _⟩)
  have hL6 := HL6.out.1
  clear hAn hB7 hpb7 hcr7 q1 q2 q3 q4 q5 ow1 ow2 hown hK hx3 hrow6 HAn HA2 HCr HPb HB5 HLo
  --MF
  obtain ⟨nl, hnl⟩ : ∃ nl, L.length = nl := ⟨_, rfl⟩
  rw [hnl] at hcell6 HRow6 hL6
  have HNl := Lib.hid hnl
  have HBw := Lib.hid (show w.heap.size ≤ w4.heap.size by have := HB3.out.size; have := HLe.out; omega)
  have HB3l := Lib.hid hb3
  obtain ⟨pb, hpb⟩ : ∃ pb, w4.heap.size = pb := ⟨_, rfl⟩
  rw [hpb] at HW7 HLe HOw HLo2
  have HPB := Lib.hid hpb
  clear hnl
  go_wp2
  try rw [hpb]
  clear hpb
  --MG
  go_loopw [59] (fun j wr => ∃ (i : Nat) (x : PhS), i ≤ nl ∧ j = .int .i64 i ∧ Hid (AloneW L ⟨false, f0, p0, p0⟩ own w7 pb i x wr)) (fun j _ => nl - (intOf j).toNat)
  case atStart => exact ⟨0, _, Nat.zero_le _, rfl, HW7⟩
  case round =>
    obtain ⟨i, x, hi, rfl, hq⟩ := hrel
    by_cases hlt : i < nl
    · have hkn : (i : Int) < (nl : Int) := by omega
      obtain ⟨cc, y, b, hc, hone, hcase⟩ := alone_next HAF.out hq.out.solo hq.out.le (by rw [HNl.out]; exact hlt)
      have xok : x.ok := solo_ok HOk.out HL6.out.2 hq.out.solo
      have hfit := HL6.out.2 cc (List.mem_of_getElem? hc)
      obtain ⟨b6, off6, hA6, hb6, hx6⟩ := HRow6.out.row (by omega)
      subst hA6
      have hne6 : b6 ≠ pb := by have := HLe.out; omega
      have hgd : (L.map encG).getD i default = ((cc.w : Int), cc.n) := by rw [List.getD_eq_getElem?_getD, List.getElem?_map, hc]; rfl
      have hx1 : wr.cell? ⟨b6, off6 + i * 2, none⟩ = some (.int .i64 (cc.w : Int)) := by
        have := hq.out.grown.cell (hx6 i hlt).1 (fun e => hne6 (by injection e))
        rw [hgd] at this
        exact this
      have hx2 : wr.cell? ⟨b6, off6 + i * 2 + 1, none⟩ = some (.int .i64 cc.n) := by
        have := hq.out.grown.cell (hx6 i hlt).2 (fun e => hne6 (by injection e))
        rw [hgd] at this
        exact this
      obtain ⟨a2, ha2⟩ : ∃ a2, cc.n = a2 := ⟨_, rfl⟩
      obtain ⟨a1, ha1⟩ : ∃ a1 : Int, (cc.w : Int) = a1 := ⟨_, rfl⟩
      rw [ha2] at hx2 hfit
      rw [ha1] at hx1 hfit
      have HFit := Lib.hid hfit
      have HXok := Lib.hid xok
      have HCase := Lib.hid hcase
      have hph := hq.out.ph
      obtain ⟨o, f, p, q⟩ := x
      obtain ⟨o2, f2, p2, q2⟩ := y
      have hph : PhAt wr pb o f p q := hph
      have HPh := Lib.hid hph
      have HGr := Lib.hid hq.out.grown
      by_cases h9 : cc.w = 9
      · obtain rfl : a1 = 9 := by rw [← ha1, h9]; rfl
        have hask : askW cc = 7 := by unfold askW; rw [if_pos h9]
        have hfit7 : fitsC 7 a2 := by have := HFit.out; unfold fitsC at this ⊢; omega
        obtain ⟨y1, n1, hy1⟩ : ∃ y1 n1, phNext ⟨o, f, p, q⟩ 7 a2 = (y1, n1) := ⟨_, _, rfl⟩
        have hy1ok : y1.ok := by have := phNext_ok HXok.out hfit7; rw [hy1] at this; exact this
        have hn1le : n1 ≤ 2147483647 := by have := phNext_le HXok.out 7 a2; rw [hy1] at this; exact this
        have hone1 : oneG ⟨o, f, p, q⟩ cc = if 0 ≤ n1 then (y1, (phNext y1 10 n1).2) else (y1, n1) := by
          unfold oneG
          rw [hask, ha2, hy1]
          by_cases h0 : 0 ≤ n1
          · rw [if_pos ⟨h9, h0⟩, if_pos h0]
          · rw [if_neg (fun h => h0 h.2), if_neg h0]
        rw [hone1] at hone
        obtain ⟨o1, f1, p1, q1⟩ := y1
        have HD := Lib.hid (fun W => psDo_any o f p q 7 a2 W HXok.out hfit7 (by decide) hy1)
        have HPd := Lib.hid ((hph.alloc (.cells #[.int .i64 9, .int .i64 a2] 63)).alloc (.cells #[.int .i64 7, .int .i64 a2] 63))
        obtain ⟨c1, c2, c3', c4⟩ := hph.cells
        have hpl := hph.lt
        have HY1 := Lib.hid (And.intro hy1ok hn1le)
        have HOne := Lib.hid hone
        clear hone hone1 hc hgd hfit xok hcase hph hx6 ha1 ha2 hq hask hfit7 hy1 hy1ok hn1le h9
        go_wp2_with fail
        --MP
        refine (HD.out _).mono ?_
        rintro e x2 ⟨rfl, hb⟩

        have hp2 := HPd.out.below hb HPd.out.lt
        have hg2 := HGr.out.andThen (gr_al (gr_al (gr_of hb))) (fun k hk => by cases hk)
        obtain ⟨d1, d2, d3, d4⟩ := hp2.cells
        have z0 := hp2.frozen 0
        have z1 := hp2.frozen 1
        have z2 := hp2.frozen 2
        have z3 := hp2.frozen 3
        have hl2 := hp2.lt
        have hl3 : pb < x2.heap.size + 1 := by omega
        have HG2 := Lib.hid hg2
        have HG7 := Lib.hid (show w7.heap.size ≤ x2.heap.size from hg2.size)
        have HS2 := Lib.hid (alone_step hg2 hp2 (.cells #[.bool o1, .int .i64 f1, .int .i64 p1, .int .i64 q1] 28) o1 f1 p1 q1)
        have k0 : x2.cell? ⟨wr.heap.size, 0, none⟩ = some (.int .i64 9) := (hb.cell (p := ⟨wr.heap.size, 0, none⟩) (by simp; omega)).trans (box_two wr 9 a2 7).1
        have k1 : x2.cell? ⟨wr.heap.size, 1, none⟩ = some (.int .i64 a2) := (hb.cell (p := ⟨wr.heap.size, 1, none⟩) (by simp; omega)).trans (box_two wr 9 a2 7).2
        have hs14 : wr.heap.size < x2.heap.size := by have := hb.size; simp at this; omega
        have hs14' : wr.heap.size < x2.heap.size + 1 := by omega
        have hn14 : ¬ wr.heap.size = pb := by omega
        have hn14' : ¬ pb = wr.heap.size := by omega

        clear hb hp2 hg2 HPd HGr HPh c1 c2 c3' c4 hpl hx1 hx2
        by_cases h0 : 0 ≤ n1
        · have hyb : (⟨o1, f1, p1, q1⟩ : PhS) = ⟨o2, f2, p2, q2⟩ ∧ (phNext ⟨o1, f1, p1, q1⟩ 10 n1).2 = b := by
            have := HOne.out
            rw [if_pos h0] at this
            exact Prod.mk.inj this
          obtain ⟨he, hb2⟩ := hyb
          injection he with e1 e2 e3 e4
          subst e1 e2 e3 e4
          have hx10 : phNext ⟨o1, f1, p1, q1⟩ 10 n1 = (⟨o1, f1, p1, q1⟩, b) := Prod.ext (watch_same _ _) hb2
          have HD2 := Lib.hid (fun W => psDo_any o1 f1 p1 q1 10 n1 W HY1.out.1 (.inr (.inl ⟨rfl, h0, HY1.out.2⟩)) (by decide) hx10)
          have hP16 : PhAt ((put4 x2 pb o1 f1 p1 q1).alloc (.cells #[.bool o1, .int .i64 f1, .int .i64 p1, .int .i64 q1] 28)) x2.heap.size o1 f1 p1 q1 := by
            have := PhAt.new (put4 x2 pb o1 f1 p1 q1) o1 f1 p1 q1
            rwa [size4] at this
          have HP16 := Lib.hid hP16
          have K0 := Lib.hid (put4_far x2 pb wr.heap.size o1 f1 p1 q1 hn14' hs14 k0 (.cells #[.bool o1, .int .i64 f1, .int .i64 p1, .int .i64 q1] 28))
          have SZ := Lib.hid (show ((put4 x2 pb o1 f1 p1 q1).alloc (.cells #[.bool o1, .int .i64 f1, .int .i64 p1, .int .i64 q1] 28)).heap.size = x2.heap.size + 1 by rw [World.size_alloc, size4])
          clear hb2 hx10 hP16 HOne
          go_wp2_with fail
          --MQ
          refine (HD2.out _).mono ?_
          rintro e x3 ⟨rfl, hb3⟩
          have hp3 := HS2.out.2.below hb3 HS2.out.2.lt
          have hp16 := HP16.out.below hb3 HP16.out.lt
          have hg3 := HS2.out.1.andThen (gr_of hb3) (fun k hk => by cases hk)
          have hsz3 : x2.heap.size + 1 ≤ x3.heap.size := Nat.le_trans (Nat.le_of_eq SZ.out.symm) hb3.size
          have k3 : x3.cell? ⟨wr.heap.size, 0, none⟩ = some (.int .i64 9) := (hb3.cell (p := ⟨wr.heap.size, 0, none⟩) (Nat.lt_of_lt_of_le hs14' (Nat.le_of_eq SZ.out.symm))).trans K0.out
          clear d1 d2 d3 d4 z0 z1 z2 z3 k0 k1 HS2 HG2
          obtain ⟨d1, d2, d3, d4⟩ := hp3.cells
          obtain ⟨u1', u2', u3', u4'⟩ := hp16.cells
          have z0 := hp16.frozen 0
          have z1 := hp16.frozen 1
          have z2 := hp16.frozen 2
          have z3 := hp16.frozen 3
          have hl4 := hp3.lt
          have hl5 := hp16.lt
          have hnb : ¬ x2.heap.size = pb := by omega
          have hnb' : ¬ pb = x2.heap.size := by omega
          have hnb14 : ¬ x2.heap.size = wr.heap.size := by omega
          have HG2 := Lib.hid hg3
          have HS2 : Hid (w7.grownBy (put4 x3 x2.heap.size o1 f1 p1 q1) (some pb) ∧ PhAt (put4 x3 x2.heap.size o1 f1 p1 q1) pb o1 f1 p1 q1) :=
            Lib.hid ⟨hg3.andThen (put4_grown x3 x2.heap.size o1 f1 p1 q1) (fun k hk => .inl (by injection hk with hk; have := HG7.out; omega)), hp3.far4 hnb' o1 f1 p1 q1⟩
          clear hb3 hp3 hp16 hg3 K0 HP16 SZ
          rcases HCase.out with ⟨hiK, hb4, hget, hsolo⟩ | ⟨hiK, hb4, hends⟩
          · obtain ⟨og, ooff, hoA, hog, hogl, hox⟩ := HOw.out.2 (by have := HOw.out.1; omega)
            subst hoA
            have hoc : x3.cell? ⟨og, ooff + i, none⟩ = some (.int .i64 b) := by
              have := HG2.out.cell (hox i (by have := HOw.out.1; omega)) (fun e => hog (by injection e))
              rw [hget] at this
              exact this
            have hogl1 : og < x3.heap.size := by have := HG2.out.size; omega
            have hogl2 : og < x3.heap.size + 1 := by omega
            have hog' : ¬ pb = og := fun e => hog e.symm
            have hogb : ¬ x2.heap.size = og := by have := HG7.out; omega
            have hKi2 : ¬ K ≤ i := by have := HOw.out.1; omega
            have hKi : ¬ (K : Int) ≤ (i : Int) := by omega
            have hiK2 : (i : Int) < (K : Int) := by omega
            have HSo := Lib.hid (And.intro hiK hsolo)
            clear hsolo hiK hget hox HCase
            go_wp2_with fail
            go_roundw
            case rel => exact ⟨i + 1, ⟨o1, f1, p1, q1⟩, by omega, by go_num, Lib.hid ⟨HS2.out.1, HS2.out.2, HSo.out.2, HSo.out.1⟩⟩
            case measure => simp [intOf]; omega
          · have HEn := Lib.hid (ends_but HA7.out (by have := HPB.out; simp; omega) HS2.out.1 HFew.out)
            rw [hends] at HEn
            have hKi : K = i := by have := HOw.out.1; omega
            subst hKi
            have HFin := Lib.hid (HB7.out.grown HS2.out.1 HB7.out.size (fun k hk => by injection hk with hk; have := HPB.out; have := HBw.out; omega))
            clear hiK hends HCase
            go_wp2_with fail
            refine HEn.out.mono ?_
            rintro e x9 ⟨rfl, hg9⟩
            have HFin9 := Lib.hid (HFin.out.trans ((below_gr hg9).mono HFin.out.size))
            clear hg9 HEn HFin
            go_wp2
            go_ret
            exact ⟨rfl, HFin9.out⟩
        · have hyb : (⟨o1, f1, p1, q1⟩ : PhS) = ⟨o2, f2, p2, q2⟩ ∧ n1 = b := by
            have := HOne.out
            rw [if_neg h0] at this
            exact Prod.mk.inj this
          obtain ⟨he, hb2⟩ := hyb
          injection he with e1 e2 e3 e4
          subst e1 e2 e3 e4 hb2
          rcases HCase.out with ⟨hiK, hb4, hget, hsolo⟩ | ⟨hiK, hb4, hends⟩
          · obtain ⟨og, ooff, hoA, hog, hogl, hox⟩ := HOw.out.2 (by have := HOw.out.1; omega)
            subst hoA
            have hoc : x2.cell? ⟨og, ooff + i, none⟩ = some (.int .i64 n1) := by
              have := HG2.out.cell (hox i (by have := HOw.out.1; omega)) (fun e => hog (by injection e))
              rw [hget] at this
              exact this
            have hogl1 : og < x2.heap.size := by have := HG2.out.size; omega
            have hogl2 : og < x2.heap.size + 1 := by omega
            have hog' : ¬ pb = og := fun e => hog e.symm
            have hKi2 : ¬ K ≤ i := by have := HOw.out.1; omega
            have hKi : ¬ (K : Int) ≤ (i : Int) := by omega
            have hiK2 : (i : Int) < (K : Int) := by omega
            have HSo := Lib.hid (And.intro hiK hsolo)
            clear hsolo hiK hget hox HCase
            go_wp2_with fail
            go_roundw
            case rel => exact ⟨i + 1, ⟨o1, f1, p1, q1⟩, by omega, by go_num, Lib.hid ⟨HS2.out.1, HS2.out.2, HSo.out.2, HSo.out.1⟩⟩
            case measure => simp [intOf]; omega
          · have HEn := Lib.hid (ends_but HA7.out (by have := HPB.out; simp; omega) HS2.out.1 HFew.out)
            rw [hends] at HEn
            have hKi : K = i := by have := HOw.out.1; omega
            subst hKi
            have HFin := Lib.hid (HB7.out.grown HS2.out.1 HB7.out.size (fun k hk => by injection hk with hk; have := HPB.out; have := HBw.out; omega))
            clear hiK hends HCase
            go_wp2_with fail
            refine HEn.out.mono ?_
            rintro e x9 ⟨rfl, hg9⟩
            have HFin9 := Lib.hid (HFin.out.trans ((below_gr hg9).mono HFin.out.size))
            clear hg9 HEn HFin
            go_wp2
            go_ret
            exact ⟨rfl, HFin9.out⟩
      · have h9' : ¬ a1 = 9 := by rw [← ha1]; omega
        have hone' : phNext ⟨o, f, p, q⟩ a1 a2 = (⟨o2, f2, p2, q2⟩, b) := by
          unfold oneG at hone
          rw [if_neg (fun h => h9 h.1)] at hone
          unfold askW at hone
          rw [if_neg h9, ha1, ha2] at hone
          exact hone
        have HD := Lib.hid (fun W => psDo_any o f p q a1 a2 W HXok.out HFit.out h9' hone')
        have hpd := (hph.alloc (.cells #[.int .i64 a1, .int .i64 a2] 63)).alloc (.cells #[.int .i64 a1, .int .i64 a2] 63)
        have HPd := Lib.hid hpd
        obtain ⟨c1, c2, c3', c4⟩ := hph.cells
        have hpl := hph.lt
        clear hone hone' hc hgd hfit xok hcase hph hpd hx6 ha1 ha2 hq
        go_wp2_with fail
        refine (HD.out _).mono ?_
        rintro e x2 ⟨rfl, hb⟩

        have hp2 := HPd.out.below hb HPd.out.lt
        have hg2 := HGr.out.andThen (gr_al (gr_al (gr_of hb))) (fun k hk => by cases hk)
        obtain ⟨d1, d2, d3, d4⟩ := hp2.cells
        have z0 := hp2.frozen 0
        have z1 := hp2.frozen 1
        have z2 := hp2.frozen 2
        have z3 := hp2.frozen 3
        have hl2 := hp2.lt
        have hl3 : pb < x2.heap.size + 1 := by omega
        have HG2 := Lib.hid hg2
        have HS2 := Lib.hid (alone_step hg2 hp2 (.cells #[.bool o2, .int .i64 f2, .int .i64 p2, .int .i64 q2] 28) o2 f2 p2 q2)
        have k0 : x2.cell? ⟨wr.heap.size, 0, none⟩ = some (.int .i64 a1) := (hb.cell (p := ⟨wr.heap.size, 0, none⟩) (by simp; omega)).trans (box_two wr a1 a2 a1).1
        have k1 : x2.cell? ⟨wr.heap.size, 1, none⟩ = some (.int .i64 a2) := (hb.cell (p := ⟨wr.heap.size, 1, none⟩) (by simp; omega)).trans (box_two wr a1 a2 a1).2
        have hs14 : wr.heap.size < x2.heap.size := by have := hb.size; simp at this; omega
        have hs14' : wr.heap.size < x2.heap.size + 1 := by omega
        have hn14 : ¬ wr.heap.size = pb := by omega
        have hn14' : ¬ pb = wr.heap.size := by omega

        clear hb hp2 hg2 HPd HGr HPh c1 c2 c3' c4 hpl hx1 hx2

        rcases HCase.out with ⟨hiK, hb4, hget, hsolo⟩ | ⟨hiK, hb4, hends⟩
        · obtain ⟨og, ooff, hoA, hog, hogl, hox⟩ := HOw.out.2 (by have := HOw.out.1; omega)
          subst hoA
          have hoc : x2.cell? ⟨og, ooff + i, none⟩ = some (.int .i64 b) := by
            have := HG2.out.cell (hox i (by have := HOw.out.1; omega)) (fun e => hog (by injection e))
            rw [hget] at this
            exact this
          have hogl1 : og < x2.heap.size := by have := HG2.out.size; omega
          have hogl2 : og < x2.heap.size + 1 := by omega
          have hog' : ¬ pb = og := fun e => hog e.symm
          have hKi2 : ¬ K ≤ i := by have := HOw.out.1; omega
          have hKi : ¬ (K : Int) ≤ (i : Int) := by omega
          have hiK2 : (i : Int) < (K : Int) := by omega
          have HSo := Lib.hid (And.intro hiK hsolo)
          clear hsolo hiK hget hox HCase
          go_wp2_with fail
          go_roundw
          case rel => exact ⟨i + 1, ⟨o2, f2, p2, q2⟩, by omega, by go_num, Lib.hid ⟨HS2.out.1, HS2.out.2, HSo.out.2, HSo.out.1⟩⟩
          case measure => simp [intOf]; omega
        · have HEn := Lib.hid (ends_but HA7.out (by have := HPB.out; simp; omega) HS2.out.1 HFew.out)
          rw [hends] at HEn
          have hKi : K = i := by have := HOw.out.1; omega
          subst hKi
          have HFin := Lib.hid (HB7.out.grown HS2.out.1 HB7.out.size (fun k hk => by injection hk with hk; have := HPB.out; have := HBw.out; omega))
          clear hiK hends HCase
          go_wp2_with fail
          refine HEn.out.mono ?_
          rintro e x9 ⟨rfl, hg9⟩
          have HFin9 := Lib.hid (HFin.out.trans ((below_gr hg9).mono HFin.out.size))
          clear hg9 HEn HFin
          go_wp2
          go_ret
          exact ⟨rfl, HFin9.out⟩
    · have hkn : ¬ (i : Int) < (nl : Int) := by omega
      obtain rfl : i = nl := by omega
      have hend : K = i ∧ endsM m' = (true, false) := by
        have h1 := hq.out.le
        have h2 := HAF.out.len
        have h3 := HOw.out.1
        have h4 := HNl.out
        refine ⟨by omega, ?_⟩
        rcases HAF.out.fin with ⟨_, h⟩ | ⟨c', hc', _⟩
        · exact h
        · have := (List.getElem?_eq_some_iff.1 hc').1
          omega
      have HEn := Lib.hid (ends_but HA7.out (by have := HPB.out; simp; omega) hq.out.grown HFew.out)
      rw [hend.2] at HEn
      have hKi := hend.1
      have HFin := Lib.hid (HB7.out.grown hq.out.grown HB7.out.size (fun k hk => by injection hk with hk; have := HPB.out; have := HBw.out; omega))
      have hc6 := hq.out.grown.cell hcell6 (fun e => (show b3 ≠ pb by have := HB3l.out; have := HLe.out; omega) (by injection e))
      have HC6 := Lib.hid hc6
      subst hKi
      clear hend hq hc6 hcell6
      go_wp2_with fail
      --MR
      refine HEn.out.mono ?_
      rintro e x9 ⟨rfl, hg9⟩
      have HFin9 := Lib.hid (HFin.out.trans ((below_gr hg9).mono HFin.out.size))
      have hc6 := hg9.cell HC6.out (by simp)
      clear hg9 HEn HFin HC6
      go_wp2
      go_ret
      exact ⟨rfl, HFin9.out⟩
end Go.Proofs.YtdhlmgoodpepeaaGreatDoor

namespace Go.Proofs.YtdhlmgoodpepeaaGreatDoor.gatherAlone
open Go.ChangeShapes Go.WideShapes Go.ChangeAt Go.RowKit
set_option linter.unusedVariables false

theorem own : ownKnob Tryz.prog.godebug = none := by kernel_rfl
theorem laidOut : laidOutB Tryz.prog = true := by kernel_rfl
theorem tsize : Tryz.prog.types.size = 276 := by kernel_rfl

/-- What the listed variables give the walk. -/
theorem cw_of {W : World} (h : laidMetH Tryz.prog Rows.gatherAloneRow.laid W) : CW W := by
  have h' : laidMet Tryz.prog (Rows.gatherAloneRow.laid.filter fun x => x.2.handleName?.isNone) W ∧ handlesMet Tryz.prog (Rows.gatherAloneRow.laid.filter fun x => x.2.handleName?.isSome) W := h
  exact cw_of_laid h'.1 (List.mem_filter.2 ⟨.tail _ (.head _), rfl⟩)

/-- So many blocks has the settled world. -/
noncomputable def low : Nat := (World.holding Tryz.prog default ⟨#[], #[], []⟩).heap.size
def put (o : Obj) (cs : Array Value) : Obj := match o with
  | .cells _ t frozen => .cells cs t frozen
  | o => o
def tab (k : IntKind) (zs : List Int) : Array Value := (zs.map fun z => Value.int k z).toArray
/-- A world that meets the condition. -/
noncomputable def laidWorld (os : Os) : World :=
  let w0 := World.holding Tryz.prog os ⟨#[], #[], []⟩
  { w0 with heap := ((w0.heap.modify 0 (put · #[.iface 231 (.agg #[.pointer (some ⟨2, 38, none⟩)])])).modify 1 (put · formCells)) }
theorem laidWorld_met (os : Os) (args : Array Value) : laidMetH Tryz.prog Rows.gatherAloneRow.laid ((laidWorld os).forCall (fun _ _ => 0) ⟨#[], args, []⟩).memory :=
  laidMetH_of_parts (LaidIn.of_run [1] 8 (by kernel_rfl) (by kernel_rfl) (by kernel_rfl) (by kernel_rfl)).met (by kernel_rfl)

/-- The walk. -/
theorem walk (a0 : Option Addr) (len0 cap0 : Nat) (nods0 : List Int) (a1 : Int) (a2 : Int) (w : World) (hw : CW w) (N0 : Ints .i64 w w.heap.size a0 len0 nods0) (I0 : len0 ≤ cap0) :
    Calls Tryz.prog 6 #[.slice a0 len0 cap0, .int .i64 a1, .int .i64 a2] w fun e w' => e = .returned (.bool true) ∧ Below w.heap.size w w' := by
  exact gatherAlone_any hw a0 len0 cap0 nods0 N0 I0 a1 a2

set_option maxRecDepth 100000 in
theorem lifted (os : Os) (started : os.Started) (H : Type) (enc : TypeId × Value → H) :
    ReturnsInHanded {} Tryz.checked os 6 .any (fun w args => (Rows.gatherAloneSpec.pre enc Tryz.prog Tryz.f6 [] false w args ∧ laidMetH Tryz.prog Rows.gatherAloneRow.laid w) ∧ sizedMet enc Tryz.prog Tryz.f6 (OpenSpec.ofChange Rows.gatherAloneSpec) false w args)
      (Rows.gatherAloneSpec.post enc Tryz.prog Tryz.f6 false true false false) := by
  refine returnsInHanded_of_change_and (C := Tryz.checked) (X := fun w _ => laidMetH Tryz.prog Rows.gatherAloneRow.laid w) (fun _ _ _ hh h => h.of_heap hh) own started (by kernel_rfl) Tryz.func6
    (ChangeSpec.witness_at (enc := enc) (C := Tryz.checked) (os := os) (X := fun w _ => laidMetH Tryz.prog Rows.gatherAloneRow.laid w) false (laidWorld os) #[.slice none 0 0, .int .i64 0, .int .i64 0] 8 rfl (by kernel_rfl) (by kernel_rfl) (by kernel_rfl) (by kernel_rfl) (by kernel_rfl) (laidWorld_met os _)) ?_
  intro W base args ds gs before hval0 hW _ _ hL _
  have hval : ∀ (j : Nat) t v, Tryz.f6.params[j]? = some t → args[j]? = some v → Value.okWide Tryz.prog W .any base t v := hval0
  have hW' := hW
  obtain ⟨p, q, hA0, hV0, rfl, hfz, hnd⟩ := hW
  have hA : DataW.TrodAll enc Tryz.prog W 0 (fun _ => true) true Tryz.f6.params.toList args.toList ds p := hA0
  have hV : DataW.TrodVars enc Tryz.prog W (fun _ => true) [] gs q := hV0
  rw [Tryz.params6] at hA hval
  obtain ⟨v0, vs0, d0, ds0, p0, q0, hargs, rfl, rfl, h0, r0⟩ := trodAll_cons hA
  obtain ⟨v1, vs1, d1, ds1, p1, q1, rfl, rfl, rfl, h1, r1⟩ := trodAll_cons r0
  obtain ⟨v2, vs2, d2, ds2, p2, q2, rfl, rfl, rfl, h2, r2⟩ := trodAll_cons r1
  obtain ⟨rfl, rfl, rfl⟩ := trodAll_nil r2
  obtain rfl : args = #[v0, v1, v2] := by cases args; simp_all
  obtain ⟨rfl, rfl⟩ : gs = [] ∧ q = [] := by
    cases gs with
    | nil => exact ⟨rfl, hV⟩
    | cons g r => exact absurd hV (by intro h; cases h)
  obtain ⟨a0, len0, cap0, rfl⟩ := okWide_slice Tryz.underlying57 (hval 0 57 v0 rfl rfl)
  have k0 := h0
  have lt0 : ∀ x ∈ p0, x.block < W.heap.size := by obtain ⟨m, hm⟩ := k0; exact DataW.trod_lt m _ _ _ hm
  obtain ⟨nods0, N0, I0⟩ : ∃ nods, Ints .i64 W W.heap.size a0 len0 nods ∧ len0 ≤ cap0 := by
    obtain ⟨fuel, hf⟩ := h0
    obtain ⟨xs, hx, _⟩ := ints_of (a := a0) (len := len0) (cap := cap0) hf; exact ⟨xs, hx, cap_slice Tryz.underlying57 hf⟩
  obtain ⟨a1, rfl, rfl, rfl, w1⟩ := open_int Tryz.underlying3 (hval 1 3 v1 rfl rfl) h1
  obtain ⟨a2, rfl, rfl, rfl, w2⟩ := open_int Tryz.underlying3 (hval 2 3 v2 rfl rfl) h2
  have hw := cw_of hL
  clear hA0 hval0
  refine (walk a0 len0 cap0 nods0 a1 a2 W hw N0 I0).mono fun e W' ⟨he, bel⟩ => ?_
  subst he
  exact ⟨_, rfl, _, _, _, [], _, [], hW', trodAll_mk1 (shut_bool Tryz.underlying4 _), (trodAll_cons_mk (Below.trod laidOut (by kernel_rfl) (of_decide_eq_true (by kernel_rfl)) k0 bel lt0) (trodAll_cons_mk (shut_int Tryz.underlying3 w1) (trodAll_cons_mk (shut_int Tryz.underlying3 w2) trodAll_mk0))), rfl, bel.frame _, fun h => by cases h⟩

theorem over : Rows.GatherAloneSaid :=
  OpenClaim.holds_of_wide 6 Tryz.f6 rfl rfl rfl rfl rfl rfl rfl ⟨rfl, rfl, rfl, rfl, rfl⟩ rfl rfl rfl rfl rfl (by kernel_rfl) Tryz.func6 (by kernel_rfl)
    (of_decide_eq_true (by kernel_rfl)) (by unfold Func.isWrapper; first | (rw [if_pos (by decide +kernel)]; kernel_rfl) | (rw [if_neg (by decide +kernel)]; exact ⟨rfl, rfl⟩))
    (fun os started H enc _ => lifted os started H enc)

/-- The given statement: the tied card. -/
theorem proved : Rows.GatherAloneCardSaid :=
  Claim7.holds_tied_plain_at .later [] [.handle, .data] true (true, "3d7ea49130377776e72833ccacadedce40a93c84fe3b7e6b1a772b24d63da96a") true
    over (fun _ h => by cases h) (by kernel_rfl) (fun _ h => by cases h) gatherAlone_row_tie rfl ⟨rfl, rfl⟩ (by kernel_rfl) rfl
    (fun f fn hf hfn => by
      obtain rfl : f = 6 := Option.some.inj ((show Tryz.prog.funcNamed "quadrille/quadrillekeep.GatherAlone" = some 6 by kernel_rfl).symm.trans hf) |>.symm
      obtain rfl : fn = Tryz.f6 := (Option.some.inj (Tryz.func6.symm.trans hfn)).symm
      refine ⟨by kernel_rfl, fun j t ht => ?_⟩
      rw [Tryz.params6] at ht
      have hm : t ∈ [57, 3, 3] := by
        have := Array.mem_of_getElem? ht
        simpa using this
      have hall : ([57, 3, 3].all fun u => !Tryz.prog.wantsStandIn u) = true := by kernel_rfl
      exact (show Tryz.prog.wantsStandIn t = false by simpa using List.all_eq_true.1 hall t hm))
    (by kernel_rfl)
#print axioms proved
end Go.Proofs.YtdhlmgoodpepeaaGreatDoor.gatherAlone
