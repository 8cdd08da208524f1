/-
  The laws' helpers: fits, and the machine behind moves. The laws' helper: the machine behind moves.
-/
import Derived.Test.YtbcbahoplfgimaaGreatDoorMNew
namespace Go.Proofs.YtbcbahoplfgimaaGreatDoor
set_option maxRecDepth 100000
open Go.RowKit Go.Shelf Go.Sort
set_option linter.unusedVariables false
set_option linter.unusedSimpArgs false

/-- What fits says yes to. -/
def Fit (ps : List (List Ins5)) (nc : Nat) : Prop := ps.length ≤ 16 ∧ nc ≤ 100 ∧ ∀ i, i < ps.length → RightL (ps.getD i []) nc

structure FitTo (w : World) (ps : List (List Ins5)) (nc k : Nat) (wr : World) : Prop where
  below : Below w.heap.size w wr
  cw : CW wr
  right : ∀ i, i < k → RightL (ps.getD i []) nc

set_option maxHeartbeats 2000000 in
theorem kfits_any {w : World} (hw : CW w) (A C : Option Addr) (n c nc cc : Nat) (ps : List (List Ins5)) (hp : Progs w w.heap.size A n ps) (hn : n ≤ 9223372036854775807) :
    Calls Tryz.prog 11 #[.slice A n c, .slice C nc cc] w fun e w' => (e = .returned (.bool true) ∧ Fit ps nc ∨ e = .returned (.bool false)) ∧ Below w.heap.size w w' := by
  have HPs := Lib.hid hp
  have HW := Lib.hid hw
  have hlen := hp.len
  have HLN := Lib.hid hlen
  clear hw hp hlen
  go_enter Tryz.func11, Tryz.ntmps11
  go_wp2
  go_loopw [5, 10] (fun s j wr => ∃ (k : Nat) (z : Int), k ≤ n ∧ j = .int .i64 k ∧ s = .int .i64 z ∧ FitTo w ps nc k wr) (fun _ j _ => n - (intOf j).toNat)
  case atStart => exact ⟨0, 0, Nat.zero_le _, rfl, rfl, ⟨Below.refl _ _, HW.out, fun i hi => absurd hi (Nat.not_lt_zero _)⟩⟩
  case round =>
    obtain ⟨k, z, hk, rfl, rfl, hm⟩ := hrel
    by_cases hlt : k < n
    · have hkn : (k : Int) < (n : Int) := by omega
      obtain ⟨b, off, hA, hcell, Ai, ci, hc, hI⟩ := prog_at HPs.out hm.below hlt
      subst hA
      have HRI := Lib.hid (right_any (ps.getD k []) Ai (ps.getD k []).length ci nc wr hm.cw hI)
      have HM := Lib.hid hm
      obtain ⟨x, hx⟩ : ∃ x, ps.getD k [] = x := ⟨_, rfl⟩
      have HX := Lib.hid hx
      rw [hx] at HRI hc
      obtain ⟨nx, hnx⟩ : ∃ q, x.length = q := ⟨_, rfl⟩
      rw [hnx] at HRI hc
      clear hm hI hx hnx
      go_wp2_with fail
      refine HRI.out.mono ?_
      rintro e w4 ⟨hb4, ⟨rfl, hyes⟩ | ⟨t, p, rfl, hno⟩⟩
      · have HN := Lib.hid (show FitTo w ps nc (k + 1) w4 from ⟨HM.out.below.trans (hb4.mono HM.out.below.size), HM.out.cw.old hb4, fun i hi => by
          by_cases e : i = k
          · rw [e, HX.out]; exact hyes
          · exact HM.out.right i (by omega)⟩)
        clear hyes hb4 HRI HM HX hc hcell
        go_wp2
        go_roundw
        case rel => exact ⟨k + 1, _, by omega, by go_num, rfl, HN.out⟩
        case measure => simp [intOf]; omega
      · have HN := Lib.hid (HM.out.below.trans (hb4.mono HM.out.below.size))
        clear hno hb4 HRI HM HX hc hcell
        go_wp2
        go_ret
        exact ⟨.inr rfl, HN.out⟩
    · have hkn : ¬ (k : Int) < (n : Int) := by omega
      have hkk : k = n := by omega
      subst hkk
      have HM := Lib.hid hm
      clear hm
      by_cases h1 : (k : Int) ≤ 16
      · by_cases h2 : z ≤ 600
        · by_cases h3 : (nc : Int) ≤ 100
          · go_wp2
            go_ret
            exact ⟨.inl ⟨rfl, by rw [Fit, HLN.out]; exact ⟨by omega, by omega, HM.out.right⟩⟩, HM.out.below⟩
          · go_wp2
            go_ret
            exact ⟨.inr rfl, HM.out.below⟩
        · go_wp2
          go_ret
          exact ⟨.inr rfl, HM.out.below⟩
      · go_wp2
        go_ret
        exact ⟨.inr rfl, HM.out.below⟩
end Go.Proofs.YtbcbahoplfgimaaGreatDoor

namespace Go.Proofs.YtbcbahoplfgimaaGreatDoor
set_option maxRecDepth 100000
open Go.RowKit Go.Shelf Go.Sort
set_option linter.unusedVariables false
set_option linter.unusedSimpArgs false

/-- A row of moves. -/
structure Moves (w : World) (B : Nat) (A : Option Addr) (n : Nat) (l : List (Int × Bool)) : Prop where
  len : l.length = n
  row : 0 < n → ∃ b off, A = some ⟨b, off, none⟩ ∧ b < B ∧ ∀ i, i < n → w.cell? ⟨b, off + i * 2, none⟩ = some (.int .i64 (l.getD i default).1) ∧ w.cell? ⟨b, off + i * 2 + 1, none⟩ = some (.bool (l.getD i default).2)
theorem Moves.below {w w' : World} {B n : Nat} {A : Option Addr} {l : List (Int × Bool)} (h : Moves w B A n l) (hb : Below B w w') : Moves w' B A n l :=
  ⟨h.len, fun h0 => by
    obtain ⟨b, off, e, hlt, hx⟩ := h.row h0
    exact ⟨b, off, e, hlt, fun i hi => ⟨(World.cell?_of_block (a := ⟨b, off + i * 2, none⟩) (hb.block b hlt)).trans (hx i hi).1, (World.cell?_of_block (a := ⟨b, off + i * 2 + 1, none⟩) (hb.block b hlt)).trans (hx i hi).2⟩⟩⟩

theorem below_of_keeps {w w' : World} {B : Nat} {S : Nat → Prop} (hk : Keeps S w w') (hs : ∀ k, S k → B ≤ k) (hB : B ≤ w.heap.size) : Below B w w' :=
  ⟨hk.os, hk.tape, hk.output, hk.size, fun k hlt => hk.block k (by omega) (fun h => by have := hs k h; omega)⟩

theorem behind_take (l : List (Int × Bool)) (m : Mach) (k : Nat) (hk : k < l.length) : behindM 20000 m (l.take (k + 1)) = moveM 20000 (behindM 20000 m (l.take k)) (l.getD k default) := by
  have e : l.take (k + 1) = l.take k ++ [l.getD k default] := by
    rw [List.take_add_one, List.getD_eq_getElem?_getD]
    cases hx : l[k]? with
    | none => rw [List.getElem?_eq_none_iff] at hx; omega
    | some v => rfl
  rw [e]
  unfold behindM
  rw [List.foldl_append]
  rfl
theorem MBig.move {cells0 : List Int} {m : Mach} (h : MBig cells0 m) (v : Int × Bool) : MBig cells0 (moveM 20000 m v) := by
  unfold moveM
  split
  · exact h.poke _
  · exact h.step _
theorem MBig.behind {cells0 : List Int} : ∀ (l : List (Int × Bool)) {m : Mach}, MBig cells0 m → MBig cells0 (behindM 20000 m l)
  | [], m, h => h
  | v :: l, m, h => MBig.behind l (h.move v)
theorem newM_big {ps : List (List Ins5)} {cells : List Int} (hf : Fit ps cells.length) (hc : ∀ v ∈ cells, okU v) : MBig cells (newM ps cells) :=
  ⟨newM_ok _ _ hc hf.2.2, hf.1, Nat.zero_le _, Nat.zero_le _, Nat.zero_le _⟩

/-- The machine at a place, in a world behind. -/
def At (w : World) (c : Nat) (m : Mach) (wr : World) : Prop := ∃ S X, X.c = c ∧ Core wr w.heap.size S X m ∧ Below w.heap.size w wr

theorem At.moved {w wr w' : World} {c : Nat} {m' : Mach} {S : Nat → Prop} {X : KB} {m : Mach} (hX : X.c = c) (hC : Core wr w.heap.size S X m) (hb : Below w.heap.size w wr) (h : Moved wr w.heap.size S X m' w') : At w c m' w' := by
  obtain ⟨S', X', e1, e2, hC2, hS, hK⟩ := h
  exact ⟨S', X', e1.trans hX, hC2, hb.trans (below_of_keeps hK (fun k hs => (hC.slo k hs).1) hb.size)⟩

theorem At.grow {w wr w' : World} {c : Nat} {m : Mach} (h : At w c m wr) (hg : wr.grownBy w' none) : At w c m w' := by
  obtain ⟨S, X, e, hC, hB⟩ := h
  exact ⟨S, X, e, hC.grow hg, hB.grown hg hB.size (by intro k hk; cases hk)⟩

/-- One move. -/
theorem kmove_any {w wr : World} {c : Nat} {cells0 : List Int} {m : Mach} (h : At w c m wr) (hb : MBig cells0 m) (v : Int × Bool) :
    if v.2 then Calls Tryz.prog 27 #[.pointer (some ⟨c, 0, none⟩), .int .i64 v.1] wr fun e w' => e = .returned (errV (pokeM m v.1).1) ∧ At w c (moveM 20000 m v) w'
    else Calls Tryz.prog 17 #[.pointer (some ⟨c, 0, none⟩), .int .i64 v.1] wr fun e w' => e = .returned (errV (stepM 20000 m v.1).1) ∧ At w c (moveM 20000 m v) w' := by
  obtain ⟨S, X, rfl, hC, hB⟩ := h
  obtain ⟨t, b⟩ := v
  cases b
  · exact (kstep_any hC hB.size hb t).mono fun e w' ⟨he, hm⟩ => ⟨he, At.moved rfl hC hB hm⟩
  · exact (kpoke_any hC hB.size hb t).mono fun e w' ⟨he, hm⟩ => ⟨he, At.moved rfl hC hB hm⟩

theorem moves_at {w wr : World} {c nm : Nat} {m : Mach} {D : Option Addr} {l : List (Int × Bool)} (h : Moves w w.heap.size D nm l) (hm : At w c m wr) {k : Nat} (hk : k < nm) :
    ∃ g off, D = some ⟨g, off, none⟩ ∧ wr.cell? ⟨g, off + k * 2, none⟩ = some (.int .i64 (l.getD k default).1) ∧ wr.cell? ⟨g, off + k * 2 + 1, none⟩ = some (.bool (l.getD k default).2) := by
  obtain ⟨S, X, _, _, hB⟩ := hm
  obtain ⟨g, off, e, _, hx⟩ := (h.below hB).row (by omega)
  exact ⟨g, off, e, hx k hk⟩

set_option maxHeartbeats 2000000 in
theorem kbehind_any {w : World} (hw : CW w) (A C D : Option Addr) (n c nc cc nm cm : Nat) (ps : List (List Ins5)) (cells : List Int) (l : List (Int × Bool)) (hp : Progs w w.heap.size A n ps) (hc : Ints .u64 w w.heap.size C nc cells) (hl : Moves w w.heap.size D nm l) (hf : Fit ps nc) (hcU : ∀ v ∈ cells, okU v) (hnm : nm ≤ 1000000) :
    Calls Tryz.prog 12 #[.slice A n c, .slice C nc cc, .slice D nm cm] w fun e w' => ∃ c, e = .returned (.pointer (some ⟨c, 0, none⟩)) ∧ At w c (behindM 20000 (newM ps cells) l) w' := by
  have hlen := hp.len
  have hclen := hc.len
  have HN := Lib.hid (knew_ok hw A C n c nc cc ps cells hp hc (by rw [← hlen]; exact hf.1) (by have := hf.2.1; omega) (by rw [← hlen]; exact hf.2.2))
  have HBig := Lib.hid (fun k => MBig.behind (l.take k) (newM_big (cells := cells) (by rw [hclen]; exact hf) hcU))
  have HL := Lib.hid hl
  have HLen := Lib.hid hl.len
  clear hw hp hc hl hf hcU hlen hclen
  go_enter Tryz.func12, Tryz.ntmps12
  go_wp2_with fail
  refine HN.out.mono ?_
  rintro e w1 ⟨S, X, rfl, hC, hB⟩
  have HA := Lib.hid (show At w X.c (behindM 20000 (newM ps cells) (l.take 0)) w1 from ⟨S, X, rfl, hC, hB⟩)
  obtain ⟨b, hb⟩ : ∃ b, X.c = b := ⟨_, rfl⟩
  rw [hb] at HA ⊢
  clear hC hB HN hb
  go_wp2
  go_loopw [21] (fun j wr => ∃ k : Nat, k ≤ nm ∧ j = .int .i64 k ∧ At w b (behindM 20000 (newM ps cells) (l.take k)) wr) (fun j _ => nm - (intOf j).toNat)
  case atStart => exact ⟨0, Nat.zero_le _, rfl, HA.out⟩
  case round =>
    obtain ⟨k, hk, rfl, hm⟩ := hrel
    by_cases hlt : k < nm
    · have hkn : (k : Int) < (nm : Int) := by omega
      obtain ⟨g, off, hD, hcell⟩ := moves_at HL.out hm hlt
      subst hD
      have HT := Lib.hid (behind_take l (newM ps cells) k (by rw [HLen.out]; exact hlt))
      have HM := Lib.hid (fun w' (hg : wr.grownBy w' none) => kmove_any (hm.grow hg) (HBig.out k) (l.getD k default))
      rw [← HT.out] at HM
      clear HT hm
      obtain ⟨hc0, hc1⟩ := hcell
      generalize l.getD k default = v at *
      obtain ⟨t, p⟩ := v
      dsimp only at hc0 hc1 HM
      cases p
      · simp only [Bool.false_eq_true, ↓reduceIte] at HM
        go_wp2_with fail
        refine (HM.out _ (grown_a (World.grownBy.refl _ none) _)).mono ?_
        rintro e w2 ⟨rfl, hm2⟩
        have H2 := Lib.hid hm2
        generalize (errV (stepM 20000 (behindM 20000 (newM ps cells) (List.take k l)) t).1) = RV
        clear hm2 HM hc0 hc1
        go_wp2
        go_roundw
        case rel => exact ⟨k + 1, by omega, by go_num, H2.out⟩
        case measure => simp [intOf]; omega
      · simp only [↓reduceIte] at HM
        go_wp2_with fail
        refine (HM.out _ (grown_a (World.grownBy.refl _ none) _)).mono ?_
        rintro e w2 ⟨rfl, hm2⟩
        have H2 := Lib.hid hm2
        generalize (errV (pokeM (behindM 20000 (newM ps cells) (List.take k l)) t).1) = RV
        clear hm2 HM hc0 hc1
        go_wp2
        go_roundw
        case rel => exact ⟨k + 1, by omega, by go_num, H2.out⟩
        case measure => simp [intOf]; omega
    · have hkk : k = l.length := by rw [HLen.out]; omega
      have hkn : ¬ (k : Int) < (nm : Int) := by omega
      rw [hkk, List.take_length] at hm
      have HM := Lib.hid hm
      clear hm hkk
      go_wp2
      go_ret
      exact ⟨b, rfl, HM.out⟩
end Go.Proofs.YtbcbahoplfgimaaGreatDoor
