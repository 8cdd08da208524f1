/-
  The reference's count of rounds: as many as the judge's own, where what was said is right.
-/
import Derived.Test.YtoljmleomkkchaaDoorLJudgeRounds
namespace Go.Proofs.YtoljmleomkkchaaDoor
set_option maxRecDepth 100000
open Go.RowKit
set_option linter.unusedVariables false
set_option linter.unusedSimpArgs false

/-- So many threads said c things, or more. -/
def atL (n c : Nat) (l : List Ev4) : Nat := (List.range n).countP fun t => decide (c ≤ cntEv l t)
theorem countP_pointJ {p q : Nat → Bool} {u : Nat} (hpq : ∀ t, t ≠ u → q t = p t) (hp : p u = false) (hq : q u = true) : ∀ n, (List.range n).countP q = (List.range n).countP p + if u < n then 1 else 0
  | 0 => by simp
  | n + 1 => by
    rw [List.range_succ, List.countP_append, List.countP_append, countP_pointJ hpq hp hq n]
    by_cases e : n = u
    · subst e
      simp [hp, hq]
    · have h1 := hpq n e
      have h3 : [n].countP q = [n].countP p := by simp [h1]
      rw [h3]
      by_cases h2 : u < n
      · rw [if_pos h2, if_pos (by omega)]; omega
      · rw [if_neg h2, if_neg (by omega)]; omega
theorem atL_nil {n c : Nat} (hc : 1 ≤ c) : atL n c [] = 0 := by
  unfold atL
  rw [List.countP_eq_zero]
  intro t _
  have : cntEv [] t = 0 := rfl
  simp [this]
  omega
theorem atL_snoc {n c t k : Nat} {w : Int} {l : List Ev4} (ht : t < n) (hk : cntEv l t = k) : atL n c (l ++ [evAt w t k]) = atL n c l + if k + 1 = c then 1 else 0 := by
  unfold atL
  have hs : ∀ u, cntEv (l ++ [evAt w t k]) u = cntEv l u + if u = t then 1 else 0 := fun u => cntEv_snoc ..
  by_cases e : k + 1 = c
  · rw [if_pos e]
    have h := countP_pointJ (p := fun u => decide (c ≤ cntEv l u)) (q := fun u => decide (c ≤ cntEv (l ++ [evAt w t k]) u)) (u := t) (fun u hu => by rw [hs u, if_neg hu, Nat.add_zero]) (by simp; omega) (by simp [hs]; omega) n
    rw [if_pos ht] at h
    exact h
  · rw [if_neg e, Nat.add_zero]
    refine List.countP_congr fun u _ => ?_
    rw [hs u]
    by_cases hu : u = t
    · subst hu
      rw [if_pos rfl]
      simp
      omega
    · rw [if_neg hu, Nat.add_zero]
def goneL (l : List Ev4) (v : Int) : Nat := l.countP fun e => decide (e.2.2.2 = v ∧ e.2.1 = 2)
def cameL (l : List Ev4) (v : Int) : Nat := l.countP fun e => decide (e.2.2.2 = v)
theorem goneL_at {n : Nat} {l : List Ev4} (h : OkEv n l) {v : Nat} (hv : 1 ≤ v) : goneL l v = atL n (2 * v) l := by
  induction h with
  | nil => rw [atL_nil (by omega)]; rfl
  | @snoc l t k w h ht hk hall ih =>
    have e := atL_snoc (n := n) (c := 2 * v) (w := w) ht hk
    unfold evAt at e
    rw [e, ← ih]
    unfold goneL
    rw [List.countP_append, List.countP_singleton]
    congr 1
    by_cases e : k + 1 = 2 * v
    · rw [if_pos e, if_pos (by simp; omega)]
    · rw [if_neg e, if_neg (by simp; omega)]
theorem cameL_at {n : Nat} {l : List Ev4} (h : OkEv n l) {v : Nat} (hv : 1 ≤ v) : cameL l v = atL n (2 * v) l + atL n (2 * v - 1) l := by
  induction h with
  | nil => rw [atL_nil (by omega), atL_nil (by omega)]; rfl
  | @snoc l t k w h ht hk hall ih =>
    have e := atL_snoc (n := n) (c := 2 * v) (w := w) ht hk
    have e' := atL_snoc (n := n) (c := 2 * v - 1) (w := w) ht hk
    unfold evAt at e e'
    rw [e, e']
    unfold cameL at ih ⊢
    rw [List.countP_append, List.countP_singleton, ih]
    by_cases e : k + 1 = 2 * v
    · rw [if_pos e, if_neg (by omega : ¬ k + 1 = 2 * v - 1), if_pos (by simp; omega)]; omega
    · by_cases e2 : k + 1 = 2 * v - 1
      · rw [if_neg e, if_pos e2, if_pos (by simp; omega)]; omega
      · rw [if_neg e, if_neg e2, if_neg (by simp; omega)]; omega
theorem goneL_all {n : Nat} {l : List Ev4} (n1 : 0 < n) (h : OkEv n l) {v : Nat} (hv : 1 ≤ v) : goneL l v = n ↔ v ≤ jAll n l := by
  rw [goneL_at h hv]
  unfold atL jAll
  have e : (List.range n).countP (fun t => decide (2 * v ≤ cntEv l t)) = n ↔ ∀ t, t < n → 2 * v ≤ cntEv l t := by
    have h1 := List.countP_eq_length (p := fun t => decide (2 * v ≤ cntEv l t)) (l := List.range n)
    rw [List.length_range] at h1
    rw [h1]
    simp
  rw [e]
  constructor
  · intro h
    exact le_minN n1 fun t ht => by have := h t ht; omega
  · intro h t ht
    have := minN_le (fun t => cntEv l t / 2) ht
    omega
theorem cameL_none {n : Nat} {l : List Ev4} (n1 : 0 < n) (h : OkEv n l) {v : Nat} (hv : 1 ≤ v) : cameL l v = 0 ↔ jAny n l < v := by
  rw [cameL_at h hv]
  unfold atL jAny
  have e : ∀ c, (List.range n).countP (fun t => decide (c ≤ cntEv l t)) = 0 ↔ ∀ t, t < n → cntEv l t < c := fun c => by
    rw [List.countP_eq_zero]
    simp
  constructor
  · intro h
    have h2 := (e (2 * v - 1)).1 (by omega)
    have h3 := maxN_le (f := fun t => (cntEv l t + 1) / 2) (b := v - 1) (n := n) fun t ht => by have := h2 t ht; omega
    omega
  · intro h
    have h2 : ∀ t, t < n → cntEv l t < 2 * v - 1 := fun t ht => by
      have := le_maxN (fun t => (cntEv l t + 1) / 2) ht
      omega
    rw [(e (2 * v)).2 fun t ht => by have := h2 t ht; omega, (e (2 * v - 1)).2 h2]
theorem goneL_next {l : List Ev4} {i : Nat} (h : i < l.length) (v : Int) : goneL (l.take (i + 1)) v = goneL (l.take i) v + if (l.getD i default).2.2.2 = v ∧ (l.getD i default).2.1 = 2 then 1 else 0 := by
  have e : l.getD i default = l[i] := by rw [List.getD_eq_getElem?_getD, List.getElem?_eq_getElem h]; rfl
  rw [← List.take_append_getElem h, ← e]
  unfold goneL
  rw [List.countP_append, List.countP_singleton]
  simp
theorem cameL_next {l : List Ev4} {i : Nat} (h : i < l.length) (v : Int) : cameL (l.take (i + 1)) v = cameL (l.take i) v + if (l.getD i default).2.2.2 = v then 1 else 0 := by
  have e : l.getD i default = l[i] := by rw [List.getD_eq_getElem?_getD, List.getElem?_eq_getElem h]; rfl
  rw [← List.take_append_getElem h, ← e]
  unfold cameL
  rw [List.countP_append, List.countP_singleton]
  simp
theorem goneL_le (l : List Ev4) (v : Int) (i : Nat) : goneL (l.take i) v ≤ i := Nat.le_trans List.countP_le_length (by rw [List.length_take]; omega)
theorem cameL_le (l : List Ev4) (v : Int) (i : Nat) : cameL (l.take i) v ≤ i := Nat.le_trans List.countP_le_length (by rw [List.length_take]; omega)

theorem jnext {q m : Nat} (h : q < m) (hm : m ≤ 100000) : wrap64 ((q : Int) + 1) = ((q + 1 : Nat) : Int) := by unfold wrap64; omega
theorem jlessR {q n : Nat} (h : q < n) : n - (intOf (Value.int IntKind.i64 ((q + 1 : Nat) : Int))).toNat < n - (intOf (Value.int IntKind.i64 (q : Int))).toNat := by
  show n - (((q + 1 : Nat) : Int)).toNat < n - ((q : Int)).toNat
  rw [Int.toNat_natCast, Int.toNat_natCast]
  omega
set_option maxHeartbeats 4000000 in
theorem rjrounds_any {w : World} (A : Option Addr) (len cap n : Nat) (l : List Ev4) (hl : l.length = len) (hlen : len ≤ 200) (hE : EvRow w A len l) (n1 : 1 ≤ n) (hn : n ≤ 16) (hOk : OkEv n l) :
    Calls Tryd.prog 12 #[.slice A len cap, .int .i64 (n : Nat)] w fun e w' => e = .returned (.tuple #[.int .i64 (jAll n l : Nat), .int .i64 (jAny n l : Nat)]) ∧ w.grownBy w' none := by
  have HG := Lib.hid (fun (v : Nat) (hv : 1 ≤ v) => goneL_all (n := n) n1 hOk hv)
  have HC := Lib.hid (fun (v : Nat) (hv : 1 ≤ v) => cameL_none (n := n) n1 hOk hv)
  have hj := judge_rounds n1 hOk
  have HJ := Lib.hid (show jAll n l ≤ jAny n l ∧ jAny n l ≤ 200 ∧ n ≤ 16 from ⟨hj.1, maxN_le fun t _ => by
    have h0 : cntEv l t ≤ l.length := List.length_filter_le _ _
    omega, hn⟩)
  have HE := Lib.hid hE
  have HL := Lib.hid (And.intro hl hlen)
  clear hE hl hlen hj hOk n1 hn
  generalize jAll n l = ja at *
  generalize jAny n l = jb at *
  go_enter Tryd.func12, Tryd.ntmps12
  go_wp2
  --MA
  go_loopw [4, 6] (fun a v wr => ∃ q : Nat, q ≤ jb ∧ a = .int .i64 ((min ja q : Nat) : Int) ∧ v = .int .i64 ((q + 1 : Nat) : Int) ∧ Hid (w.grownBy wr none)) (fun _ v _ => jb + 1 - (intOf v).toNat)
  case atStart => exact ⟨0, Nat.zero_le _, by rw [Nat.min_zero]; rfl, rfl, World.grownBy.refl w _⟩
  case round =>
    obtain ⟨q, hq, rfl, rfl, hx⟩ := hrel
    have HX := Lib.hid hx.out
    have HQ := Lib.hid hq
    clear hx hq
    obtain ⟨v, hv⟩ : ∃ v : Nat, v = q + 1 := ⟨_, rfl⟩
    have HV := Lib.hid hv
    rw [← hv]
    clear hv
    obtain ⟨u, hu⟩ : ∃ u : Nat, u = min ja q := ⟨_, rfl⟩
    have HU := Lib.hid hu
    rw [← hu]
    clear hu
    go_wp2
    --MB
    go_loopw [7, 8, 15] (fun g c j wr2 => ∃ i : Nat, i ≤ len ∧ g = .int .i64 (goneL (l.take i) v : Nat) ∧ c = .int .i64 (cameL (l.take i) v : Nat) ∧ j = .int .i64 i ∧ Hid (w.grownBy wr2 none)) (fun _ _ j _ => len - (intOf j).toNat)
    case atStart => exact ⟨0, Nat.zero_le _, rfl, rfl, rfl, HX.out⟩
    case round =>
      obtain ⟨i, hi, rfl, rfl, rfl, hx⟩ := hrel
      by_cases hlt : i < len
      · have hkn : (i : Int) < (len : Int) := Int.ofNat_lt.2 hlt
        have HX2 := Lib.hid hx.out
        obtain ⟨b, off, rfl, x1, x2, x3, x4⟩ := (HE.out.grow hx.out) i hlt
        have g1 := goneL_next (l := l) (i := i) (by rw [HL.out.1]; exact hlt) v
        have g2 := cameL_next (l := l) (i := i) (by rw [HL.out.1]; exact hlt) v
        have l1 := goneL_le l v i
        have l2 := cameL_le l v i
        have HN := Lib.hid (And.intro g1 (And.intro g2 (And.intro l1 (And.intro l2 hlt))))
        clear hx hi hlt g1 g2 l1 l2
        generalize l.getD i default = x at *
        obtain ⟨a1, a2, a3, a4⟩ := x
        dsimp only at x1 x2 x3 x4 HN
        generalize goneL (l.take i) v = gi at *
        generalize cameL (l.take i) v = ci at *
        have HW := Lib.hid (HX2.out.andThen (World.grownBy_alloc wr (.cells #[.int .i64 a1, .int .i64 a2, .int .i64 a3, .int .i64 a4] 42) none) (by intro k hk; cases hk))
        clear HX2
        by_cases h4 : a4 = (v : Int)
        · subst h4
          by_cases h2 : a2 = 2
          · subst h2
            go_wp2
            --MC
            obtain ⟨g1, g2, l1, l2, hlt⟩ := HN.out
            rw [if_pos ⟨rfl, rfl⟩] at g1
            rw [if_pos rfl] at g2
            have hL := HL.out.2
            rw [jnext (m := 100000) (q := gi) (by omega) (Nat.le_refl _), jnext (m := 100000) (q := ci) (by omega) (Nat.le_refl _), jnext hlt (by omega)]
            exact ⟨⟨i + 1, hlt, by rw [g1], by rw [g2], rfl, HW.out⟩, jlessR hlt⟩
          · go_wp2
            obtain ⟨g1, g2, l1, l2, hlt⟩ := HN.out
            rw [if_neg fun h => h2 h.2] at g1
            rw [if_pos rfl] at g2
            have hL := HL.out.2
            rw [jnext (m := 100000) (q := ci) (by omega) (Nat.le_refl _), jnext hlt (by omega)]
            exact ⟨⟨i + 1, hlt, by rw [g1, Nat.add_zero], by rw [g2], rfl, HW.out⟩, jlessR hlt⟩
        · go_wp2
          obtain ⟨g1, g2, l1, l2, hlt⟩ := HN.out
          rw [if_neg fun h => h4 h.1] at g1
          rw [if_neg h4] at g2
          have hL := HL.out.2
          rw [jnext hlt (by omega)]
          exact ⟨⟨i + 1, hlt, by rw [g1, Nat.add_zero], by rw [g2, Nat.add_zero], rfl, HW.out⟩, jlessR hlt⟩
      · have hkn : ¬ (i : Int) < (len : Int) := fun h => hlt (Int.ofNat_lt.1 h)
        obtain rfl : len = i := Nat.le_antisymm (Nat.le_of_not_lt hlt) hi
        have HW := Lib.hid hx.out
        have ht : l.take len = l := by rw [← HL.out.1, List.take_length]
        rw [ht]
        have hv1 : 1 ≤ v := by have := HV.out; omega
        have hG := HG.out v hv1
        have hC := HC.out v hv1
        clear hx hi hlt ht HX
        generalize goneL l v = gi at *
        generalize cameL l v = ci at *
        have HGC := Lib.hid (And.intro hG hC)
        have hq := HQ.out
        have hvq := HV.out
        have huq := HU.out
        have hJ := HJ.out
        by_cases hg : gi = n
        · have hvj := hG.1 hg
          have hc0 : ¬ (ci : Int) = 0 := by
            intro h
            have := hC.1 (by omega)
            omega
          subst hg
          clear hG hC hv1 hq hvq huq hJ
          go_wp2
          --MD
          have hq := HQ.out
          have hvq := HV.out
          have hJ := HJ.out
          rw [jnext (m := 100000) (q := v) (by omega) (Nat.le_refl _)]
          refine ⟨⟨v, by omega, by rw [Nat.min_eq_right hvj], rfl, HW.out⟩, ?_⟩
          show jb + 1 - (((v + 1 : Nat) : Int)).toNat < jb + 1 - ((v : Int)).toNat
          omega
        · have hg2 : ¬ (gi : Int) = (n : Int) := by omega
          by_cases hc : ci = 0
          · have hlt := hC.1 hc
            obtain rfl : q = jb := by omega
            have huj : u = ja := by omega
            subst hc huj
            have HVW := Lib.hid (show wrap64 ((v : Int) - 1) = (q : Int) by clear hG hC HGC; unfold wrap64; omega)
            clear hG hC hv1 hq hvq huq hJ hg hlt
            go_wp2
            --ME
            rw [HVW.out]
            go_ret2
            exact ⟨rfl, HW.out⟩
          · have hc0 : ¬ (ci : Int) = 0 := by omega
            have HF := Lib.hid (show ja < v ∧ v ≤ jb from ⟨by have h1 := mt hG.2 hg; omega, by have h1 := mt hC.2 hc; omega⟩)
            clear hG hC hv1 hq hvq huq hJ hg hc
            go_wp2
            --MF
            have hq := HQ.out
            have hvq := HV.out
            have hF := HF.out
            have hJ := HJ.out
            have huq := HU.out
            rw [jnext (m := 100000) (q := v) (by omega) (Nat.le_refl _)]
            refine ⟨⟨v, hF.2, by rw [huq, Nat.min_eq_left (by omega), Nat.min_eq_left (by omega)], rfl, HW.out⟩, ?_⟩
            show jb + 1 - (((v + 1 : Nat) : Int)).toNat < jb + 1 - ((v : Int)).toNat
            omega
end Go.Proofs.YtoljmleomkkchaaDoor
