/-
  fits and Right: whether a program may be.
-/
import Derived.Test.YtkmidefgmefohaaDoorCSmall
namespace Go.Proofs.YtkmidefgmefohaaDoor
set_option maxRecDepth 100000
open Go.RowKit Go.Sort

/-- Each number is one that may stand there. -/
def fitsL (n cells : Int) : List Nat → List Int → Bool
  | k :: ks, v :: vs => !(decide (v < (boundsL k n cells).1)) && !(decide ((boundsL k n cells).2 < v)) && fitsL n cells ks vs
  | _, _ => true

theorem fitsL_step (n cells : Int) (ks : List Nat) (vs : List Int) (i : Nat) (h1 : i < ks.length) (h2 : i < vs.length) :
    fitsL n cells (ks.drop i) (vs.drop i) = (!(decide (vs.getD i 0 < (boundsL (ks.getD i 0) n cells).1)) && !(decide ((boundsL (ks.getD i 0) n cells).2 < vs.getD i 0)) && fitsL n cells (ks.drop (i + 1)) (vs.drop (i + 1))) := by
  rw [List.drop_eq_getElem_cons h1, List.drop_eq_getElem_cons h2, fitsL]
  have e1 : ks.getD i 0 = ks[i] := by rw [List.getD_eq_getElem?_getD, List.getElem?_eq_getElem h1]; rfl
  have e2 : vs.getD i 0 = vs[i] := by rw [List.getD_eq_getElem?_getD, List.getElem?_eq_getElem h2]; rfl
  rw [e1, e2]

theorem kinds_lt : ∀ op, op < 17 → ∀ i, i < 4 → (kindsOf op).getD i 0 < 8 := by decide

theorem index_int4 (a b c d : Int) : ∀ (i : Nat), i < 4 → ∀ w : World, (Instr.index 108 (.agg #[.int .i64 a, .int .i64 b, .int .i64 c, .int .i64 d]) (.int .i64 (i : Int))).run Tryd.prog w = .ok (.int .i64 ([a, b, c, d].getD i 0)) w
  | 0, _ => fun _ => by kernel_rfl
  | 1, _ => fun _ => by kernel_rfl
  | 2, _ => fun _ => by kernel_rfl
  | 3, _ => fun _ => by kernel_rfl
  | n + 4, h => absurd h (by omega)

set_option maxHeartbeats 2000000 in
theorem fits_any (op : Nat) (hop : op < 17) (a b c d n cells : Int) (hn0 : 0 ≤ n) (hn1 : n ≤ 600) (hc0 : 0 ≤ cells) (hc1 : cells ≤ 300) (w : World) (h : CW w) :
    Calls Tryd.prog 48 #[insV (op, a, b, c, d), .int .i64 n, .int .i64 cells] w fun e w' => e = .returned (.bool (fitsL n cells (kindsOf op) [a, b, c, d])) ∧ Below w.heap.size w w' := by
  have HN := Lib.hid (fun w => numbers_any (op, a, b, c, d) w)
  have HC := Lib.hid h
  have hbig := h.big
  have hop17 : (op : Int) < 17 := by omega
  have hop0 : (0 : Int) ≤ (op : Int) := by omega
  clear h
  obtain ⟨r, hr⟩ : ∃ r, fitsL n cells (kindsOf op) [a, b, c, d] = r := ⟨_, rfl⟩
  rw [hr]
  unfold insV at HN ⊢
  go_enter Tryd.func48, Tryd.ntmps48
  go_wp2_with fail
  refine (HN.out _).mono ?_
  rintro e w2 ⟨rfl, hg⟩
  obtain ⟨xb, hxb⟩ : ∃ xb, w.heap.size = xb := ⟨_, rfl⟩
  have hx2 : w2.heap[xb]? = some (.cells #[.int .i64 op, .int .i64 a, .int .i64 b, .int .i64 c, .int .i64 d] 48 (0, 0)) := by
    rw [← hxb]
    exact (hg.block w.heap.size (by simp) (by simp)).trans (heap_alloc_new w _)
  have hb2 : Below w.heap.size w w2 := ((Below.refl w.heap.size w).alloc (Nat.le_refl _) _).grown hg (by simp) (by intro k hk; cases hk)
  have hC2 := HC.out.old hb2
  rw [hxb]
  clear hg hxb HN
  have c0 : w2.cell? ⟨xb, 0, none⟩ = some (.int .i64 op) := by rw [cell_of_row w2 xb 0 _ _ _ hx2]; rfl
  have hks := kinds_len op hop
  have hkl := kinds_lt op hop
  have hk : ∀ i, i < 4 → w2.cell? ⟨0, op * 5 + 1 + i, none⟩ = some (.int .i64 ((kindsOf op).getD i 0 : Nat)) := fun i hi => hC2.kind op i hop hi
  have HK := Lib.hid hk
  have HKL := Lib.hid hkl
  have HIX := Lib.hid (index_int4 a b c d)
  have HB := Lib.hid hb2
  clear hk hkl hb2 hC2 hx2
  generalize kindsOf op = ks at *
  go_wp2
  go_loopw [13] (fun j wr => ∃ i : Nat, i ≤ 4 ∧ j = .int .i64 i ∧ wr = w2 ∧ r = fitsL n cells (ks.drop i) ([a, b, c, d].drop i)) (fun j _ => 4 - (intOf j).toNat)
  case atStart => exact ⟨0, by omega, rfl, rfl, hr.symm⟩
  case round =>
    obtain ⟨i, hi, rfl, rfl, hF⟩ := hrel
    by_cases hlt : i < 4
    · have hii : (i : Int) < 4 := by omega
      have hix := HIX.out i hlt
      have hki := HK.out i hlt
      have hst := fitsL_step n cells ks [a, b, c, d] i (by omega) (by simpa using hlt)
      have hlk := HKL.out i hlt
      rw [hst] at hF
      generalize ks.getD i 0 = k at *
      generalize [a, b, c, d].getD i 0 = v at *
      have HBD := Lib.hid (fun w => bounds_any k hlk n cells hn0 hn1 hc0 hc1 w)
      generalize (boundsL k n cells).1 = lo at *
      generalize (boundsL k n cells).2 = hh at *
      clear hst
      go_wp2_with fail
      refine (HBD.out _).mono ?_
      rintro e w3 ⟨rfl, rfl⟩
      by_cases h1 : v < lo
      · have hT : r = false := by
          rw [hF, decide_eq_true h1]
          rfl
        clear hF
        subst hT
        go_wp2
        go_ret
        exact ⟨rfl, HB.out⟩
      · by_cases h2 : hh < v
        · have hT : r = false := by
            rw [hF, decide_eq_false h1, decide_eq_true h2]
            rfl
          clear hF
          subst hT
          go_wp2
          go_ret
          exact ⟨rfl, HB.out⟩
        · have hF2 : r = fitsL n cells (ks.drop (i + 1)) ([a, b, c, d].drop (i + 1)) := by
            rw [hF, decide_eq_false h1, decide_eq_false h2]
            rfl
          clear hF
          go_wp2
          go_roundw
          case rel => exact ⟨i + 1, by omega, by go_num, by first | trivial | rfl, hF2⟩
          case measure => simp [intOf]; omega
    · obtain rfl : i = 4 := by omega
      have hT : r = true := by
        rw [hF]
        have : ks.drop 4 = [] := List.drop_eq_nil_of_le (by omega)
        rw [this]
        rfl
      subst hT
      go_wp2
      go_ret
      first
        | exact ⟨rfl, HB.out⟩
        | exact ⟨trivial, HB.out⟩

/-- A slice of instructions. -/
structure Inss (w : World) (B : Nat) (A : Option Addr) (n : Nat) (xs : List In5) : Prop where
  len : xs.length = n
  row : 0 < n → ∃ b off, A = some ⟨b, off, none⟩ ∧ b < B ∧ ∀ i, i < n → w.cell? ⟨b, off + i * 5, none⟩ = some (.int .i64 (xs.getD i default).1) ∧ w.cell? ⟨b, off + i * 5 + 1, none⟩ = some (.int .i64 (xs.getD i default).2.1) ∧ w.cell? ⟨b, off + i * 5 + 2, none⟩ = some (.int .i64 (xs.getD i default).2.2.1) ∧ w.cell? ⟨b, off + i * 5 + 3, none⟩ = some (.int .i64 (xs.getD i default).2.2.2.1) ∧ w.cell? ⟨b, off + i * 5 + 4, none⟩ = some (.int .i64 (xs.getD i default).2.2.2.2)

theorem Inss.keep {w w' : World} {B B' : Nat} {A : Option Addr} {n : Nat} {xs : List In5} (h : Inss w B A n xs) (hB : B ≤ B') (hc : ∀ p : Addr, p.block < B → w'.cell? p = w.cell? p) : Inss w' B' A n xs :=
  ⟨h.len, fun h0 => by
    obtain ⟨b, off, e, hb, hx⟩ := h.row h0
    refine ⟨b, off, e, by omega, fun i hi => ?_⟩
    obtain ⟨h1, h2, h3, h4, h5⟩ := hx i hi
    exact ⟨(hc _ hb).trans h1, (hc _ hb).trans h2, (hc _ hb).trans h3, (hc _ hb).trans h4, (hc _ hb).trans h5⟩⟩

theorem Inss.below {w w' : World} {B : Nat} {A : Option Addr} {n : Nat} {xs : List In5} (h : Inss w B A n xs) (hb : Below B w w') : Inss w' B A n xs :=
  h.keep (Nat.le_refl _) fun _ hp => hb.cell hp

theorem Inss.old {w w' : World} {A : Option Addr} {n : Nat} {xs : List In5} (h : Inss w w.heap.size A n xs) (hb : Below w.heap.size w w') : Inss w' w'.heap.size A n xs :=
  h.keep hb.size fun _ hp => hb.cell hp

/-- A program that may be. -/
def goodX (n cells : Int) (x : In5) : Prop := 0 ≤ x.1 ∧ x.1 < 17 ∧ fitsL n cells (kindsOf x.1.toNat) (nums x) = true
def RightL (l : List In5) (cells : Int) : Prop := 0 ≤ cells ∧ cells ≤ 300 ∧ 0 < l.length ∧ l.length ≤ 600 ∧ (∀ i, i < l.length → goodX l.length cells (l.getD i default)) ∧ ((l.getD (l.length - 1) default).1 = 0 ∨ (l.getD (l.length - 1) default).1 = 10)

def ToldRight (l : List In5) (cells : Int) (w : World) (e : Ending) (w' : World) : Prop := Below w.heap.size w w' ∧
  ((e = .returned .nilIface ∧ RightL l cells) ∨ (∃ t p, e = .returned (.iface t p) ∧ ¬ RightL l cells))

set_option maxHeartbeats 4000000 in
theorem right_any (l : List In5) (A : Option Addr) (n c : Nat) (cells : Int) (w : World) (h : CW w) (hl : Inss w w.heap.size A n l) :
    Calls Tryd.prog 34 #[.slice A n c, .int .i64 cells] w (ToldRight l cells w) := by
  have hlen := hl.len
  have hb0 := Below.refl w.heap.size w
  by_cases hc0 : cells < 0
  · have hR : ¬ RightL l cells := fun h => by have := h.1; omega
    go_enter Tryd.func34, Tryd.ntmps34
    go_wp2
    go_ret
    exact ⟨hb0, .inr ⟨_, _, rfl, hR⟩⟩
  by_cases hc1 : 300 < cells
  · have hR : ¬ RightL l cells := fun h => by have := h.2.1; omega
    go_enter Tryd.func34, Tryd.ntmps34
    go_wp2
    go_ret
    exact ⟨hb0, .inr ⟨_, _, rfl, hR⟩⟩
  by_cases hn0 : n = 0
  · have hR : ¬ RightL l cells := fun h => by have := h.2.2.1; omega
    subst hn0
    go_enter Tryd.func34, Tryd.ntmps34
    go_wp2
    go_ret
    exact ⟨hb0, .inr ⟨_, _, rfl, hR⟩⟩
  have hnb : ((n : Int) == 0) = false := by simpa using hn0
  by_cases hn1 : 600 < n
  · have hR : ¬ RightL l cells := fun h => by have := h.2.2.2.1; omega
    have hni : (600 : Int) < (n : Int) := by omega
    go_enter Tryd.func34, Tryd.ntmps34
    go_wp2
    go_ret
    exact ⟨hb0, .inr ⟨_, _, rfl, hR⟩⟩
  have hni : ¬ (600 : Int) < (n : Int) := by omega
  have HL := Lib.hid hl
  have HC := Lib.hid h
  have HB0 := Lib.hid hb0
  clear h hl hb0
  go_enter Tryd.func34, Tryd.ntmps34
  go_wp2
  go_loopw [25] (fun j wr => ∃ i : Nat, i ≤ n ∧ j = .int .i64 i ∧ (∀ k, k < i → goodX l.length cells (l.getD k default)) ∧ Below w.heap.size w wr) (fun j _ => n - (intOf j).toNat)
  case atStart => exact ⟨0, Nat.zero_le _, rfl, (fun k hk => absurd hk (Nat.not_lt_zero _)), HB0.out⟩
  case round =>
    obtain ⟨i, hi, rfl, hgood, hb⟩ := hrel
    clear HB0
    by_cases hlt : i < n
    · have hii : (i : Int) < (n : Int) := by omega
      obtain ⟨b, off, rfl, hbl, hc⟩ := (HL.out.below hb).row (by omega)
      obtain ⟨c1, c2, c3, c4, c5⟩ := hc i hlt
      have hbw : b < wr.heap.size := Nat.lt_of_lt_of_le hbl hb.size
      have hbne : b ≠ wr.heap.size := by omega
      obtain ⟨x, hx⟩ : ∃ x, l.getD i default = x := ⟨_, rfl⟩
      rw [hx] at c1 c2 c3 c4 c5
      obtain ⟨x1, x2, x3, x4, x5⟩ := x
      dsimp only at c1 c2 c3 c4 c5
      have hbx := fun o => hb.alloc hb.size o
      have HX := Lib.hid hx
      have HG := Lib.hid hgood
      clear hc hx hgood
      by_cases hk : x1 < 0 ∨ 17 ≤ x1
      · have hR : ¬ RightL l cells := fun h => by
          have := h.2.2.2.2.1 i (by omega)
          rw [HX.out] at this
          have h1 := this.1
          have h2 := this.2.1
          dsimp only at h1 h2
          omega
        have HKN := Lib.hid (fun w => known_no x1 hk w)
        have HBX := Lib.hid (fun o1 o2 => (hbx o1).alloc (o := o2) (hbx o1).size)
        clear hb hbx HG hk
        go_wp2_with fail
        refine (HKN.out _).mono ?_
        rintro e w3 ⟨rfl, rfl⟩
        go_wp2
        go_ret
        exact ⟨HBX.out _ _, .inr ⟨_, _, rfl, hR⟩⟩
      · obtain ⟨op, rfl⟩ : ∃ op : Nat, x1 = (op : Int) := ⟨x1.toNat, by omega⟩
        have hop : op < 17 := by omega
        have HKN := Lib.hid (fun w => known_yes op hop w)
        have hCx := HC.out.old (hbx (.cells #[.int .i64 op, .int .i64 x2, .int .i64 x3, .int .i64 x4, .int .i64 x5] 48))
        have HFT := Lib.hid (fits_any op hop x2 x3 x4 x5 (n : Int) cells (by omega) (by omega) (by omega) (by omega) _ hCx)
        have HBX := Lib.hid (hbx (.cells #[.int .i64 op, .int .i64 x2, .int .i64 x3, .int .i64 x4, .int .i64 x5] 48))
        clear hb hbx hk hCx
        unfold insV at HFT
        go_wp2_with fail
        refine (HKN.out _).mono ?_
        rintro e w3 ⟨rfl, rfl⟩
        go_wp2_with fail
        refine HFT.out.mono ?_
        rintro e w4 ⟨rfl, hb4⟩
        have hb04 := HBX.out.trans (hb4.mono HBX.out.size)
        obtain ⟨r, hr⟩ : ∃ r, fitsL (n : Int) cells (kindsOf op) [x2, x3, x4, x5] = r := ⟨_, rfl⟩
        rw [hr]
        cases r with
        | false =>
          have hR : ¬ RightL l cells := fun h => by
            have := h.2.2.2.2.1 i (by omega)
            rw [HX.out] at this
            have h2 := this.2.2
            rw [hlen] at h2
            have h3 : fitsL (n : Int) cells (kindsOf op) [x2, x3, x4, x5] = true := h2
            rw [hr] at h3
            cases h3
          have HBX := Lib.hid (fun o1 => hb04.alloc hb04.size o1)
          clear hb4 hb04 HFT HG
          go_wp2
          go_ret
          exact ⟨HBX.out _, .inr ⟨_, _, rfl, hR⟩⟩
        | true =>
          have HG2 := Lib.hid (show ∀ k, k < i + 1 → goodX l.length cells (l.getD k default) from fun k hk => by
            rcases Nat.lt_or_ge k i with h | h
            · exact HG.out k h
            · obtain rfl : k = i := by omega
              rw [HX.out, hlen]
              exact ⟨by dsimp only; omega, by dsimp only; omega, hr⟩)
          have HB4 := Lib.hid hb04
          clear hb4 hb04 HFT HG
          go_wp2
          go_roundw
          case rel => exact ⟨i + 1, by omega, by go_num, HG2.out, HB4.out⟩
          case measure => simp [intOf]; omega
    · obtain rfl : i = n := by omega
      obtain ⟨b, off, rfl, hbl, hc⟩ := (HL.out.below hb).row (by omega)
      obtain ⟨m, rfl⟩ : ∃ m, i = m + 1 := ⟨i - 1, by omega⟩
      obtain ⟨c1, _⟩ := hc m (by omega)
      obtain ⟨z, hz⟩ : ∃ z, (l.getD m default).1 = z := ⟨_, rfl⟩
      rw [hz] at c1
      have hii : ¬ ((m + 1 : Nat) : Int) < ((m + 1 : Nat) : Int) := by omega
      have hw1 : wrap64 (((m + 1 : Nat) : Int) - 1) = (m : Int) := by unfold wrap64; omega
      have hw2 : wrap64 (m : Int) = (m : Int) := by unfold wrap64; omega
      have hm0 : (0 : Int) ≤ (m : Int) := by omega
      have hm1 : (m : Int) < ((m + 1 : Nat) : Int) := by omega
      have hm2 : (m : Int) < (m : Int) + 1 := by omega
      have HBX := Lib.hid (fun o1 => hb.alloc hb.size o1)
      have HB := Lib.hid hb
      have hR1 : (z = 0 ∨ z = 10) → RightL l cells := fun hz2 => ⟨by omega, by omega, by omega, by omega, fun k hk => hgood k (by omega), by rw [hlen, Nat.add_sub_cancel, hz]; exact hz2⟩
      have hR2 : ¬ (z = 0 ∨ z = 10) → ¬ RightL l cells := fun hz2 h => hz2 (by have := h.2.2.2.2.2; rw [hlen, Nat.add_sub_cancel, hz] at this; exact this)
      have HR1 := Lib.hid hR1
      have HR2 := Lib.hid hR2
      clear hc hgood hb hR1 hR2
      by_cases z0 : z = 0
      · subst z0
        go_wp2
        go_ret
        exact ⟨HB.out, .inl ⟨rfl, HR1.out (by simp)⟩⟩
      · have zb0 : (z != 0) = true := by simpa using z0
        by_cases z1 : z = 10
        · subst z1
          go_wp2
          go_ret
          exact ⟨HB.out, .inl ⟨rfl, HR1.out (by simp)⟩⟩
        · have zb1 : (z != 10) = true := by simpa using z1
          go_wp2
          go_ret
          exact ⟨HBX.out _, .inr ⟨_, _, rfl, HR2.out (by rintro (h | h); exact z0 h; exact z1 h)⟩⟩
end Go.Proofs.YtkmidefgmefohaaDoor
