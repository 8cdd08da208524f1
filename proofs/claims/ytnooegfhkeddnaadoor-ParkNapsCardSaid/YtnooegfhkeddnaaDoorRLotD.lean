/-
  The reference's lot: who sleeps at a cell.
-/
import Derived.Test.YtnooegfhkeddnaaDoorRLotC
namespace Go.Proofs.YtnooegfhkeddnaaDoor
set_option maxRecDepth 100000
open Go.RowKit Go.Shelf
open Go.WideShapes

/-- Those that fell asleep at the k-th tick, or before, by who fell asleep then. -/
def upTo (hit : Nat → Option Int) : Nat → List Int
  | 0 => []
  | k + 1 => upTo hit k ++ (hit (k + 1)).toList

theorem upTo_len (hit : Nat → Option Int) (k : Nat) : (upTo hit k).length ≤ k := by
  induction k with
  | zero => exact Nat.le_refl _
  | succ k ih =>
    rw [upTo, List.length_append]
    have : (hit (k + 1)).toList.length ≤ 1 := by cases hit (k + 1) <;> simp
    omega

/-- What has come of whom the round looks for, by what is still to come. -/
def came (h : Option Int) (left : Lit → Bool) : List Int :=
  match h with
  | some t => if left (.int .i64 t) = true then [] else [t]
  | none => []

theorem came_len (h : Option Int) (left : Lit → Bool) : (came h left).length ≤ 1 := by
  unfold came
  split
  · split <;> simp
  · simp

theorem same_int (t x : Int) : (Lit.int .i64 t).sameKey (.int .i64 x) = decide (t = x) := by simp [Lit.sameKey]

theorem came_yes {left : Lit → Bool} {x : Int} (hl : left (.int .i64 x) = true) : came (some x) left = [] ∧ came (some x) (fun z => left z && !z.sameKey (.int .i64 x)) = [x] := by
  unfold came
  simp [hl, same_int]

theorem came_no {h : Option Int} {left : Lit → Bool} {x : Int} (hx : h ≠ some x) : came h (fun z => left z && !z.sameKey (.int .i64 x)) = came h left := by
  unfold came
  cases h with
  | none => rfl
  | some t =>
    have : ¬ t = x := fun e => hx (by rw [e])
    simp [same_int, this]

theorem came_all {h : Option Int} {left : Lit → Bool} (hl : ∀ z, left z = false) : came h left = h.toList := by
  unfold came
  cases h <;> simp [hl]

def Rows (w wr : World) (o : Value) (xs : List Int) : Prop :=
  wr.ownsRow w.heap.size 3 1 o xs.length (xs.map (Value.int .i64)) ∧ w.grownBy wr none

theorem ranges_apart {w : World} {q b r n : Nat} {D : DataW Unit} {left : Lit → Bool} {cnt B e sz k : Nat} {v : Value} {xs : List Value} {R : Value → Option (DataW Unit × List MemPlace)}
    (h : w.ranges Tryd.prog q R b r n D left cnt) (ho : w.ownsRow B e sz v k xs) : v.ownBlock ≠ some r ∧ v.ownBlock ≠ some b := by
  obtain ⟨es, clock, since, seen, c0, h1, _, _, _, h2, _⟩ := h
  rcases ho.2 with ⟨rfl, _⟩ | ⟨g, cap, cur, rfl, _, hg, _⟩
  · exact ⟨by simp [Value.ownBlock], by simp [Value.ownBlock]⟩
  · constructor
    · intro e
      obtain rfl : g = r := by simpa [Value.ownBlock] using e
      rw [hg] at h2
      cases h2
    · intro e
      obtain rfl : g = b := by simpa [Value.ownBlock] using e
      rw [hg] at h1
      cases h1

section
variable {w : World} {B r : Nat} {nt clock : Int} {bs bw m : Nat} {f g : Int → Option Int}

set_option maxHeartbeats 4000000 in
theorem rat_any (h : RLot w B r nt clock bs bw m f g) (cell : Int) (hit : Nat → Option Int) (n : Nat) (hn : clock = (n : Int)) (hn1 : n ≤ 1000)
    (hw : ∀ (k : Nat) (t : Int), hit k = some t → (Lit.int .i64 t).wf = true)
    (hh : ∀ (k : Nat) (t : Int), (Lit.int .i64 t).wf = true → (hit k = some t ↔ f t = some (k : Int) ∧ (g t).getD 0 = cell)) :
    Calls Tryd.prog 30 #[.pointer (some ⟨r, 0, none⟩), .int .i64 cell] w (ToldInts (upTo hit n) w) := by
  obtain ⟨D, hD, hf⟩ := h.since
  obtain ⟨i0, hi, hz0, hz1, hz2⟩ := info_parts infoInt
  subst hn
  have H := Lib.hid h
  have HHW := Lib.hid hw
  have HHH := Lib.hid hh
  have HD := Lib.hid hD
  have HF := Lib.hid hf
  clear h hw hh hD hf
  go_enter Tryd.func30, Tryd.ntmps30
  go_wp2_with fail
  go_loopw [5, 6] (fun o k wr => ∃ j : Nat, j ≤ n ∧ k = .int .i64 ((j : Int) + 1) ∧ Rows w wr o (upTo hit j)) (fun _ k _ => n + 1 - (intOf k).toNat)
  case atStart => exact ⟨0, by omega, rfl, World.ownsRow_nil _ _ _ _, World.grownBy.refl _ _⟩
  case round =>
    obtain ⟨j, hj, rfl, hR⟩ := hrel
    obtain ⟨hown, hg⟩ := hR
    have hRL := H.out.grown hg (by simp) (by simp) (by simp)
    obtain ⟨_, c1, c2, _, _⟩ := hRL.cells
    have HO := Lib.hid hown
    have HG := Lib.hid hg
    clear hown hg hRL
    by_cases hlt : j < n
    · have hkn : (j : Int) + 1 ≤ (n : Int) := by omega
      have hDw := HD.out.kept HG.out (by simp)
      go_wp2_with (at_range; refine wpList_range_own _ rfl _ 83 rfl 3 3 keyedInt Tryd.underlying83 _ bs m D rfl hDw ?_; intro w0 hrg0 hg0 hs0)
      go_frame
      obtain ⟨base, hbase⟩ : ∃ base, upTo hit j = base := ⟨_, rfl⟩
      have hbl : base.length ≤ 1000 := by have := upTo_len hit j; rw [hbase] at this; omega
      have hnext : upTo hit (j + 1) = base ++ (hit (j + 1)).toList := by rw [upTo, hbase]
      have hst0 : came (hit (j + 1)) (Maps.has D) = [] := by
        unfold came
        split
        next t e =>
          have hwt := HHW.out _ _ e
          have hft := ((HHH.out (j + 1) t hwt).1 e).1
          have := (HF.out t hwt).1
          rw [hft] at this
          rw [if_pos (by simpa using this)]
        next => rfl
      have hown0 := HO.out.kept hg0 (by cases u5.ownBlock with
        | none => exact .inl rfl
        | some _ => exact .inr (by simp))
      rw [hbase] at hown0
      have hR0 : Rows w w0 u5 (base ++ came (hit (j + 1)) (Maps.has D)) := by
        rw [hst0, List.append_nil]
        exact ⟨hown0, HG.out.andThen hg0 (by intro k hk; cases hk)⟩
      have hwr : w.heap.size ≤ wr.heap.size := HG.out.size
      have HR0 := Lib.hid hR0
      have HN := Lib.hid hnext
      have HRG := Lib.hid hrg0
      clear hst0 hown0 hR0 hnext hrg0 hbase hDw c1 c2 HO hg0
      obtain ⟨rr, hrr⟩ : ∃ rr, wr.heap.size = rr := ⟨_, rfl⟩
      rw [hrr] at HRG hwr ⊢
      go_loopw [5] (fun o wx => ∃ (left : Lit → Bool) (cnt : Nat), wx.ranges Tryd.prog 3 (plainElem Tryd.prog 3) bs rr m D left cnt ∧ Rows w wx o (base ++ came (hit (j + 1)) left)) (fun _ wx => wx.rangeLeft bs rr)
      case atStart => exact ⟨_, _, HRG.out, HR0.out⟩
      case round =>
        obtain ⟨left, cnt, hrg, hown, hg⟩ := hrel
        have HO := Lib.hid hown
        have HGX := Lib.hid hg
        clear hown hg HR0 HRG
        go_wp2_with (at_next; refine wpList_next_ranges_ii _ rfl _ rfl 3 3 .i64 .i64 keyedInt Tryd.underlying3 Tryd.underlying3 bs rr m _ _ _ rfl hrg ?_ ?_)
        · intro _ hl0
          have hc := came_all (h := hit (j + 1)) hl0
          clear hrg
          go_wp2
          go_roundw
          case rel =>
            refine ⟨j + 1, by omega, by go_num, ?_⟩
            rw [HN.out, ← hc]
            exact ⟨HO.out, HGX.out⟩
          case measure => simp [intOf]; omega
        · intro x c w1 cnt1 hwx hwc hlx hat hrg1 hlt1 hg1 hs1 hen
          obtain ⟨hne1, hne2⟩ := ranges_apart hrg HO.out
          have hm1 := hrg.left_eq
          have hfx : f x = some c := by
            obtain ⟨h1, h2⟩ := HF.out x hwx
            cases e : f x with
            | some c' =>
              have h3 := h2 c' e .nil
              rw [hat .nil] at h3
              injection h3 with h3
              injection h3 with _ h3
              rw [h3]
            | none =>
              rw [e] at h1
              have h3 := Maps.atKey_of_not_has (by simpa using h1) (DataW.nil : DataW Unit)
              rw [hat .nil] at h3
              cases h3
          have hgw1 : w.grownBy w1 none := HGX.out.andThen hg1 (fun k hk => by injection hk with hk; subst hk; exact .inl hwr)
          have hRL1 := H.out.grown hgw1 (by simp) (by simp) (by simp)
          obtain ⟨_, _, _, c3, _⟩ := hRL1.cells
          have hl := hRL1.where_.look Tryd.underlying83 Tryd.underlying3 (zeroInt w1) x hwx
          have hown1 := HO.out.kept hg1 (.inr hne1)
          have hwhich := HHH.out (j + 1) x hwx
          rw [hfx] at hwhich
          obtain ⟨gx, hgx⟩ : ∃ gx, (g x).getD 0 = gx := ⟨_, rfl⟩
          rw [hgx] at hl hwhich
          have hm2 := hrg1.left_eq
          have HO1 := Lib.hid hown1
          have HG1 := Lib.hid hgw1
          have HRG1 := Lib.hid hrg1
          clear hRL1 hown1 hgw1 hrg1 hrg hat HO HGX hgx hfx hg1 hs1
          have hlen : (base ++ came (hit (j + 1)) left).length ≤ 1001 := by
            rw [List.length_append]
            have := came_len (hit (j + 1)) left
            omega
          by_cases hcj : c = (j : Int) + 1
          · have hb1 : (c == (j : Int) + 1) = true := by simpa using hcj
            by_cases hgc : gx = cell
            · have hb2 : (gx == cell) = true := by simpa using hgc
              have hhit := hwhich.2 ⟨by rw [hcj]; rfl, hgc⟩
              obtain ⟨y1, y2⟩ := came_yes hlx
              rw [← hhit] at y1 y2
              have HY1 := Lib.hid y1
              have HY2 := Lib.hid y2
              have h1c : ∀ u ∈ [Value.int .i64 x], u.oneCell' = true := by intro u hu; rw [List.mem_singleton.1 hu]; rfl
              have H1C := Lib.hid h1c
              have HM := Lib.hid hm1
              have HM2 := Lib.hid hm2
              have HNE := Lib.hid hne1
              have HNE2 := Lib.hid hne2
              clear h1c y1 y2 hhit hwhich hm1 hm2 hne1 hne2 hcj hgc
              go_wp2_with (at_builtin; refine wpList_append_own _ rfl (.tmp 40) (.tmp 42) 61 rfl w.heap.size 3 i0 (.int .i64 0) 1 8 Tryd.underlying61 hi hz0 hz1 hz2 rfl (by decide) _ (base ++ came (hit (j + 1)) left).length ((base ++ came (hit (j + 1)) left).map (Value.int .i64)) rfl ?hown ⟨w1.heap.size, 0, none⟩ 1 1 [.int .i64 x] rfl rfl ?c1 H1C.out ?c3 ?c4 ?c5 ?_)
              case hown => exact HO1.out.alloc _
              case c1 => exact news_one rfl
              case c3 => unfold maxLen; omega
              case c4 => omega
              case c5 => have := HG1.out.size; simp; omega
              intro v' w2 hown2 hg2 _
              have hgw2 : w.grownBy w2 none := (HG1.out.andThen (World.grownBy_alloc _ _ none) (by intro k hk; cases hk)).andThen hg2 (fun k hk => .inl (HO1.out.lt k hk).1)
              have hrg2 := (HRG1.out.alloc (.cells #[.int .i64 x] 3)).kept hg2 (fun e => HNE2.out e.symm) (fun e => HNE.out e.symm)
              have hown3 : w2.ownsRow w.heap.size 3 1 v' (base ++ came (hit (j + 1)) (fun z => left z && !z.sameKey (.int .i64 x))).length ((base ++ came (hit (j + 1)) (fun z => left z && !z.sameKey (.int .i64 x))).map (Value.int .i64)) := by
                rw [HY1.out] at hown2
                rw [HY2.out, List.length_append, List.map_append]
                exact hown2
              have H1 := Lib.hid hgw2
              have H2 := Lib.hid hown3
              have H3 := Lib.hid hrg2
              clear hown2 hg2 hgw2 hown3 hrg2
              go_wp2
              go_roundw
              case rel => exact ⟨_, _, H3.out, H2.out, H1.out⟩
              case measure => rw [H3.out.left_eq, HM.out]; exact hlt1
            · have hb2 : (gx == cell) = false := by simpa using hgc
              have hno : hit (j + 1) ≠ some x := fun e => hgc (hwhich.1 e).2
              have hs := came_no (h := hit (j + 1)) (left := left) hno
              clear hwhich hno hcj hgc
              go_wp2
              go_roundw
              case rel => exact ⟨_, _, HRG1.out, by rw [hs]; exact ⟨HO1.out, HG1.out⟩⟩
              case measure => rw [hm2, hm1]; exact hlt1
          · have hb1 : (c == (j : Int) + 1) = false := by simpa using hcj
            have hno : hit (j + 1) ≠ some x := fun e => hcj (by have := (hwhich.1 e).1; injection this)
            have hs := came_no (h := hit (j + 1)) (left := left) hno
            clear hwhich hno hcj
            go_wp2
            go_roundw
            case rel => exact ⟨_, _, HRG1.out, by rw [hs]; exact ⟨HO1.out, HG1.out⟩⟩
            case measure => rw [hm2, hm1]; exact hlt1
    · obtain rfl : j = n := by omega
      have hkn : ¬ (j : Int) + 1 ≤ (j : Int) := by omega
      go_wp2
      go_ret
      exact ⟨_, rfl, HO.out, HG.out⟩
end
end Go.Proofs.YtnooegfhkeddnaaDoor
