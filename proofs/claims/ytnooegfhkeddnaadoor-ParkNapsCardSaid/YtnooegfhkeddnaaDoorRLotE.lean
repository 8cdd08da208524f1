/-
  The reference's lot: waking.
-/
import Derived.Test.YtnooegfhkeddnaaDoorRLotD
import Derived.Test.YtnooegfhkeddnaaDoorLotH
namespace Go.Proofs.YtnooegfhkeddnaaDoor
set_option maxRecDepth 100000
open Go.RowKit Go.Shelf

def dropAll (f : Int → Option Int) (out : List Int) : Int → Option Int := fun x => if out.contains x then none else f x

theorem dropAll_nil (f : Int → Option Int) : dropAll f [] = f := rfl

theorem dropAll_step (f : Int → Option Int) (out : List Int) (i : Nat) (hi : i < out.length) : dropAt (dropAll f (out.take i)) (out.getD i 0) = dropAll f (out.take (i + 1)) := by
  have e1 : out.take (i + 1) = out.take i ++ [out.getD i 0] := by
    rw [List.take_succ_eq_append_getElem hi, List.getD_eq_getElem?_getD, List.getElem?_eq_getElem hi]
    rfl
  rw [e1]
  obtain ⟨a, ha⟩ : ∃ a, out.getD i 0 = a := ⟨_, rfl⟩
  rw [ha]
  funext x
  unfold dropAt dropAll
  by_cases e : x = a
  · subst e
    simp
  · simp [e]

theorem Ints.keeps2 {k : IntKind} {S : Nat → Prop} {w w' : World} {B n : Nat} {A : Option Addr} {xs : List Int} (h : Ints k w B A n xs) (hk : Keeps S w w') (hB : B ≤ w.heap.size) (hf : 0 < n → ∃ b off, A = some ⟨b, off, none⟩ ∧ ¬ S b) : Ints k w' w'.heap.size A n xs :=
  ⟨h.len, fun h0 => by
    obtain ⟨b, off, e, hb, hc⟩ := h.row h0
    obtain ⟨b2, off2, e2, hs⟩ := hf h0
    have he := e.symm.trans e2
    injection he with he
    injection he with he1 he2
    subst he1
    exact ⟨b, off, e, Nat.lt_of_lt_of_le (Nat.lt_of_lt_of_le hb hB) hk.size, fun i hi => (World.cell?_of_block (a := ⟨b, off + i, none⟩) (hk.block b (by omega) hs)).trans (hc i hi)⟩⟩

section
variable {w : World} {B r : Nat} {nt clock : Int} {bs bw m : Nat} {f g : Int → Option Int}

def RWoke (B r : Nat) (nt clock : Int) (bs bw m : Nat) (f g : Int → Option Int) (out : List Int) (w : World) (e : Ending) (w' : World) : Prop :=
  ∃ A c, e = .returned (.slice A out.length c) ∧ Ints .i64 w' w'.heap.size A out.length out ∧ RLot w' B r nt clock bs bw m (dropAll f out) g ∧ w.grownBy w' (some bs)

/-- What the round of deletions keeps. -/
def Deleting (w wr : World) (B r : Nat) (nt clock : Int) (bs bw m : Nat) (f g : Int → Option Int) (A : Option Addr) (out : List Int) (i : Nat) : Prop :=
  Ints .i64 wr wr.heap.size A out.length out ∧ RLot wr B r nt clock bs bw m (dropAll f (out.take i)) g ∧ w.grownBy wr (some bs) ∧ (0 < out.length → ∃ b off, A = some ⟨b, off, none⟩ ∧ w.heap.size ≤ b)

theorem Deleting.step {w wr : World} {A : Option Addr} {out : List Int} {i : Nat} (hbs : bs < w.heap.size) (h : Deleting w wr B r nt clock bs bw m f g A out i) (hi : i < out.length) (hwf : (Lit.int .i64 (out.getD i 0)).wf = true) :
    ∃ w2, (Builtin.delete_ #[83, 3] 0 #[.map (some bs), .int .i64 (out.getD i 0)]).run Tryd.prog wr = .ok (.tuple #[]) w2 ∧ Deleting w w2 B r nt clock bs bw m f g A out (i + 1) := by
  obtain ⟨hI, hL, hg, hf⟩ := h
  obtain ⟨w2, hrun, hI2, hg2⟩ := hL.since.del Tryd.underlying83 0 (out.getD i 0) hwf
  rw [dropAll_step f out i hi] at hI2
  refine ⟨w2, hrun, hI.keeps2 (S := fun k => k = bs) (Keeps.of_grown hg2 (fun k e => by injection e with e; exact e.symm)) (Nat.le_refl _) ?_, ?_, hg.trans hg2, hf⟩
  · intro h0
    obtain ⟨b, off, e, hb⟩ := hf h0
    exact ⟨b, off, e, by omega⟩
  · exact ⟨(hg2.block r hL.lt (fun e => hL.rs (by injection e))).trans hL.at_, hI2, hL.where_.kept hg2 (fun e => hL.ne (by injection e with e; exact e.symm)), hL.ne, hL.lr, hL.ls, hL.lw⟩

theorem Deleting.done {w wr : World} {A : Option Addr} {out : List Int} {i c : Nat} (h : Deleting w wr B r nt clock bs bw m f g A out i) (hi : out.length ≤ i) : RWoke B r nt clock bs bw m f g out w (.returned (.slice A out.length c)) wr := by
  obtain ⟨hI, hL, hg, _⟩ := h
  rw [List.take_of_length_le hi] at hL
  exact ⟨A, c, rfl, hI, hL, hg⟩

theorem Deleting.start {w w1 : World} {A : Option Addr} {T out : List Int} {c1 k : Nat} (h : RLot w B r nt clock bs bw m f g) (hown : w1.ownsRow w.heap.size 3 1 (.slice A T.length c1) T.length (T.map (Value.int .i64))) (hg : w.grownBy w1 none) (ho : T.take k = out) (hk : k ≤ T.length) :
    Deleting w w1 B r nt clock bs bw m f g A out 0 := by
  have hol : out.length = k := by rw [← ho, List.length_take]; omega
  refine ⟨?_, ?_, hg.but _, fun h0 => ?_⟩
  · rw [hol, ← ho]
    exact (Ints.of_own hown).take hk
  · exact h.grown hg (by simp) (by simp) (by simp)
  · obtain ⟨g, cap, hv, hb, _⟩ := hown.form (by omega : 0 < T.length)
    injection hv with hv1
    exact ⟨g, 0, hv1, hb⟩

set_option maxHeartbeats 4000000 in
theorem rwake_any (h : RLot w B r nt clock bs bw m f g) (cell nn : Int) (T : List Int) (hT : Calls Tryd.prog 30 #[.pointer (some ⟨r, 0, none⟩), .int .i64 cell] w (ToldInts T w)) (hTl : T.length ≤ 1000) (hwf : ∀ t ∈ T, (Lit.int .i64 t).wf = true) :
    Calls Tryd.prog 24 #[.pointer (some ⟨r, 0, none⟩), .int .i64 cell, .int .i64 nn] w (RWoke B r nt clock bs bw m f g (T.take (wakeN nn T)) w) := by
  have hcases : (nn ≤ 0 ∧ wakeN nn T = 0) ∨ (∃ k : Nat, nn = (k : Int) ∧ 0 < k ∧ k ≤ T.length ∧ wakeN nn T = k) ∨ ((T.length : Int) < nn ∧ 0 < T.length ∧ wakeN nn T = T.length) ∨ (T = [] ∧ 0 < nn ∧ wakeN nn T = 0) := by
    unfold wakeN
    by_cases h1 : nn ≤ 0
    · left; omega
    · right
      by_cases h2 : nn ≤ (T.length : Int)
      · left; exact ⟨nn.toNat, by omega, by omega, by omega, by omega⟩
      · right
        by_cases h3 : T.length = 0
        · right; exact ⟨List.eq_nil_of_length_eq_zero h3, by omega, by omega⟩
        · left; exact ⟨by omega, by omega, by omega⟩
  obtain ⟨k, hk⟩ : ∃ k, wakeN nn T = k := ⟨_, rfl⟩
  have hkT : k ≤ T.length := by rw [← hk]; unfold wakeN; omega
  rw [hk] at hcases ⊢
  have hol : (T.take k).length = k := by rw [List.length_take]; omega
  obtain ⟨out, ho⟩ : ∃ out, T.take k = out := ⟨_, rfl⟩
  rw [ho] at hol ⊢
  have hwo : ∀ i, i < out.length → (Lit.int .i64 (out.getD i 0)).wf = true := fun i hi => by
    have hm : out.getD i 0 ∈ out := by
      rw [List.getD_eq_getElem?_getD, List.getElem?_eq_getElem hi]
      exact List.getElem_mem _
    generalize out.getD i 0 = t at hm
    rw [← ho] at hm
    exact hwf t (List.mem_of_mem_take hm)
  have hbs := h.since.lt
  have hst : ∀ (w1 : World) (A : Option Addr) (c1 : Nat), w1.ownsRow w.heap.size 3 1 (.slice A T.length c1) T.length (T.map (Value.int .i64)) → w.grownBy w1 none → Deleting w w1 B r nt clock bs bw m f g A out 0 := fun w1 A c1 h1 h2 => Deleting.start h h1 h2 ho hkT
  have HS := Lib.hid hst
  have HT := Lib.hid hT
  have HWO := Lib.hid hwo
  have HOL := Lib.hid hol
  clear h hT ho hwo hwf hk hst
  rcases hcases with ⟨hn0, hmv⟩ | ⟨kk, rfl, hk0, hkl, hmv⟩ | ⟨hn1, hn0, hmv⟩ | ⟨rfl, hn0, hmv⟩
  · subst hmv
    go_enter Tryd.func24, Tryd.ntmps24
    go_wp2_with fail
    refine HT.out.mono ?_
    rintro e w1 ⟨v1, rfl, hown1, hg1⟩
    obtain ⟨A, c1, rfl⟩ := slice_of_own2 hown1
    have hlc : T.length ≤ c1 := by
      rcases hown1.2 with ⟨e, e2⟩ | ⟨_, _, _, e, _, _, h1, _⟩
      · omega
      · injection e with _ _ e; omega
    have hD0 := HS.out w1 A c1 hown1 hg1
    have HD0 := Lib.hid hD0
    have HLEN := Lib.hid (show out.length = 0 from HOL.out)
    clear hown1 hg1 hD0 hol
    go_wp2_with fail
    go_loopw [22] (fun j wr => ∃ i : Nat, i ≤ 0 ∧ j = .int .i64 i ∧ Deleting w wr B r nt clock bs bw m f g A out i) (fun j _ => 0 - (intOf j).toNat)
    case atStart => exact ⟨0, Nat.zero_le _, rfl, HD0.out⟩
    case round =>
      obtain ⟨i, hi, rfl, hDel⟩ := hrel
      clear HD0
      by_cases hlt : i < 0
      · exfalso; omega
      · have hii : ¬ (i : Int) < 0 := by omega
        have hfin := Deleting.done (c := c1) hDel (by rw [HLEN.out]; omega)
        rw [HLEN.out] at hfin
        have HFI := Lib.hid hfin
        clear hDel hfin
        go_wp2
        go_ret
        exact HFI.out
  · subst hmv
    have hkk : ¬ (k : Int) ≤ 0 := by omega
    have hkx : (k : Int) ≤ (T.length : Int) := by omega
    go_enter Tryd.func24, Tryd.ntmps24
    go_wp2_with fail
    refine HT.out.mono ?_
    rintro e w1 ⟨v1, rfl, hown1, hg1⟩
    obtain ⟨A, c1, rfl⟩ := slice_of_own2 hown1
    have hlc : T.length ≤ c1 := by
      rcases hown1.2 with ⟨e, e2⟩ | ⟨_, _, _, e, _, _, h1, _⟩
      · omega
      · injection e with _ _ e; omega
    have hD0 := HS.out w1 A c1 hown1 hg1
    have HD0 := Lib.hid hD0
    have HLEN := Lib.hid (show out.length = k from HOL.out)
    clear hown1 hg1 hD0 hol
    go_wp2_with fail
    go_loopw [22] (fun j wr => ∃ i : Nat, i ≤ k ∧ j = .int .i64 i ∧ Deleting w wr B r nt clock bs bw m f g A out i) (fun j _ => k - (intOf j).toNat)
    case atStart => exact ⟨0, Nat.zero_le _, rfl, HD0.out⟩
    case round =>
      obtain ⟨i, hi, rfl, hDel⟩ := hrel
      clear HD0
      by_cases hlt : i < k
      · have hii : (i : Int) < (k : Int) := by omega
        obtain ⟨w2, hrun, hnext⟩ := Deleting.step hbs hDel (by rw [HLEN.out]; exact hlt) (HWO.out i (by rw [HLEN.out]; exact hlt))
        obtain ⟨b, off, rfl, hb, hx⟩ := hDel.1.row (by rw [HLEN.out]; omega)
        have hcx := hx i (by rw [HLEN.out]; exact hlt)
        obtain ⟨_, _, d2, _, _⟩ := hDel.2.1.cells
        obtain ⟨x, hxe⟩ : ∃ x, out.getD i 0 = x := ⟨_, rfl⟩
        rw [hxe] at hcx hrun
        have HR := Lib.hid hrun
        have HNX := Lib.hid hnext
        clear hDel hx hxe hrun hnext
        go_wp2_with (at_delete; refine wpList_delete_run _ rfl _ _ _ _ rfl _ _ rfl rfl _ HR.out ?_)
        go_roundw
        case rel => exact ⟨i + 1, by omega, by go_num, HNX.out⟩
        case measure => simp [intOf]; omega
      · have hii : ¬ (i : Int) < (k : Int) := by omega
        have hfin := Deleting.done (c := c1) hDel (by rw [HLEN.out]; omega)
        rw [HLEN.out] at hfin
        have HFI := Lib.hid hfin
        clear hDel hfin
        go_wp2
        go_ret
        exact HFI.out
  · subst hmv
    have hnx : ¬ nn ≤ (T.length : Int) := by omega
    have hny : ¬ (T.length : Int) ≤ 0 := by omega
    go_enter Tryd.func24, Tryd.ntmps24
    go_wp2_with fail
    refine HT.out.mono ?_
    rintro e w1 ⟨v1, rfl, hown1, hg1⟩
    obtain ⟨A, c1, rfl⟩ := slice_of_own2 hown1
    have hlc : T.length ≤ c1 := by
      rcases hown1.2 with ⟨e, e2⟩ | ⟨_, _, _, e, _, _, h1, _⟩
      · omega
      · injection e with _ _ e; omega
    have hD0 := HS.out w1 A c1 hown1 hg1
    have HD0 := Lib.hid hD0
    have HLEN := Lib.hid (show out.length = T.length from HOL.out)
    clear hown1 hg1 hD0 hol
    go_wp2_with fail
    go_loopw [22] (fun j wr => ∃ i : Nat, i ≤ T.length ∧ j = .int .i64 i ∧ Deleting w wr B r nt clock bs bw m f g A out i) (fun j _ => T.length - (intOf j).toNat)
    case atStart => exact ⟨0, Nat.zero_le _, rfl, HD0.out⟩
    case round =>
      obtain ⟨i, hi, rfl, hDel⟩ := hrel
      clear HD0
      by_cases hlt : i < T.length
      · have hii : (i : Int) < (T.length : Int) := by omega
        obtain ⟨w2, hrun, hnext⟩ := Deleting.step hbs hDel (by rw [HLEN.out]; exact hlt) (HWO.out i (by rw [HLEN.out]; exact hlt))
        obtain ⟨b, off, rfl, hb, hx⟩ := hDel.1.row (by rw [HLEN.out]; omega)
        have hcx := hx i (by rw [HLEN.out]; exact hlt)
        obtain ⟨_, _, d2, _, _⟩ := hDel.2.1.cells
        obtain ⟨x, hxe⟩ : ∃ x, out.getD i 0 = x := ⟨_, rfl⟩
        rw [hxe] at hcx hrun
        have HR := Lib.hid hrun
        have HNX := Lib.hid hnext
        clear hDel hx hxe hrun hnext
        go_wp2_with (at_delete; refine wpList_delete_run _ rfl _ _ _ _ rfl _ _ rfl rfl _ HR.out ?_)
        go_roundw
        case rel => exact ⟨i + 1, by omega, by go_num, HNX.out⟩
        case measure => simp [intOf]; omega
      · have hii : ¬ (i : Int) < (T.length : Int) := by omega
        have hfin := Deleting.done (c := c1) hDel (by rw [HLEN.out]; omega)
        rw [HLEN.out] at hfin
        have HFI := Lib.hid hfin
        clear hDel hfin
        go_wp2
        go_ret
        exact HFI.out
  · subst hmv
    have hnz : ¬ nn ≤ 0 := by omega
    go_enter Tryd.func24, Tryd.ntmps24
    go_wp2_with fail
    refine HT.out.mono ?_
    rintro e w1 ⟨v1, rfl, hown1, hg1⟩
    obtain ⟨A, c1, rfl⟩ := slice_of_own2 hown1
    have hD0 := HS.out w1 A c1 hown1 hg1
    have HD0 := Lib.hid hD0
    have HLEN := Lib.hid (show out.length = 0 from HOL.out)
    clear hown1 hg1 hD0 hol
    rw [show ([] : List Int).length = 0 from rfl]
    go_wp2_with fail
    go_loopw [22] (fun j wr => ∃ i : Nat, i ≤ 0 ∧ j = .int .i64 i ∧ Deleting w wr B r nt clock bs bw m f g A out i) (fun j _ => 0 - (intOf j).toNat)
    case atStart => exact ⟨0, Nat.zero_le _, rfl, HD0.out⟩
    case round =>
      obtain ⟨i, hi, rfl, hDel⟩ := hrel
      clear HD0
      by_cases hlt : i < 0
      · exfalso; omega
      · have hii : ¬ (i : Int) < 0 := by omega
        have hfin := Deleting.done (c := c1) hDel (by rw [HLEN.out]; omega)
        rw [HLEN.out] at hfin
        have HFI := Lib.hid hfin
        clear hDel hfin
        go_wp2
        go_ret
        exact HFI.out
end
end Go.Proofs.YtnooegfhkeddnaaDoor
