/-
  Each goes down by one: of all who go down no two are told the same, but nought; and what is left is the count, less all that went down. No conditions.
-/
import Derived.Test.YtdfljhechmanlaaDoorQL4
import Derived.Test.YtdfljhechmanlaaDoorQL5
import Derived.Test.YtdfljhechmanlaaDoorRows
import Derived.Test.YtdfljhechmanlaaDoorCards
import Derived.Test.YtdfljhechmanlaaDoorTie
import Derived.WalkKit
import Derived.ProofKit
import Derived.OpenShut
import Derived.ChangeOld
import Derived.Below
import Derived.ChangeSame
import Derived.ChangeVars
import Derived.JoinedOf
import Derived.RowKitTokens
import Derived.LaidLaws
import Derived.LaidHandle
import Derived.Stop.Joined
import Derived.SevenTiedAt
import Derived.Lib.LaidTab
import Derived.Lib.LaidIn
import Derived.ChangeMaps5
import Derived.Test.YtdfljhechmanlaaDoorQE3
import Derived.Test.YtdfljhechmanlaaDoorQE
import Derived.Test.YtdfljhechmanlaaDoorQL2
namespace Go.Proofs.YtdfljhechmanlaaDoor
set_option maxRecDepth 100000
open Go.RowKit Go.Shelf Go.Sort
set_option linter.unusedVariables false
set_option linter.unusedSimpArgs false

/-- What a latch has told when nobody goes on. -/
structure LaTold (f : Nat) (Ls : List (List Bool)) (ev : List Ev4) (v : Int) : Prop where
  evs : ∀ x ∈ ev, ∃ s v : Int, ∃ u : Nat, u < Ls.length ∧ x = (s, 3, (u : Int), v)
  one : ∀ u, u < Ls.length → (ansOf ev u).length ≤ (callsL Ls u).length ∧ ∀ (i : Nat) (w : Int), (ansOf ev u)[i]? = some w → 0 ≤ w ∧ (w = 0 ∨ w < f) ∧ ((callsL Ls u)[i]? = some true → w = 0)
  uni : ∀ x : Int, 0 < x → (sumN Ls.length fun u => (ansOf ev u).count x) ≤ 1
  left : v = max 0 ((f : Int) - (sumN Ls.length fun u => dnB (callsL Ls u) (ansOf ev u).length : Nat))
theorem la_counts {f p : Nat} {Ls : List (List Bool)} {h : LaOk f Ls} {m m' : Mach} (hm : LaM h p m) (hp : p ≤ 500) (hf : Fin m m') : ∃ v : Int, m'.cells = [v] ∧ 0 ≤ v ∧ v ≤ f ∧ LaTold f Ls m'.events v := by
  obtain ⟨S, hS, hq⟩ := la_fin hm hp hf
  have hI := laM_inv hS
  obtain ⟨h1, h2, h3⟩ := lat_over hI hS.sim.wf hq
  have hk : ∀ u, u < Ls.length → (ansOf m'.events u).length = (S.th u).k := fun u hu => (hI.ans u hu).1
  refine ⟨S.cell 0, laM_cells hS, hI.cell.1, hI.cell.2, hI.evs, fun u hu => ⟨by rw [hk u hu]; exact (hS.sim.wf.th u hu).k, (hI.ans u hu).2⟩, fun x hx => ?_, ?_⟩
  · have := hI.uni x hx
    have h4 : (sumN Ls.length fun u => (ansOf m'.events u).count x) ≤ sumN Ls.length fun u => (ansOf m'.events u).count x + valL (callsL Ls u)[(S.th u).k]? (S.th u) x := sumN_le fun u _ => by omega
    omega
  · have e1 : (sumN Ls.length fun u => dnB (callsL Ls u) (ansOf m'.events u).length) = sumN Ls.length fun u => dnB (callsL Ls u) (S.th u).k := Nat.le_antisymm (sumN_le fun u hu => by rw [hk u hu]; exact Nat.le_refl _) (sumN_le fun u hu => by rw [hk u hu]; exact Nat.le_refl _)
    rw [e1]
    have := hI.cell
    rcases h3 with h3 | h3 <;> omega

/-- The rows of what threads were told. -/
def AnsRows (B g n : Nat) (e : List Ev4) (xs : List Value) (w2 : World) : Prop := w2.ownsRow B 40 1 (.slice (some ⟨g, 0, none⟩) n n) n xs ∧ ∀ u, u < n → ∃ Au cu, xs[u]? = some (.slice Au (ansOf e u).length cu) ∧ w2.ownsRow B 3 1 (.slice Au (ansOf e u).length cu) (ansOf e u).length ((ansOf e u).map (Value.int .i64))
theorem AnsTo.given {w w2 : World} {g n : Nat} {e : List Ev4} (h : AnsTo w g n e w2) : ∃ xs, AnsRows w.heap.size g n e xs w2 := by
  obtain ⟨xs, h1, h2, _⟩ := h.row
  exact ⟨xs, h1, h2⟩
theorem AnsRows.kept {B g n b : Nat} {e : List Ev4} {xs : List Value} {w2 w3 : World} (h : AnsRows B g n e xs w2) (hg : w2.grownBy w3 (some b)) (hb : b < B) : AnsRows B g n e xs w3 := by
  obtain ⟨h1, h2⟩ := h
  have hk : ∀ {ee s m : Nat} {vv : Value} {ys : List Value}, w2.ownsRow B ee s vv m ys → w3.ownsRow B ee s vv m ys := fun {ee s m vv ys} q => q.kept hg (by
    cases hv : vv.ownBlock with
    | none => exact .inl rfl
    | some z =>
      right
      intro e
      injection e with e
      have := (q.lt z hv).1
      omega)
  refine ⟨hk h1, fun u hu => ?_⟩
  obtain ⟨Au, cu, q1, q2⟩ := h2 u hu
  exact ⟨Au, cu, q1, hk q2⟩
theorem AnsRows.at {B g n : Nat} {e : List Ev4} {xs : List Value} {w2 : World} (h : AnsRows B g n e xs w2) {u : Nat} (hu : u < n) : ∃ Au cu, xs[u]? = some (.slice Au (ansOf e u).length cu) ∧ w2.cell? ⟨g, u, none⟩ = some (.slice Au (ansOf e u).length cu) ∧ Ints .i64 w2 w2.heap.size Au (ansOf e u).length (ansOf e u) := by
  obtain ⟨h1, h2⟩ := h
  obtain ⟨Au, cu, q1, q2⟩ := h2 u hu
  exact ⟨Au, cu, q1, (h1.cellAt u (by have := h1.1; omega)).trans q1, Ints.of_own q2⟩

/-- What was seen so far. -/
structure Seen (ev : List Ev4) (t k : Nat) (fS : Int → Bool) : Prop where
  of : ∀ x : Int, 0 < x → fS x = true → 1 ≤ (sumN t fun u => (ansOf ev u).count x) + ((ansOf ev t).take k).count x
theorem take_count {l : List Int} {k : Nat} (hk : k < l.length) (x : Int) : (l.take (k + 1)).count x = (l.take k).count x + if l.getD k 0 = x then 1 else 0 := by
  have e : l.take (k + 1) = l.take k ++ [l.getD k 0] := by
    rw [List.take_add_one, List.getD_eq_getElem?_getD, List.getElem?_eq_getElem hk]
    rfl
  rw [e, List.count_append, List.count_singleton]
  by_cases h : l.getD k 0 = x
  · simp [h]
  · have : (l.getD k 0 == x) = false := beq_eq_false_iff_ne.2 h
    simp [this, h]
theorem sumN_mono {t n : Nat} {g : Nat → Nat} (h : t < n) : sumN t g + g t ≤ sumN n g := by
  obtain ⟨d, rfl⟩ : ∃ d, n = t + 1 + d := ⟨n - (t + 1), by omega⟩
  clear h
  induction d with
  | zero => rw [Nat.add_zero, sumN_succ]; exact Nat.le_refl _
  | succ d ih => rw [show t + 1 + (d + 1) = (t + 1 + d) + 1 by omega, sumN_succ]; omega
theorem cnt_wf {n : Nat} (h : n ≤ 100000) : (Lit.int .i64 (n : Int)).wf = true := by
  simp [Lit.wf, IntKind.min, IntKind.max, IntKind.signed, IntKind.bits]
  omega
theorem Seen.fresh {ev : List Ev4} {t k n : Nat} {fS : Int → Bool} (h : Seen ev t k fS) (ht : t < n) (hk : k < (ansOf ev t).length) (hu : ∀ x : Int, 0 < x → (sumN n fun u => (ansOf ev u).count x) ≤ 1) (hx : 0 < (ansOf ev t).getD k 0) : fS ((ansOf ev t).getD k 0) = false := by
  cases hf : fS ((ansOf ev t).getD k 0) with
  | false => rfl
  | true =>
    exfalso
    have h1 := h.of _ hx hf
    have h2 := take_count hk ((ansOf ev t).getD k 0)
    rw [if_pos rfl] at h2
    have h3 : ((ansOf ev t).take (k + 1)).count ((ansOf ev t).getD k 0) ≤ (ansOf ev t).count ((ansOf ev t).getD k 0) := (List.take_sublist _ _).count_le _
    have h4 := sumN_mono (g := fun u => (ansOf ev u).count ((ansOf ev t).getD k 0)) ht
    have h5 := hu _ hx
    omega
theorem Seen.next {ev : List Ev4} {t k : Nat} {fS : Int → Bool} (h : Seen ev t k fS) (hk : k < (ansOf ev t).length) : Seen ev t (k + 1) fS := ⟨fun x hx hf => by
  have := h.of x hx hf
  rw [take_count hk]
  omega⟩
theorem Seen.set {ev : List Ev4} {t k : Nat} {fS : Int → Bool} (h : Seen ev t k fS) (hk : k < (ansOf ev t).length) : Seen ev t (k + 1) (setAt fS ((ansOf ev t).getD k 0)) := ⟨fun x hx hf => by
  rw [take_count hk]
  by_cases e : x = (ansOf ev t).getD k 0
  · rw [if_pos e.symm]; omega
  · have h2 : fS x = true := by unfold setAt at hf; rwa [if_neg e] at hf
    have := h.of x hx h2
    omega⟩
theorem Seen.over {ev : List Ev4} {t : Nat} {fS : Int → Bool} (h : Seen ev t (ansOf ev t).length fS) : Seen ev (t + 1) 0 fS := ⟨fun x hx hf => by
  have := h.of x hx hf
  rw [List.take_of_length_le (Nat.le_refl _)] at this
  rw [sumN_succ]
  simp
  omega⟩

set_option maxHeartbeats 4000000 in
theorem latchCounts_any {w : World} (hw : CW w) (A : Option Addr) (n cap : Nat) (ls : List (List Int)) (hR : IRows w w.heap.size A n ls) (hcap : n ≤ cap) (first : Int) (D : Option Addr) (nm cm : Nat) (l : List (Int × Bool)) (hl : Moves w w.heap.size D nm l) :
    Calls Tryd.prog 4 #[.slice A n cap, .int .i64 first, .slice D nm cm] w fun e w' => e = .returned (.bool true) ∧ Below w.heap.size w w' := by
  have HLt := Lib.hid (latched_any hw)
  have HP := Lib.hid (fun w => pick_det first 12 12 w rfl (by decide) (by decide))
  have p1 := pickI_lo first 12
  have p2 := pickI_hi first 12 (by decide)
  obtain ⟨f, hf⟩ : ∃ f : Nat, pickI first 12 = (f : Int) := ⟨(pickI first 12).toNat, by omega⟩
  rw [hf] at HP p1 p2
  have HF12 := Lib.hid (show f ≤ 12 by omega)
  have HR := Lib.hid hR
  have HMv := Lib.hid hl
  have HW := Lib.hid hw
  have HCap := Lib.hid hcap
  clear hR hl hw hf p1 p2 hcap
  go_enter Tryd.func4, Tryd.ntmps4
  go_wp2_with fail
  refine HLt.out.mono ?_
  rintro e w1 ⟨rfl, hb1⟩
  have HB1 := Lib.hid hb1
  clear hb1 HLt
  by_cases h9 : 500 < nm
  · have h9' : (500 : Int) < (nm : Int) := by omega
    go_wp2
    go_ret
    exact ⟨rfl, HB1.out⟩
  have h9' : ¬ (500 : Int) < (nm : Int) := by omega
  have HN5 := Lib.hid (show nm ≤ 500 by omega)
  go_wp2_with fail
  refine (HP.out _).mono ?_
  rintro e w2 ⟨rfl, rfl⟩
  clear HP
  go_wp2_with fail
  refine (laasks_any HB1.out A n cap 3 ls HR.out HCap.out [1, 1, 2] (fun x hx => by simpa using hx) #[.int .i64 1, .int .i64 1, .int .i64 2] rfl rfl (by decide) (by decide)).mono ?_
  rintro e w2 ⟨A2, c2, k2, Ls, rfl, hC, hb2, hLl, hk8, hLs⟩
  have hok := la_ok_of (f := f) HF12.out hLl hk8 hLs
  have HMd := Lib.hid (lamade3 HW.out hb2 hok A2 D k2 c2 nm cm hC l HMv.out HN5.out)
  have HC := Lib.hid hC
  have HB2 := Lib.hid hb2
  have HLl := Lib.hid (And.intro hLl hk8)
  clear hC hb2 hLl hk8 hLs HB1 HR HCap h9 h9'
  go_wp2_with fail
  rw [u64_small (by have := HF12.out; omega)]
  refine HMd.out.mono ?_
  rintro e w3 ⟨c, m, rfl, hA, -⟩
  have HF := Lib.hid (at_finish hA.at_ hA.big)
  have HL := Lib.hid hA.la
  clear hA HMd
  go_wp2_with fail
  refine HF.out.mono ?_
  rintro e w4 ⟨m', hf, rfl, hA2, hb2⟩
  obtain ⟨v, v1, v2, v3, v4⟩ := la_counts HL.out (by have := pokesM_le l; have := HMv.out.len; have := HN5.out; omega) hf
  generalize ((m'.steps : Int) - (m.steps : Int)) = dd
  have HA2 := Lib.hid hA2
  have HEv := Lib.hid (show m'.events.length ≤ 20000 by have := hb2.events; have := hb2.most; omega)
  have HV := Lib.hid (And.intro v1 (And.intro v2 v3))
  have HTd := Lib.hid v4
  clear hf hA2 hb2 HF HL v1 v2 v3 v4
  have hmk : ∀ W : World, (Instr.makeMap 46 none).run Tryd.prog W = .ok (.map (some W.heap.size)) (W.alloc (.map #[] 0)) := fun W => run_makeMap 46 W
  have HI0 := Lib.hid (BM.made 4 w4)
  have HB0 := Lib.hid ((Below.refl w4.heap.size w4).alloc (Nat.le_refl _) (.map #[] 0))
  have HS0 := Lib.hid (World.size_alloc w4 (.map #[] 0))
  have HAn := Lib.hid (answers_any (n := Ls.length) (HA2.out.keepB HB0.out) HEv.out HTd.out.evs (by have := HLl.out; omega))
  rw [HLl.out.1] at HAn
  go_wp2_with fail
  --MA
  refine HAn.out.mono ?_
  rintro e w5 ⟨g, rfl, hAn5⟩
  have HB5 := Lib.hid (HB0.out.trans (hAn5.bel.mono (by rw [HS0.out]; omega)))
  have HI5 := Lib.hid (HI0.out.kept (row := none) ⟨hAn5.bel.os, hAn5.bel.tape, hAn5.bel.output, hAn5.bel.size, fun k hk _ => hAn5.bel.block k hk⟩ (by simp))
  obtain ⟨xs, hxs⟩ := hAn5.given
  have HR5 := Lib.hid hxs
  clear hxs
  rw [HS0.out] at HR5
  clear hAn5 HAn HI0 HB0 hmk
  have hz : ∀ W, (zeroValue 4).run Tryd.prog W = .ok (.bool false) W := fun W => by kernel_rfl
  have HZ := Lib.hid hz
  clear hz
  go_wp2
  obtain ⟨b0, hb0⟩ : ∃ b0, w4.heap.size = b0 := ⟨_, rfl⟩
  rw [hb0] at HI5 HR5 HB5 ⊢
  have HBE := Lib.hid hb0
  clear hb0 HS0
  obtain ⟨ev, hev⟩ : ∃ ev, m'.events = ev := ⟨_, rfl⟩
  rw [hev] at HR5 HTd HEv
  clear hev
  have hzs : ∀ t, t ≤ k2 → (sumN t fun u => dnB (callsL Ls u) (ansOf ev u).length) ≤ 100 := fun t ht => by
    have h1 : (sumN t fun u => dnB (callsL Ls u) (ansOf ev u).length) ≤ sumN t fun _ => 12 := sumN_le fun u _ => by
      have h2 := hok.calls u
      have h3 : dnB (callsL Ls u) (ansOf ev u).length ≤ (callsL Ls u).length := by
        unfold dnB
        exact Nat.le_trans List.count_le_length (by rw [List.length_take]; omega)
      omega
    rw [sumN_const] at h1
    have := HLl.out.2
    have : t * 12 ≤ 8 * 12 := Nat.mul_le_mul_right _ (by omega)
    omega
  have HZs := Lib.hid hzs
  clear hzs
  go_loopw [10, 42] (fun s j wr => ∃ (t z : Nat) (fS : Int → Bool), t ≤ k2 ∧ j = .int .i64 t ∧ s = .int .i64 z ∧ Hid (z = (sumN t fun u => dnB (callsL Ls u) (ansOf ev u).length) ∧ BM 4 wr b0 z fS ∧ AnsRows (b0 + 1) g k2 ev xs wr ∧ Below b0 w4 wr ∧ Seen ev t 0 fS)) (fun _ j _ => k2 - (intOf j).toNat)
  case atStart => exact ⟨0, 0, fun _ => false, Nat.zero_le _, rfl, rfl, ⟨rfl, HI5.out, HR5.out, HB5.out, ⟨fun x _ h => by cases h⟩⟩⟩
  case round =>
    obtain ⟨t, z, fS, ht, rfl, rfl, hX⟩ := hrel
    by_cases hlt : t < k2
    · have htn : (t : Int) < (k2 : Int) := by omega
      have ht8 : t < 8 := by have := HLl.out.2; omega
      obtain ⟨bc, offc, hAc, hbcl, hxc⟩ := HC.out.row (by omega)
      subst hAc
      obtain ⟨Ac, cc, hcellc0, hrowc⟩ := hxc t hlt
      have hbel2 : Below w2.heap.size w2 (_ : World) := HA2.out.bel.trans (hX.out.2.2.2.1.mono (by rw [← HBE.out]; exact HA2.out.bel.size))
      have hcellc := (World.cell?_of_block (a := ⟨bc, offc + t, none⟩) (hbel2.block bc hbcl)).trans hcellc0
      have hec : (Ls.map (List.map encL)).getD t [] = (callsL Ls t).map encL := by
        have : t < Ls.length := by rw [HLl.out.1]; exact hlt
        unfold callsL
        rw [List.getD_eq_getElem?_getD, List.getElem?_map, List.getElem?_eq_getElem this, List.getD_eq_getElem?_getD, List.getElem?_eq_getElem this]
        rfl
      rw [hec, List.length_map] at hcellc hrowc hcellc0
      obtain ⟨Ai, ci, hxt, hcelli, hrowi⟩ := hX.out.2.2.1.at hlt
      have y12 := HTd.out.one t (by rw [HLl.out.1]; exact hlt)
      have hcl12 := hok.calls t
      have hzle := HZs.out t ht
      rw [← hX.out.1] at hzle
      have HX := Lib.hid hX.out
      have hsu : (sumN (t + 1) fun u => dnB (callsL Ls u) (ansOf ev u).length) = z + dnB (callsL Ls t) (ansOf ev t).length := by rw [sumN_succ, hX.out.1]
      have HSu := Lib.hid hsu
      obtain ⟨L, hL⟩ : ∃ L, callsL Ls t = L := ⟨_, rfl⟩
      rw [hL] at hcellc hrowc y12 hcl12 HSu hcellc0
      obtain ⟨na, hna⟩ : ∃ na, (ansOf ev t).length = na := ⟨_, rfl⟩
      rw [hna] at hcelli y12 HSu
      have HNa := Lib.hid hna
      obtain ⟨nl, hnl⟩ : ∃ nl, L.length = nl := ⟨_, rfl⟩
      rw [hnl] at hcellc hrowc y12 hcl12 hcellc0
      have HNl := Lib.hid hnl
      have HY := Lib.hid (And.intro y12.2 hrowc)
      have hnanl : na ≤ nl := y12.1
      have HBc := Lib.hid hbcl
      have HCc := Lib.hid hcellc0
      have HCi := Lib.hid hxt
      clear hX hxc hxt hcellc0 hbel2 hec hrowi y12 hsu hL hna hnl hrowc hbcl
      --MC
      go_wp2
      go_loopw [10, 49] (fun s j wr => ∃ (k z2 : Nat) (fS : Int → Bool), k ≤ na ∧ j = .int .i64 k ∧ s = .int .i64 z2 ∧ Hid (z2 = z + dnB L k ∧ BM 4 wr b0 z2 fS ∧ AnsRows (b0 + 1) g k2 ev xs wr ∧ Below b0 w4 wr ∧ Seen ev t k fS)) (fun _ j _ => na - (intOf j).toNat)
      case atStart => exact ⟨0, z, fS, Nat.zero_le _, rfl, rfl, ⟨by simp [dnB], HX.out.2.1, HX.out.2.2.1, HX.out.2.2.2.1, HX.out.2.2.2.2⟩⟩
      case round =>
        obtain ⟨k, z2, fS2, hk, rfl, rfl, hX2⟩ := hrel
        by_cases hlt3 : k < na
        · have hkn3 : (k : Int) < (na : Int) := by omega
          have hkl : ¬ ((nl : Int) ≤ (k : Int)) := by omega
          have hkl2 : (k : Int) < (nl : Int) := by omega
          obtain ⟨br, offr, hAr, hbr, hxr⟩ := HY.out.2.row (by omega)
          subst hAr
          obtain ⟨r00, _⟩ := hxr k (by omega)
          have hbelc : Below w2.heap.size w2 wr := HA2.out.bel.trans (hX2.out.2.2.2.1.mono (by rw [← HBE.out]; exact HA2.out.bel.size))
          have r0 := (World.cell?_of_block (a := ⟨br, offr + k * 2, none⟩) (hbelc.block br hbr)).trans r00
          have hcellc8 := (World.cell?_of_block (a := ⟨bc, offc + t, none⟩) (hbelc.block bc HBc.out)).trans HCc.out
          obtain ⟨b, hb⟩ : ∃ b, L[k]? = some b := ⟨_, List.getElem?_eq_getElem (by rw [HNl.out]; omega)⟩
          have hrd : (L.map encL).getD k default = encL b := by rw [List.getD_eq_getElem?_getD, List.getElem?_map, hb]; rfl
          rw [hrd] at r0
          obtain ⟨Ai2, ci2, hci2, _, hri2⟩ := hX2.out.2.2.1.at hlt
          have hAi : Ai2 = Ai ∧ ci2 = ci := by
            rw [HCi.out] at hci2
            injection hci2 with hci2
            injection hci2 with q1 _ q3
            exact ⟨q1.symm, q3.symm⟩
          obtain ⟨rfl, rfl⟩ := hAi
          obtain ⟨bi, offi, hAi, _, hxi⟩ := hri2.row (by rw [HNa.out]; omega)
          subst hAi
          have hval := hxi k (by rw [HNa.out]; exact hlt3)
          have hget : (ansOf ev t)[k]? = some ((ansOf ev t).getD k 0) := by rw [List.getD_eq_getElem?_getD, List.getElem?_eq_getElem (by rw [HNa.out]; exact hlt3)]; rfl
          obtain ⟨g1, g2, g3⟩ := HY.out.1 k _ hget
          have hfr := hX2.out.2.2.2.2.fresh (n := Ls.length) (by rw [HLl.out.1]; exact hlt) (by rw [HNa.out]; exact hlt3) HTd.out.uni
          have hnx := hX2.out.2.2.2.2.next (by rw [HNa.out]; exact hlt3)
          have hst := hX2.out.2.2.2.2.set (by rw [HNa.out]; exact hlt3)
          have hf12 := HF12.out
          obtain ⟨y, hy⟩ : ∃ y : Nat, (ansOf ev t).getD k 0 = (y : Int) := ⟨((ansOf ev t).getD k 0).toNat, by omega⟩
          rw [hy] at hval g1 g2 g3 hfr hst
          have hy12 : y ≤ 12 := by omega
          have hneg : ¬ (y : Int) < 0 := by omega
          have hmx : ¬ max 1 (f : Int) ≤ (y : Int) := by omega
          have hdn := dnB_succ hb
          have hwf : (Lit.int .i64 (y : Int)).wf = true := cnt_wf (by omega)
          have hz2 : z2 ≤ 200 := by
            have h1 : dnB L k ≤ 12 := by
              unfold dnB
              exact Nat.le_trans List.count_le_length (by rw [List.length_take, HNl.out]; omega)
            have := hX2.out.1
            omega
          have hk12 : k < 12 := by omega
          have hHX := Lib.hid hX2.out
          have HG3 := Lib.hid g3
          have HDn := Lib.hid hdn
          have HFr := Lib.hid hfr
          have HNx := Lib.hid hnx
          have HSt := Lib.hid hst
          rw [hb] at HG3
          clear hxr r00 hbelc hb hrd hci2 hri2 hxi hget g1 g2 g3 hfr hnx hst hy hdn hX2 hbr hf12
          cases b
          · have r0' : _ = some (Value.int .i64 1) := r0
            clear r0
            obtain ⟨w9, hup, hbm, hg9⟩ := hHX.out.2.1.put Tryd.underlying46 Tryd.underlying4 (Nat.lt_of_le_of_lt hz2 (by decide)) (y : Int) hwf
            have hlk := hHX.out.2.1.look Tryd.underlying46 Tryd.underlying4 (HZ.out _) (y : Int) hwf
            have hb0 := hHX.out.2.1.lt
            have HNew := Lib.hid (show z2 + 1 = z + dnB L (k + 1) ∧ BM 4 w9 b0 (z2 + 1) (setAt fS2 (y : Int)) ∧ AnsRows (b0 + 1) g k2 ev xs w9 ∧ Below b0 w4 w9 ∧ Seen ev t (k + 1) (setAt fS2 (y : Int)) from ⟨by rw [HDn.out, if_pos rfl]; have := hHX.out.1; omega, hbm, hHX.out.2.2.1.kept hg9 (by omega), hHX.out.2.2.2.1.grown hg9 (by omega) (by intro q hq; injection hq with hq; omega), HSt.out⟩)
            clear hbm hg9 HNx
            by_cases hp : (0 : Int) < (y : Int)
            · rw [HFr.out hp] at hlk
              clear hHX HSt HFr HG3
              go_wp2
              --MD
              go_roundw
              case rel => exact ⟨k + 1, z2 + 1, _, by omega, by go_num, by go_num, by first | exact HNew.out | exact ⟨HNew.out⟩⟩
              case measure => simp [intOf]; omega
            · clear hHX HSt HFr HG3 hlk
              go_wp2
              go_roundw
              case rel => exact ⟨k + 1, z2 + 1, _, by omega, by go_num, by go_num, by first | exact HNew.out | exact ⟨HNew.out⟩⟩
              case measure => simp [intOf]; omega
          · have r0' : _ = some (Value.int .i64 2) := r0
            have hy0 : y = 0 := by have := HG3.out rfl; omega
            subst hy0
            have HNew := Lib.hid (show z2 = z + dnB L (k + 1) ∧ BM 4 wr b0 z2 fS2 ∧ AnsRows (b0 + 1) g k2 ev xs wr ∧ Below b0 w4 wr ∧ Seen ev t (k + 1) fS2 from ⟨by rw [HDn.out, if_neg (by decide)]; have := hHX.out.1; omega, hHX.out.2.1, hHX.out.2.2.1, hHX.out.2.2.2.1, HNx.out⟩)
            clear r0 hHX HNx HSt HFr HG3
            go_wp2
            --ME
            go_roundw
            case rel => exact ⟨k + 1, z2, fS2, by omega, by go_num, rfl, by first | exact HNew.out | exact ⟨HNew.out⟩⟩
            case measure => simp [intOf]; omega
        · have hkn3 : ¬ (k : Int) < (na : Int) := by omega
          obtain rfl : k = na := by omega
          have HNew := Lib.hid (show z2 = (sumN (t + 1) fun u => dnB (callsL Ls u) (ansOf ev u).length) ∧ BM 4 wr b0 z2 fS2 ∧ AnsRows (b0 + 1) g k2 ev xs wr ∧ Below b0 w4 wr ∧ Seen ev (t + 1) 0 fS2 from ⟨by rw [HSu.out]; exact hX2.out.1, hX2.out.2.1, hX2.out.2.2.1, hX2.out.2.2.2.1, by
            have := hX2.out.2.2.2.2
            rw [← HNa.out] at this
            exact this.over⟩)
          clear hX2
          go_wp2
          go_roundw
          case rel => exact ⟨t + 1, z2, fS2, by omega, by go_num, rfl, by first | exact HNew.out | exact ⟨HNew.out⟩⟩
          case measure => simp [intOf]; omega
    · have htn : ¬ (t : Int) < (k2 : Int) := by omega
      obtain rfl : t = k2 := by omega
      have hA8 := HA2.out.keepB (show Below w4.heap.size w4 wr by rw [HBE.out]; exact hX.out.2.2.2.1)
      have HCe := Lib.hid (at_cells hA8 (by rw [HV.out.1]; exact Nat.le_of_ble_eq_true rfl))
      rw [HV.out.1] at HCe
      have HA8 := Lib.hid hA8
      have hleft := HTd.out.left
      rw [HLl.out.1, ← hX.out.1] at hleft
      have hzle := HZs.out t (Nat.le_refl _)
      rw [← hX.out.1] at hzle
      have hv0 := HV.out.2
      have hf12 := HF12.out
      have e1 : wrap64 v = v := by unfold wrap64; omega
      have e2 : wrap64 ((f : Int) - (z : Int)) = (f : Int) - (z : Int) := by unfold wrap64; omega
      have e3 : max 0 ((f : Int) - (z : Int)) = v := hleft.symm
      have e4 : (v == v) = true := by simp
      have HE := Lib.hid (And.intro e1 (And.intro e2 (And.intro e3 e4)))
      clear hA8 hX hleft hzle hv0 hf12 e1 e2 e3 e4
      go_wp2_with fail
      refine HCe.out.mono ?_
      rintro e w9 ⟨A9, c9, rfl, ho9, hg9⟩
      have hI9 : Ints .u64 w9 w9.heap.size A9 1 [v] := Ints.of_own ho9
      obtain ⟨b9, off9, hA9, _, hx9⟩ := hI9.row (by decide)
      subst hA9
      have hc9 : w9.cell? ⟨b9, off9, none⟩ = some (.int .u64 v) := hx9 0 (by decide)
      have HB9 := Lib.hid (HB2.out.trans ((HA8.out.grow hg9).bel.mono HB2.out.size))
      obtain ⟨e1, e2, e3, e4⟩ := HE.out
      clear hI9 hx9 ho9 hg9 HCe HA8
      go_wp2
      --MF
      go_ret
      exact ⟨rfl, HB9.out⟩
end Go.Proofs.YtdfljhechmanlaaDoor

namespace Go.Proofs.YtdfljhechmanlaaDoor.latchCounts
open Go.ChangeShapes Go.WideShapes Go.ChangeAt Go.RowKit
set_option linter.unusedVariables false

theorem own : ownKnob Tryd.prog.godebug = none := by kernel_rfl
theorem laidOut : laidOutB Tryd.prog = true := by kernel_rfl
theorem tsize : Tryd.prog.types.size = 214 := by kernel_rfl

/-- What the listed variables give the walk. -/
theorem cw_of {W : World} (h : laidMetH Tryd.prog Rows.latchCountsRow.laid W) : CW W := by
  have h' : laidMet Tryd.prog (Rows.latchCountsRow.laid.filter fun x => x.2.handleName?.isNone) W ∧ handlesMet Tryd.prog (Rows.latchCountsRow.laid.filter fun x => x.2.handleName?.isSome) W := h
  exact cw_of_laid h'.1 (List.mem_filter.2 ⟨.tail _ (.head _), rfl⟩)

/-- So many blocks has the settled world. -/
noncomputable def low : Nat := (World.holding Tryd.prog default ⟨#[], #[], []⟩).heap.size
def put (o : Obj) (cs : Array Value) : Obj := match o with
  | .cells _ t frozen => .cells cs t frozen
  | o => o
def tab (k : IntKind) (zs : List Int) : Array Value := (zs.map fun z => Value.int k z).toArray
/-- A world that meets the condition. -/
noncomputable def laidWorld (os : Os) : World :=
  let w0 := World.holding Tryd.prog os ⟨#[], #[], []⟩
  { w0 with heap := ((w0.heap.modify 1 (put · #[.iface 172 (.agg #[.pointer (some ⟨2, 36, none⟩)])])).modify 0 (put · formCells)) }
theorem laidWorld_met (os : Os) (args : Array Value) : laidMetH Tryd.prog Rows.latchCountsRow.laid ((laidWorld os).forCall (fun _ _ => 0) ⟨#[], args, []⟩).memory :=
  laidMetH_of_parts (LaidIn.of_run [0] 8 (by kernel_rfl) (by kernel_rfl) (by kernel_rfl) (by kernel_rfl)).met (by kernel_rfl)

/-- The walk. -/
theorem walk (a0 : Option Addr) (len0 cap0 : Nat) (nods0 : List (List Int)) (a1 : Int) (a2 : Option Addr) (len2 cap2 : Nat) (nods2 : List (Int × Bool)) (w : World) (hw : CW w) (N0 : IRows w w.heap.size a0 len0 nods0) (I0 : len0 ≤ cap0) (N2 : Moves w w.heap.size a2 len2 nods2) (I2 : True) :
    Calls Tryd.prog 4 #[.slice a0 len0 cap0, .int .i64 a1, .slice a2 len2 cap2] w fun e w' => e = .returned (.bool true) ∧ Below w.heap.size w w' := by
  exact latchCounts_any hw a0 len0 cap0 nods0 N0 I0 a1 a2 len2 cap2 nods2 N2

set_option maxRecDepth 100000 in
theorem lifted (os : Os) (started : os.Started) (H : Type) (enc : TypeId × Value → H) :
    ReturnsInHanded {} Tryd.checked os 4 .any (fun w args => (Rows.latchCountsSpec.pre enc Tryd.prog Tryd.f4 [] false w args ∧ laidMetH Tryd.prog Rows.latchCountsRow.laid w) ∧ sizedMet enc Tryd.prog Tryd.f4 (OpenSpec.ofChange Rows.latchCountsSpec) false w args)
      (Rows.latchCountsSpec.post enc Tryd.prog Tryd.f4 false true false false) := by
  refine returnsInHanded_of_change_and (C := Tryd.checked) (X := fun w _ => laidMetH Tryd.prog Rows.latchCountsRow.laid w) (fun _ _ _ hh h => h.of_heap hh) own started (by kernel_rfl) Tryd.func4
    (ChangeSpec.witness_at (enc := enc) (C := Tryd.checked) (os := os) (X := fun w _ => laidMetH Tryd.prog Rows.latchCountsRow.laid w) false (laidWorld os) #[.slice none 0 0, .int .i64 0, .slice none 0 0] 8 rfl (by kernel_rfl) (by kernel_rfl) (by kernel_rfl) (by kernel_rfl) (by kernel_rfl) (laidWorld_met os _)) ?_
  intro W base args ds gs before hval0 hW _ _ hL _
  have hval : ∀ (j : Nat) t v, Tryd.f4.params[j]? = some t → args[j]? = some v → Value.okWide Tryd.prog W .any base t v := hval0
  have hW' := hW
  obtain ⟨p, q, hA0, hV0, rfl, hfz, hnd⟩ := hW
  have hA : DataW.TrodAll enc Tryd.prog W 0 (fun _ => true) true Tryd.f4.params.toList args.toList ds p := hA0
  have hV : DataW.TrodVars enc Tryd.prog W (fun _ => true) [] gs q := hV0
  rw [Tryd.params4] at hA hval
  obtain ⟨v0, vs0, d0, ds0, p0, q0, hargs, rfl, rfl, h0, r0⟩ := trodAll_cons hA
  obtain ⟨v1, vs1, d1, ds1, p1, q1, rfl, rfl, rfl, h1, r1⟩ := trodAll_cons r0
  obtain ⟨v2, vs2, d2, ds2, p2, q2, rfl, rfl, rfl, h2, r2⟩ := trodAll_cons r1
  obtain ⟨rfl, rfl, rfl⟩ := trodAll_nil r2
  obtain rfl : args = #[v0, v1, v2] := by cases args; simp_all
  obtain ⟨rfl, rfl⟩ : gs = [] ∧ q = [] := by
    cases gs with
    | nil => exact ⟨rfl, hV⟩
    | cons g r => exact absurd hV (by intro h; cases h)
  obtain ⟨a0, len0, cap0, rfl⟩ := okWide_slice Tryd.underlying22 (hval 0 22 v0 rfl rfl)
  have k0 := h0
  have lt0 : ∀ x ∈ p0, x.block < W.heap.size := by obtain ⟨m, hm⟩ := k0; exact DataW.trod_lt m _ _ _ hm
  obtain ⟨nods0, N0, I0⟩ : ∃ nods, IRows W W.heap.size a0 len0 nods ∧ len0 ≤ cap0 := by
    obtain ⟨fuel, hf⟩ := h0
    obtain ⟨ls, hl⟩ := intss_of (a := a0) (len := len0) (cap := cap0) hf; exact ⟨ls, hl, cap_slice Tryd.underlying22 hf⟩
  obtain ⟨a1, rfl, rfl, rfl, w1⟩ := open_int Tryd.underlying3 (hval 1 3 v1 rfl rfl) h1
  obtain ⟨a2, len2, cap2, rfl⟩ := okWide_slice Tryd.underlying23 (hval 2 23 v2 rfl rfl)
  have k2 := h2
  have lt2 : ∀ x ∈ p2, x.block < W.heap.size := by obtain ⟨m, hm⟩ := k2; exact DataW.trod_lt m _ _ _ hm
  obtain ⟨nods2, N2, I2⟩ : ∃ nods, Moves W W.heap.size a2 len2 nods ∧ True := by
    obtain ⟨fuel, hf⟩ := h2
    obtain ⟨l, hl⟩ := moves_of (a := a2) (len := len2) (cap := cap2) hf; exact ⟨l, hl, trivial⟩
  have hw := cw_of hL
  clear hA0 hval0
  refine (walk a0 len0 cap0 nods0 a1 a2 len2 cap2 nods2 W hw N0 I0 N2 I2).mono fun e W' ⟨he, bel⟩ => ?_
  subst he
  exact ⟨_, rfl, _, _, _, [], _, [], hW', trodAll_mk1 (shut_bool Tryd.underlying4 _), (trodAll_cons_mk (Below.trod laidOut (by kernel_rfl) (of_decide_eq_true (by kernel_rfl)) k0 bel lt0) (trodAll_cons_mk (shut_int Tryd.underlying3 w1) (trodAll_cons_mk (Below.trod laidOut (by kernel_rfl) (of_decide_eq_true (by kernel_rfl)) k2 bel lt2) trodAll_mk0))), rfl, bel.frame _, fun h => by cases h⟩

theorem over : Rows.LatchCountsSaid :=
  OpenClaim.holds_of_wide 4 Tryd.f4 rfl rfl rfl rfl rfl rfl rfl ⟨rfl, rfl, rfl, rfl, rfl⟩ rfl rfl rfl rfl rfl (by kernel_rfl) Tryd.func4 (by kernel_rfl)
    (of_decide_eq_true (by kernel_rfl)) (by unfold Func.isWrapper; first | (rw [if_pos (by decide +kernel)]; kernel_rfl) | (rw [if_neg (by decide +kernel)]; exact ⟨rfl, rfl⟩))
    (fun os started H enc _ => lifted os started H enc)

/-- The given statement: the tied card. -/
theorem proved : Rows.LatchCountsCardSaid :=
  Claim7.holds_tied_plain_at .later [] [.handle, .data] true (true, "d47da573c139323a2d3ffb97e069444c56f44381508be9b6753f4f5b74787098") true
    over (fun _ h => by cases h) (by kernel_rfl) (fun _ h => by cases h) latchCounts_row_tie rfl ⟨rfl, rfl⟩ (by kernel_rfl) rfl
    (fun f fn hf hfn => by
      obtain rfl : f = 4 := Option.some.inj ((show Tryd.prog.funcNamed "quadrille/quadrillekeep.LatchCounts" = some 4 by kernel_rfl).symm.trans hf) |>.symm
      obtain rfl : fn = Tryd.f4 := (Option.some.inj (Tryd.func4.symm.trans hfn)).symm
      refine ⟨by kernel_rfl, fun j t ht => ?_⟩
      rw [Tryd.params4] at ht
      have hm : t ∈ [22, 3, 23] := by
        have := Array.mem_of_getElem? ht
        simpa using this
      have hall : ([22, 3, 23].all fun u => !Tryd.prog.wantsStandIn u) = true := by kernel_rfl
      exact (show Tryd.prog.wantsStandIn t = false by simpa using List.all_eq_true.1 hall t hm))
    (by kernel_rfl)
#print axioms proved
end Go.Proofs.YtdfljhechmanlaaDoor.latchCounts
