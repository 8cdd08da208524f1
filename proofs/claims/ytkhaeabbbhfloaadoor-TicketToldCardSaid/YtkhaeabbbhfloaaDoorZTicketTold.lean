/-
  EACH TICKET ONCE: each is told to one, who frees just that one, and in the end all were: so at all arguments.
-/
import Derived.Test.YtkhaeabbbhfloaaDoorQP
import Derived.Test.YtkhaeabbbhfloaaDoorQO
import Derived.Test.YtkhaeabbbhfloaaDoorRows
import Derived.Test.YtkhaeabbbhfloaaDoorCards
import Derived.Test.YtkhaeabbbhfloaaDoorTie
import Derived.WalkKit
import Derived.ProofKit
import Derived.OpenShut
import Derived.ChangeOld
import Derived.Below
import Derived.ChangeSame
import Derived.ChangeVars
import Derived.JoinedOf
import Derived.RowKitTokens
import Derived.LaidLaws
import Derived.LaidHandle
import Derived.Stop.Joined
import Derived.SevenTiedAt
import Derived.Lib.LaidTab
import Derived.Lib.LaidIn
import Derived.ChangeMaps5
import Derived.Test.YtkhaeabbbhfloaaDoorQE3
import Derived.Test.YtkhaeabbbhfloaaDoorQE
namespace Go.Proofs.YtkhaeabbbhfloaaDoor
set_option maxRecDepth 100000
open Go.RowKit Go.Shelf Go.Sort
set_option linter.unusedVariables false
set_option linter.unusedSimpArgs false

theorem EM.miss {te : TypeId} {w : World} {b m : Nat} {f : Int → Bool} (h : EM te w b m f) {t : TypeId} (ht : Tryd.prog.underlying t = some (.map 3 te)) (he : Tryd.prog.underlying te = some .bool) (hz : (zeroValue te).run Tryd.prog w = .ok (.bool false) w) (a : Int) (ha : (Lit.int .i64 a).wf = true) (hf : f a = false) :
    (Instr.lookup t (.map (some b)) (.int .i64 a) false).run Tryd.prog w = .ok (.bool false) w := by
  obtain ⟨D, hD, _, _, hh⟩ := h
  obtain ⟨v, ps, hrun, hv⟩ := hD.lookup keyedInt ht hz (plainElem_bool he false) (Maps.keyOf_int_mk Tryd.underlying3 ha)
  obtain ⟨x, rfl, hx⟩ := plainElem_bool_back he hv
  rw [hrun]
  have h1 := hh a ha
  rw [hf] at h1
  rw [Maps.atKey_of_not_has h1] at hx
  simp only [Prod.mk.injEq] at hx
  have h2 := hx.1
  injection h2 with h2
  injection h2 with h2
  rw [← h2]
theorem wrapI_at {x : Int} {k : Nat} (h : x = (k : Int)) (hk : k < 1000) : IntKind.i64.wrap x = (k : Int) := by
  subst h
  simp [IntKind.wrap, IntKind.signed, IntKind.bits]
  omega
theorem flat_at : ∀ (l : List Nat) (i : Nat), i < l.length → (l.flatMap fun (w : Nat) => [(w : Int), (w : Int)])[2 * i]? = some ((l.getD i 0 : Nat) : Int) ∧ (l.flatMap fun (w : Nat) => [(w : Int), (w : Int)])[2 * i + 1]? = some ((l.getD i 0 : Nat) : Int)
  | [], i, h => by cases h
  | x :: l, 0, _ => ⟨rfl, rfl⟩
  | x :: l, i + 1, h => by
    obtain ⟨h1, h2⟩ := flat_at l i (by simpa using h)
    rw [show 2 * (i + 1) = 2 * i + 1 + 1 by omega]
    exact ⟨h1, h2⟩
theorem flat_len (l : List Nat) : (l.flatMap fun (w : Nat) => [(w : Int), (w : Int)]).length = 2 * l.length := by
  induction l with
  | nil => rfl
  | cons x l ih =>
    have e : ((x :: l).flatMap fun (w : Nat) => [(w : Int), (w : Int)]).length = 2 + (l.flatMap fun (w : Nat) => [(w : Int), (w : Int)]).length := by rw [List.flatMap_cons, List.length_append]; rfl
    rw [e, ih, List.length_cons]
    omega
/-- What was seen: the tickets of the threads ahead, and the first ones of one. -/
def TSeen (dr : List Int) (t i : Nat) (fS : Int → Bool) : Prop := ∀ x : Int, fS x = true → ∃ w : Nat, x = (w : Int) ∧ ((∃ u, u < t ∧ w ∈ posOf dr u) ∨ w ∈ (posOf dr t).take i)
theorem TSeen.fresh {dr : List Int} {t i : Nat} {fS : Int → Bool} (h : TSeen dr t i fS) (hi : i < (posOf dr t).length) : fS (((posOf dr t).getD i 0 : Nat) : Int) = false := by
  cases e : fS (((posOf dr t).getD i 0 : Nat) : Int) with
  | false => rfl
  | true =>
    exfalso
    obtain ⟨w, hw, hc⟩ := h _ e
    have hw : (posOf dr t).getD i 0 = w := by omega
    have hget : (posOf dr t)[i]? = some w := by rw [← hw, List.getD_eq_getElem?_getD, List.getElem?_eq_getElem hi]; rfl
    have h1 := posOf_mem.1 (List.mem_of_getElem? hget)
    rcases hc with ⟨u, hu, hm⟩ | hm
    · have h2 := posOf_mem.1 hm
      rw [h1] at h2
      injection h2 with h2
      omega
    · obtain ⟨j, hj⟩ := List.mem_iff_getElem?.1 hm
      rw [List.getElem?_take] at hj
      split at hj
      · next hlt =>
        have hp := posOf_rising dr t
        rw [List.pairwise_iff_getElem] at hp
        have hjl := (List.getElem?_eq_some_iff.1 hj).1
        have := hp j i hjl hi hlt
        rw [(List.getElem?_eq_some_iff.1 hj).2, (List.getElem?_eq_some_iff.1 hget).2] at this
        omega
      · cases hj
theorem TSeen.put {dr : List Int} {t i : Nat} {fS : Int → Bool} (h : TSeen dr t i fS) (hi : i < (posOf dr t).length) : TSeen dr t (i + 1) (setAt fS (((posOf dr t).getD i 0 : Nat) : Int)) := fun x hx => by
  unfold setAt at hx
  have hget : (posOf dr t)[i]? = some ((posOf dr t).getD i 0) := by rw [List.getD_eq_getElem?_getD, List.getElem?_eq_getElem hi]; rfl
  have htk : (posOf dr t).take (i + 1) = (posOf dr t).take i ++ [(posOf dr t).getD i 0] := by rw [List.take_add_one, hget]; rfl
  by_cases e : x = (((posOf dr t).getD i 0 : Nat) : Int)
  · exact ⟨_, e, .inr (by rw [htk]; simp)⟩
  · rw [if_neg e] at hx
    obtain ⟨w, hw, hc⟩ := h x hx
    exact ⟨w, hw, hc.imp id fun q => by rw [htk]; exact List.mem_append_left _ q⟩
theorem TSeen.over {dr : List Int} {t : Nat} {fS : Int → Bool} (h : TSeen dr t (posOf dr t).length fS) : TSeen dr (t + 1) 0 fS := fun x hx => by
  obtain ⟨w, hw, hc⟩ := h x hx
  refine ⟨w, hw, .inl ?_⟩
  rcases hc with ⟨u, hu, hm⟩ | hm
  · exact ⟨u, by omega, hm⟩
  · exact ⟨t, by omega, List.mem_of_mem_take hm⟩
theorem rise_at {dr : List Int} {t i : Nat} (hi : i + 1 < (posOf dr t).length) : (posOf dr t).getD i 0 < (posOf dr t).getD (i + 1) 0 := by
  have hp := posOf_rising dr t
  rw [List.pairwise_iff_getElem] at hp
  have := hp i (i + 1) (by omega) hi (by omega)
  rw [List.getD_eq_getElem?_getD, List.getElem?_eq_getElem (by omega), List.getD_eq_getElem?_getD, List.getElem?_eq_getElem hi]
  exact this
theorem pos_low {dr : List Int} {t i : Nat} (hi : i < (posOf dr t).length) : (posOf dr t).getD i 0 < dr.length := by
  have hget : (posOf dr t)[i]? = some ((posOf dr t).getD i 0) := by rw [List.getD_eq_getElem?_getD, List.getElem?_eq_getElem hi]; rfl
  exact (List.getElem?_eq_some_iff.1 (posOf_mem.1 (List.mem_of_getElem? hget))).1
set_option maxHeartbeats 4000000 in
theorem ticketTold_any {w : World} (hw : CW w) (n times : Int) (D : Option Addr) (nm cm : Nat) (l : List (Int × Bool)) (hl : Moves w w.heap.size D nm l) :
    Calls Tryd.prog 7 #[.int .i64 n, .int .i64 times, .slice D nm cm] w fun e w' => e = .returned (.bool true) ∧ Below w.heap.size w w' := by
  have HLt := Lib.hid (ticketed_any hw)
  have HP := Lib.hid (fun w => pick_det n 8 8 w rfl (by decide) (by decide))
  have HP2 := Lib.hid (fun w => pick_det times 6 6 w rfl (by decide) (by decide))
  have p1 := pickI_lo n 8
  have p2 := pickI_hi n 8 (by decide)
  have p3 := pickI_lo times 6
  have p4 := pickI_hi times 6 (by decide)
  obtain ⟨f, hf⟩ : ∃ f : Nat, pickI n 8 = (f : Int) := ⟨(pickI n 8).toNat, by omega⟩
  obtain ⟨d, hd⟩ : ∃ d : Nat, pickI times 6 = (d : Int) := ⟨(pickI times 6).toNat, by omega⟩
  rw [hf] at HP p1 p2
  rw [hd] at HP2 p3 p4
  obtain ⟨N, hN⟩ : ∃ N : Nat, N = f + 1 := ⟨_, rfl⟩
  have hw1 : wrap64 (1 + (f : Int)) = (N : Int) := by unfold wrap64; omega
  have HN8 := Lib.hid (show N ≤ 8 ∧ d ≤ 5 by omega)
  have HMv := Lib.hid hl
  have HML := Lib.hid hl.len
  have HW := Lib.hid hw
  clear hl hw hf hd p1 p2 p3 p4 hN
  go_enter Tryd.func7, Tryd.ntmps7
  go_wp2_with fail
  refine HLt.out.mono ?_
  rintro e w1 ⟨rfl, hb1⟩
  have HB1 := Lib.hid hb1
  clear hb1 HLt
  by_cases h9 : 600 < nm
  · have h9' : (600 : Int) < (nm : Int) := by omega
    go_wp2
    go_ret
    exact ⟨rfl, HB1.out⟩
  have h9' : ¬ (600 : Int) < (nm : Int) := by omega
  have HN6 := Lib.hid (show nm ≤ 600 by omega)
  go_wp2_with fail
  refine (HP.out _).mono ?_
  rintro e w2 ⟨rfl, rfl⟩
  clear HP
  go_wp2_with fail
  refine (HP2.out _).mono ?_
  rintro e w2 ⟨rfl, rfl⟩
  clear HP2
  go_wp2_with fail
  --MARKA
  refine (lockers_any N d HN8.out.1 HN8.out.2 w1).mono ?_
  rintro e wr ⟨Av, cv, rfl, hNs⟩
  have hb2 := hNs.bel
  have HMd := Lib.hid (timade3 (HW.out.old HB1.out) hb2 (loLs N d) (by rw [loLs_len]; have := HN8.out.1; omega) (loLs_few HN8.out.2) Av D N cv nm cm hNs.calls l (HMv.out.old HB1.out) (by have := HN6.out; omega))
  have HB2 := Lib.hid hb2
  have HPk := Lib.hid (show pokesM l ≤ 600 by have := pokesM_le l; have := HML.out; have := HN6.out; omega)
  clear hNs hb2 HMv h9 h9' hw1
  go_wp2_with fail
  --MARKC
  refine HMd.out.mono ?_
  rintro e w3 ⟨c, rfl, hA⟩
  have HF := Lib.hid (at_finish hA.at_ hA.big)
  clear hA HMd
  go_wp2_with fail
  refine HF.out.mono ?_
  rintro e w4 ⟨mm, hf, rfl, hA2, hb2⟩
  obtain ⟨f1, f2, f3, f4, f5, f6, f7, f8⟩ := ti_ends HN8.out.1 HN8.out.2 HPk.out hf
  have HE0 := Lib.hid (ends_done f1)
  have HA2 := Lib.hid hA2
  have HFew := Lib.hid hb2.few
  have HC := Lib.hid f2
  have HEv := Lib.hid (show mm.events.length ≤ 20000 by have := hb2.events; have := hb2.most; omega)
  obtain ⟨dr, hdr⟩ : ∃ dr, drewA mm.acts = dr := ⟨_, rfl⟩
  rw [hdr] at f4 f8
  have HAll := Lib.hid (And.intro f4 (And.intro f7 f8))
  obtain ⟨z, hz⟩ : ∃ z : Nat, N * d = z := ⟨_, rfl⟩
  have hz40 : z ≤ 40 := by
    rw [← hz]
    have h1 : N * d ≤ 8 * 5 := Nat.mul_le_mul HN8.out.1 HN8.out.2
    omega
  have hgi : (N : Int) * (d : Int) = (z : Int) := by exact_mod_cast hz
  have w2' : wrap64 ((N : Int) * (d : Int)) = (z : Int) := by rw [hgi]; unfold wrap64; omega
  obtain ⟨d2, hd2⟩ : ∃ d2 : Nat, 2 * d = d2 := ⟨_, rfl⟩
  have w3' : wrap64 (2 * (d : Int)) = (d2 : Int) := by have := HN8.out; unfold wrap64; omega
  rw [hz] at HC HAll
  have HZ := Lib.hid (And.intro hz (And.intro hz40 hd2))
  have HW2 := Lib.hid w2'
  have HW3 := Lib.hid w3'
  generalize ((mm.steps : Int) - _) = dd
  clear hf hA2 hb2 f1 f2 f3 f4 f5 f6 f7 f8 HF hz hz40 hgi hdr hd2 w2' w3'
  have hmk : ∀ W : World, (Instr.makeMap 51 none).run Tryd.prog W = .ok (.map (some W.heap.size)) (W.alloc (.map #[] 0)) := fun W => run_makeMap 51 W
  have HI0 := Lib.hid (EM.made 4 w4)
  have HB0 := Lib.hid ((Below.refl w4.heap.size w4).alloc (Nat.le_refl _) (.map #[] 0))
  have HS0 := Lib.hid (World.size_alloc w4 (.map #[] 0))
  have HAn := Lib.hid (answers_any (n := N) (HA2.out.keepB HB0.out) HEv.out HAll.out.2.1 (by have := HN8.out; omega))
  go_wp2_with fail
  --MA
  refine HAn.out.mono ?_
  rintro e w5 ⟨g, rfl, hAn5⟩
  have HB5 := Lib.hid (HB0.out.trans (hAn5.bel.mono (by rw [HS0.out]; omega)))
  have HI5 := Lib.hid (HI0.out.kept (row := none) ⟨hAn5.bel.os, hAn5.bel.tape, hAn5.bel.output, hAn5.bel.size, fun k hk _ => hAn5.bel.block k hk⟩ (by simp))
  obtain ⟨xs, hxs⟩ := hAn5.given
  have HR5 := Lib.hid hxs
  clear hxs
  rw [HS0.out] at HR5
  clear hAn5 HAn HI0 HB0 hmk
  have HZr := Lib.hid (show ∀ W, (zeroValue 4).run Tryd.prog W = .ok (.bool false) W from fun W => by kernel_rfl)
  go_wp2
  obtain ⟨b0, hb0⟩ : ∃ b0, w4.heap.size = b0 := ⟨_, rfl⟩
  rw [hb0] at HI5 HR5 HB5 ⊢
  have HBE := Lib.hid hb0
  clear hb0 HS0
  obtain ⟨ev, hev⟩ : ∃ ev, mm.events = ev := ⟨_, rfl⟩
  rw [hev] at HR5 HAll HEv
  clear hev
  go_loopw [39] (fun j wr => ∃ (t : Nat) (fS : Int → Bool), t ≤ N ∧ j = .int .i64 t ∧ Hid (EM 4 wr b0 (t * d) fS ∧ AnsRows (b0 + 1) g N ev xs wr ∧ Below b0 w4 wr ∧ TSeen dr t 0 fS)) (fun j _ => N - (intOf j).toNat)
  case atStart => exact ⟨0, fun _ => false, Nat.zero_le _, rfl, ⟨by rw [Nat.zero_mul]; exact HI5.out, HR5.out, HB5.out, fun x h => by cases h⟩⟩
  case round =>
    obtain ⟨t, fS, ht, rfl, hX⟩ := hrel
    by_cases hlt : t < N
    · have htn : (t : Int) < (N : Int) := by omega
      have ht8 : t < 8 := by have := HN8.out; omega
      obtain ⟨Ai, ci, hxt, hcelli, hrowi⟩ := hX.out.2.1.at hlt
      obtain ⟨p1, p2⟩ := HAll.out.2.2 t hlt
      have hlen : (ansOf ev t).length = d2 := by rw [p2, flat_len, p1]; exact HZ.out.2.2
      rw [hlen] at hcelli
      have HX := Lib.hid hX.out
      have HP := Lib.hid (And.intro p1 (And.intro p2 hlen))
      have HCi := Lib.hid hxt
      have hd2n : ((d2 : Int) != (d2 : Int)) = false := by simp
      have w3' := HW3.out
      clear hX hxt hrowi p1 p2 hlen
      --MC
      go_wp2
      clear w3'
      go_loopw [11] (fun j wr => ∃ (i kk : Nat) (fS : Int → Bool), i ≤ d ∧ kk = 2 * i ∧ j = .int .i64 kk ∧ Hid (EM 4 wr b0 (t * d + i) fS ∧ AnsRows (b0 + 1) g N ev xs wr ∧ Below b0 w4 wr ∧ TSeen dr t i fS)) (fun j _ => d2 - (intOf j).toNat)
      case atStart => exact ⟨0, 0, fS, Nat.zero_le _, rfl, rfl, by first | exact HX.out | exact ⟨HX.out⟩⟩
      case round =>
        obtain ⟨i, kk, fS2, hi, hkk, rfl, hX2⟩ := hrel
        have hd2' := HZ.out.2.2
        by_cases hlt3 : i < d
        · have hkn : (kk : Int) < (d2 : Int) := by omega
          have hi5 : i < 5 := by have := HN8.out; omega
          have hil : i < (posOf dr t).length := by rw [HP.out.1]; exact hlt3
          obtain ⟨Ai2, ci2, hci2, _, hri2⟩ := hX2.out.2.1.at hlt
          have hAi : Ai2 = Ai ∧ ci2 = ci := by
            rw [HCi.out] at hci2
            injection hci2 with hci2
            injection hci2 with q1 _ q3
            exact ⟨q1.symm, q3.symm⟩
          obtain ⟨rfl, rfl⟩ := hAi
          obtain ⟨bi, offi, hAi, _, hxi⟩ := hri2.row (by rw [HP.out.2.2]; omega)
          subst hAi
          obtain ⟨y, hy⟩ : ∃ y : Nat, (posOf dr t).getD i 0 = y := ⟨_, rfl⟩
          obtain ⟨q1, q2⟩ := flat_at (posOf dr t) i hil
          rw [← HP.out.2.1, hy, ← hkk] at q1 q2
          obtain ⟨k1, hk1⟩ : ∃ k1 : Nat, k1 = kk + 1 := ⟨_, rfl⟩
          rw [← hk1] at q2
          have hx0 := hxi kk (by rw [HP.out.2.2]; omega)
          have hx1 := hxi k1 (by rw [HP.out.2.2]; omega)
          rw [List.getD_eq_getElem?_getD, q1] at hx0
          rw [List.getD_eq_getElem?_getD, q2] at hx1
          have hk1w : IntKind.i64.wrap ((kk : Int) + 1) = (k1 : Int) := wrapI_at (by omega) (by have := HN8.out; omega)
          have hk1l : (k1 : Int) < (d2 : Int) := by omega
          have hz1w : IntKind.i64.wrap ((N : Int) * (d : Int)) = (z : Int) := wrapI_at (by exact_mod_cast HZ.out.1) (by have := HZ.out.2.1; omega)
          have hx0 : _ = some (Value.int .i64 (y : Int)) := hx0
          have hx1 : _ = some (Value.int .i64 (y : Int)) := hx1
          have hylow := pos_low hil
          rw [hy, HAll.out.1] at hylow
          have hyz : ¬ ((z : Int) ≤ (y : Int)) := by omega
          have hyy : ((y : Int) != (y : Int)) = false := by simp
          have hyn : ¬ (y : Int) < 0 := by omega
          have hwf : (Lit.int .i64 (y : Int)).wf = true := cnt_wf (by have := HZ.out.2.1; omega)
          have hfr := hX2.out.2.2.2.fresh hil
          have hpt := hX2.out.2.2.2.put hil
          rw [hy] at hfr hpt
          have hlk := fun (q : Nat) => EM.miss (w := wr.drewN q) (hX2.out.1.kept (row := none) ⟨rfl, rfl, rfl, Nat.le_refl _, fun _ _ _ => rfl⟩ (by simp)) Tryd.underlying51 Tryd.underlying4 (HZr.out _) (y : Int) hwf hfr
          have htd : t * d + i < 100 := by
            have : t * d ≤ 8 * 5 := Nat.mul_le_mul (by omega) HN8.out.2
            omega
          have hb0 := hX2.out.1.lt
          have HQ := Lib.hid (fun (q : Nat) => (show EM 4 (wr.drewN q) b0 (t * d + i) fS2 ∧ AnsRows (b0 + 1) g N ev xs (wr.drewN q) ∧ Below b0 w4 (wr.drewN q) ∧ b0 < (wr.drewN q).heap.size from ⟨hX2.out.1.kept (row := none) ⟨rfl, rfl, rfl, Nat.le_refl _, fun _ _ _ => rfl⟩ (by simp), hX2.out.2.1.kept (b := 0) ⟨rfl, rfl, rfl, Nat.le_refl _, fun _ _ _ => rfl⟩ (by omega), hX2.out.2.2.1.grown (row := none) ⟨rfl, rfl, rfl, Nat.le_refl _, fun _ _ _ => rfl⟩ (Nat.le_of_lt hb0) (by intro k hk; cases hk), hb0⟩))
          have HPt := Lib.hid (And.intro hpt (And.intro hwf (And.intro hfr htd)))
          have HX0 := Lib.hid hx0
          have hynb : decide ((y : Int) < 0) = false := decide_eq_false hyn
          have hyzb : decide ((z : Int) ≤ (y : Int)) = false := decide_eq_false hyz
          have hyzn : decide (z ≤ y) = false := decide_eq_false (by omega)
          have w2' := HW2.out
          rcases Nat.eq_zero_or_pos i with hi0 | hi0
          · subst hi0
            have hkpb : decide ((0 : Int) < (kk : Int)) = false := decide_eq_false (by omega)
            have hkpn : decide (0 < kk) = false := decide_eq_false (by omega)
            have HM0 := Lib.hid (show 1 ≤ d ∧ kk < d2 by omega)
            have hk20 : kk < 20 := by omega
            have HKK := Lib.hid hkk
            clear hX2 hfr hpt hxi hri2 hci2 q1 q2 hy hylow hil htd hb0 hwf hkk hk1 hd2' hi5
            go_wp2
            go_quiet (fail)
            --MD
            obtain ⟨hpt, hwf, hfr, htd⟩ := HPt.out
            obtain ⟨n1, n2, n3, n4⟩ := HQ.out nq
            obtain ⟨w9, hup, hbm, hg9⟩ := n1.put Tryd.underlying51 Tryd.underlying4 (Nat.lt_of_lt_of_le htd (by decide)) (y : Int) hwf hfr
            have HNew := Lib.hid (show EM 4 w9 b0 (t * d + (0 + 1)) (setAt fS2 (y : Int)) ∧ AnsRows (b0 + 1) g N ev xs w9 ∧ Below b0 w4 w9 ∧ TSeen dr t (0 + 1) (setAt fS2 (y : Int)) from ⟨hbm, n2.kept hg9 (by omega), n3.grown hg9 (Nat.le_of_lt n4) (by intro q hq; injection hq with hq; omega), hpt⟩)
            have hx0q : (wr.drewN nq).cell? _ = some (Value.int .i64 (y : Int)) := HX0.out
            clear hpt hwf hfr htd n1 n2 n3 n4 hbm hg9 HQ HPt hk1w hz1w hlk
            generalize wr.drewN nq = wq at *
            go_wp2
            go_roundw
            case rel => exact ⟨1, kk + 2, _, by have := HM0.out; omega, by have := HKK.out; omega, by go_num, by first | exact HNew.out | exact ⟨HNew.out⟩⟩
            case measure => have := HM0.out; simp [intOf]; omega
          · obtain ⟨j, rfl⟩ : ∃ j, i = j + 1 := ⟨i - 1, by omega⟩
            obtain ⟨yp, hyp⟩ : ∃ yp : Nat, (posOf dr t).getD j 0 = yp := ⟨_, rfl⟩
            obtain ⟨k2, hk2⟩ : ∃ k2 : Nat, k2 = 2 * j := ⟨_, rfl⟩
            obtain ⟨q3, _⟩ := flat_at (posOf dr t) j (by omega)
            rw [← HP.out.2.1, hyp, ← hk2] at q3
            have hx2 := hxi k2 (by rw [HP.out.2.2]; omega)
            rw [List.getD_eq_getElem?_getD, q3] at hx2
            have hx2 : _ = some (Value.int .i64 (yp : Int)) := hx2
            have hrise := rise_at (dr := dr) (t := t) (i := j) hil
            rw [hyp, hy] at hrise
            have hle : ¬ (y : Int) ≤ (yp : Int) := by omega
            have hkp : (0 : Int) < (kk : Int) := by omega
            have hk2w : IntKind.i64.wrap ((kk : Int) - 2) = (k2 : Int) := wrapI_at (by omega) (by have := HN8.out; omega)
            have hk2l : (k2 : Int) < (d2 : Int) := by omega
            have hleb : decide ((y : Int) ≤ (yp : Int)) = false := decide_eq_false hle
            have hkpb : decide ((0 : Int) < (kk : Int)) = true := decide_eq_true hkp
            have hkpn : decide (0 < kk) = true := decide_eq_true (by omega)
            have hlen : decide (y ≤ yp) = false := decide_eq_false (by omega)
            have hk20 : kk < 20 := by have := HN8.out; omega
            have HKK := Lib.hid hkk
            clear hX2 hfr hpt hxi hri2 hci2 q1 q2 hy hylow hil htd hb0 hwf hkk q3 hyp hk2 hrise hi0 hk1 hd2'
            go_wp2
            --MEE
            go_quiet (fail)
            --ME
            obtain ⟨hpt, hwf, hfr, htd⟩ := HPt.out
            obtain ⟨n1, n2, n3, n4⟩ := HQ.out nq
            obtain ⟨w9, hup, hbm, hg9⟩ := n1.put Tryd.underlying51 Tryd.underlying4 (Nat.lt_of_lt_of_le htd (by decide)) (y : Int) hwf hfr
            have HNew := Lib.hid (show EM 4 w9 b0 (t * d + (j + 1 + 1)) (setAt fS2 (y : Int)) ∧ AnsRows (b0 + 1) g N ev xs w9 ∧ Below b0 w4 w9 ∧ TSeen dr t (j + 1 + 1) (setAt fS2 (y : Int)) from ⟨hbm, n2.kept hg9 (by omega), n3.grown hg9 (Nat.le_of_lt n4) (by intro q hq; injection hq with hq; omega), hpt⟩)
            have hx0q : (wr.drewN nq).cell? _ = some (Value.int .i64 (y : Int)) := HX0.out
            clear hpt hwf hfr htd n1 n2 n3 n4 hbm hg9 HQ HPt hk1w hk2w hz1w hlk
            generalize wr.drewN nq = wq at *
            go_wp2
            go_roundw
            case rel => exact ⟨j + 1 + 1, kk + 2, _, by omega, by rw [HKK.out]; omega, by go_num, by first | exact HNew.out | exact ⟨HNew.out⟩⟩
            case measure => simp [intOf]; omega
        · have hkn : ¬ (kk : Int) < (d2 : Int) := by omega
          obtain rfl : i = d := by omega
          have HNew := Lib.hid (show EM 4 wr b0 ((t + 1) * i) fS2 ∧ AnsRows (b0 + 1) g N ev xs wr ∧ Below b0 w4 wr ∧ TSeen dr (t + 1) 0 fS2 from ⟨by rw [Nat.succ_mul]; exact hX2.out.1, hX2.out.2.1, hX2.out.2.2.1, (show TSeen dr t (posOf dr t).length fS2 by rw [HP.out.1]; exact hX2.out.2.2.2).over⟩)
          clear hX2 hd2'
          go_wp2
          go_roundw
          case rel => exact ⟨t + 1, fS2, by omega, by go_num, by first | exact HNew.out | exact ⟨HNew.out⟩⟩
          case measure => simp [intOf]; omega
    · have htn : ¬ (t : Int) < (N : Int) := by omega
      obtain rfl : t = N := by omega
      have hA8 := HA2.out.keepB (show Below w4.heap.size w4 wr by rw [HBE.out]; exact hX.out.2.2.1)
      have HE := Lib.hid (at_ends hA8 HFew.out)
      rw [HE0.out] at HE
      have HA8 := Lib.hid hA8
      have hem := hX.out.1
      rw [HZ.out.1] at hem
      have HEM := Lib.hid hem
      have hzz : ((z : Int) == (z : Int)) = true := by simp
      clear hX hA8 hem
      go_wp2_with fail
      --MF
      refine HE.out.mono ?_
      rintro e w9 ⟨rfl, hg9⟩
      have HA9 := Lib.hid (HA8.out.grow hg9)
      have hlen := (HEM.out.kept hg9 (by simp)).len Tryd.underlying51
      have HCe := Lib.hid (at_cells HA9.out (by rw [HC.out]; exact Nat.le_of_ble_eq_true rfl))
      rw [HC.out] at HCe
      have w2' := HW2.out
      clear hg9 HE HA8 HEM
      go_wp2_with fail
      --MG
      refine HCe.out.mono ?_
      rintro e w10 ⟨A10, c10, rfl, ho10, hg10⟩
      have HA10 := Lib.hid (HA9.out.grow hg10)
      have HI10 := Lib.hid (show Ints .u64 w10 w10.heap.size A10 2 [(z : Int), (z : Int)] from Ints.of_own ho10)
      clear hg10 ho10 HCe HA9 hlen
      go_wp2_with fail
      --MH
      rw [u64_small (by have := HZ.out; omega)]
      refine (equalU_lit A10 c10 2 [(z : Int), (z : Int)] #[.int .u64 z, .int .u64 z] rfl rfl (by decide) HI10.out).mono ?_
      rintro e w11 ⟨rfl, hg11⟩
      have HB11 := Lib.hid (HB1.out.trans ((HB2.out.trans ((HA10.out.grow hg11).bel.mono HB2.out.size)).mono HB1.out.size))
      clear hg11 HA10 HI10
      go_wp2
      go_ret
      exact ⟨rfl, HB11.out⟩
end Go.Proofs.YtkhaeabbbhfloaaDoor

namespace Go.Proofs.YtkhaeabbbhfloaaDoor.ticketTold
open Go.ChangeShapes Go.WideShapes Go.ChangeAt Go.RowKit
set_option linter.unusedVariables false

theorem own : ownKnob Tryd.prog.godebug = none := by kernel_rfl
theorem laidOut : laidOutB Tryd.prog = true := by kernel_rfl
theorem tsize : Tryd.prog.types.size = 203 := by kernel_rfl

/-- What the listed variables give the walk. -/
theorem cw_of {W : World} (h : laidMetH Tryd.prog Rows.ticketToldRow.laid W) : CW W := by
  have h' : laidMet Tryd.prog (Rows.ticketToldRow.laid.filter fun x => x.2.handleName?.isNone) W ∧ handlesMet Tryd.prog (Rows.ticketToldRow.laid.filter fun x => x.2.handleName?.isSome) W := h
  exact cw_of_laid h'.1 (List.mem_filter.2 ⟨.tail _ (.head _), rfl⟩)

/-- So many blocks has the settled world. -/
noncomputable def low : Nat := (World.holding Tryd.prog default ⟨#[], #[], []⟩).heap.size
def put (o : Obj) (cs : Array Value) : Obj := match o with
  | .cells _ t frozen => .cells cs t frozen
  | o => o
def tab (k : IntKind) (zs : List Int) : Array Value := (zs.map fun z => Value.int k z).toArray
/-- A world that meets the condition. -/
noncomputable def laidWorld (os : Os) : World :=
  let w0 := World.holding Tryd.prog os ⟨#[], #[], []⟩
  { w0 with heap := ((w0.heap.modify 1 (put · #[.iface 160 (.agg #[.pointer (some ⟨2, 46, none⟩)])])).modify 0 (put · formCells)) }
theorem laidWorld_met (os : Os) (args : Array Value) : laidMetH Tryd.prog Rows.ticketToldRow.laid ((laidWorld os).forCall (fun _ _ => 0) ⟨#[], args, []⟩).memory :=
  laidMetH_of_parts (LaidIn.of_run [0] 8 (by kernel_rfl) (by kernel_rfl) (by kernel_rfl) (by kernel_rfl)).met (by kernel_rfl)

/-- The walk. -/
theorem walk (a0 : Int) (a1 : Int) (a2 : Option Addr) (len2 cap2 : Nat) (nods2 : List (Int × Bool)) (w : World) (hw : CW w) (N2 : Moves w w.heap.size a2 len2 nods2) (I2 : True) :
    Calls Tryd.prog 7 #[.int .i64 a0, .int .i64 a1, .slice a2 len2 cap2] w fun e w' => e = .returned (.bool true) ∧ Below w.heap.size w w' := by
  exact ticketTold_any hw a0 a1 a2 len2 cap2 nods2 N2

set_option maxRecDepth 100000 in
theorem lifted (os : Os) (started : os.Started) (H : Type) (enc : TypeId × Value → H) :
    ReturnsInHanded {} Tryd.checked os 7 .any (fun w args => (Rows.ticketToldSpec.pre enc Tryd.prog Tryd.f7 [] false w args ∧ laidMetH Tryd.prog Rows.ticketToldRow.laid w) ∧ sizedMet enc Tryd.prog Tryd.f7 (OpenSpec.ofChange Rows.ticketToldSpec) false w args)
      (Rows.ticketToldSpec.post enc Tryd.prog Tryd.f7 false true false false) := by
  refine returnsInHanded_of_change_and (C := Tryd.checked) (X := fun w _ => laidMetH Tryd.prog Rows.ticketToldRow.laid w) (fun _ _ _ hh h => h.of_heap hh) own started (by kernel_rfl) Tryd.func7
    (ChangeSpec.witness_at (enc := enc) (C := Tryd.checked) (os := os) (X := fun w _ => laidMetH Tryd.prog Rows.ticketToldRow.laid w) false (laidWorld os) #[.int .i64 0, .int .i64 0, .slice none 0 0] 8 rfl (by kernel_rfl) (by kernel_rfl) (by kernel_rfl) (by kernel_rfl) (by kernel_rfl) (laidWorld_met os _)) ?_
  intro W base args ds gs before hval0 hW _ _ hL _
  have hval : ∀ (j : Nat) t v, Tryd.f7.params[j]? = some t → args[j]? = some v → Value.okWide Tryd.prog W .any base t v := hval0
  have hW' := hW
  obtain ⟨p, q, hA0, hV0, rfl, hfz, hnd⟩ := hW
  have hA : DataW.TrodAll enc Tryd.prog W 0 (fun _ => true) true Tryd.f7.params.toList args.toList ds p := hA0
  have hV : DataW.TrodVars enc Tryd.prog W (fun _ => true) [] gs q := hV0
  rw [Tryd.params7] at hA hval
  obtain ⟨v0, vs0, d0, ds0, p0, q0, hargs, rfl, rfl, h0, r0⟩ := trodAll_cons hA
  obtain ⟨v1, vs1, d1, ds1, p1, q1, rfl, rfl, rfl, h1, r1⟩ := trodAll_cons r0
  obtain ⟨v2, vs2, d2, ds2, p2, q2, rfl, rfl, rfl, h2, r2⟩ := trodAll_cons r1
  obtain ⟨rfl, rfl, rfl⟩ := trodAll_nil r2
  obtain rfl : args = #[v0, v1, v2] := by cases args; simp_all
  obtain ⟨rfl, rfl⟩ : gs = [] ∧ q = [] := by
    cases gs with
    | nil => exact ⟨rfl, hV⟩
    | cons g r => exact absurd hV (by intro h; cases h)
  obtain ⟨a0, rfl, rfl, rfl, w0⟩ := open_int Tryd.underlying3 (hval 0 3 v0 rfl rfl) h0
  obtain ⟨a1, rfl, rfl, rfl, w1⟩ := open_int Tryd.underlying3 (hval 1 3 v1 rfl rfl) h1
  obtain ⟨a2, len2, cap2, rfl⟩ := okWide_slice Tryd.underlying22 (hval 2 22 v2 rfl rfl)
  have k2 := h2
  have lt2 : ∀ x ∈ p2, x.block < W.heap.size := by obtain ⟨m, hm⟩ := k2; exact DataW.trod_lt m _ _ _ hm
  obtain ⟨nods2, N2, I2⟩ : ∃ nods, Moves W W.heap.size a2 len2 nods ∧ True := by
    obtain ⟨fuel, hf⟩ := h2
    obtain ⟨l, hl⟩ := moves_of (a := a2) (len := len2) (cap := cap2) hf; exact ⟨l, hl, trivial⟩
  have hw := cw_of hL
  clear hA0 hval0
  refine (walk a0 a1 a2 len2 cap2 nods2 W hw N2 I2).mono fun e W' ⟨he, bel⟩ => ?_
  subst he
  exact ⟨_, rfl, _, _, _, [], _, [], hW', trodAll_mk1 (shut_bool Tryd.underlying4 _), (trodAll_cons_mk (shut_int Tryd.underlying3 w0) (trodAll_cons_mk (shut_int Tryd.underlying3 w1) (trodAll_cons_mk (Below.trod laidOut (by kernel_rfl) (of_decide_eq_true (by kernel_rfl)) k2 bel lt2) trodAll_mk0))), rfl, bel.frame _, fun h => by cases h⟩

theorem over : Rows.TicketToldSaid :=
  OpenClaim.holds_of_wide 7 Tryd.f7 rfl rfl rfl rfl rfl rfl rfl ⟨rfl, rfl, rfl, rfl, rfl⟩ rfl rfl rfl rfl rfl (by kernel_rfl) Tryd.func7 (by kernel_rfl)
    (of_decide_eq_true (by kernel_rfl)) (by unfold Func.isWrapper; first | (rw [if_pos (by decide +kernel)]; kernel_rfl) | (rw [if_neg (by decide +kernel)]; exact ⟨rfl, rfl⟩))
    (fun os started H enc _ => lifted os started H enc)

/-- The given statement: the tied card. -/
theorem proved : Rows.TicketToldCardSaid :=
  Claim7.holds_tied_plain_at .later [] [.handle, .data] true (true, "2608b3033910442297c65e2168a80dfa3332f49bdf4635b148b5ba119a09d328") true
    over (fun _ h => by cases h) (by kernel_rfl) (fun _ h => by cases h) ticketTold_row_tie rfl ⟨rfl, rfl⟩ (by kernel_rfl) rfl
    (fun f fn hf hfn => by
      obtain rfl : f = 7 := Option.some.inj ((show Tryd.prog.funcNamed "quadrille/quadrillekeep.TicketTold" = some 7 by kernel_rfl).symm.trans hf) |>.symm
      obtain rfl : fn = Tryd.f7 := (Option.some.inj (Tryd.func7.symm.trans hfn)).symm
      refine ⟨by kernel_rfl, fun j t ht => ?_⟩
      rw [Tryd.params7] at ht
      have hm : t ∈ [3, 3, 22] := by
        have := Array.mem_of_getElem? ht
        simpa using this
      have hall : ([3, 3, 22].all fun u => !Tryd.prog.wantsStandIn u) = true := by kernel_rfl
      exact (show Tryd.prog.wantsStandIn t = false by simpa using List.all_eq_true.1 hall t hm))
    (by kernel_rfl)
#print axioms proved
end Go.Proofs.YtkhaeabbbhfloaaDoor.ticketTold
