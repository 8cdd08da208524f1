/-
  All kinds do one thing: whoever goes on when, in the end each party has said the same, of whatever kind. No conditions.
-/
import Derived.Test.YtjlhinjmnhpdaaaGreatDoorQN2
import Derived.Test.YtjlhinjmnhpdaaaGreatDoorQN4
import Derived.Test.YtjlhinjmnhpdaaaGreatDoorQJ2
import Derived.Test.YtjlhinjmnhpdaaaGreatDoorQE3
import Derived.Lib.AppendZeros
import Derived.Test.YtjlhinjmnhpdaaaGreatDoorRows
import Derived.Test.YtjlhinjmnhpdaaaGreatDoorCards
import Derived.Test.YtjlhinjmnhpdaaaGreatDoorTie
import Derived.WalkKit
import Derived.ProofKit
import Derived.OpenShut
import Derived.ChangeOld
import Derived.Below
import Derived.ChangeSame
import Derived.ChangeVars
import Derived.JoinedOf
import Derived.RowKitTokens
import Derived.LaidLaws
import Derived.LaidHandle
import Derived.Stop.Joined
import Derived.SevenTiedAt
import Derived.Lib.LaidTab
import Derived.Lib.LaidIn
import Derived.Test.YtjlhinjmnhpdaaaGreatDoorQA
import Derived.ChangeMaps5
import Derived.Test.YtjlhinjmnhpdaaaGreatDoorQM2
import Derived.Test.YtjlhinjmnhpdaaaGreatDoorQE
import Derived.Test.YtjlhinjmnhpdaaaGreatDoorQN
namespace Go.Proofs.YtjlhinjmnhpdaaaGreatDoor
set_option maxRecDepth 100000
open Go.RowKit Go.Shelf Go.Sort
set_option linter.unusedVariables false
set_option linter.unusedSimpArgs false

theorem kind_natS (k : Int) : ∃ u : Nat, 1 ≤ u ∧ u ≤ 6 ∧ ∀ w, Calls Tryz.prog 29 #[.int .i64 k] w fun e w' => e = .returned (.int .i64 (u : Nat)) ∧ w = w' := by
  have h1 := pickI_lo k 6
  have h2 := pickI_hi k 6 (by decide)
  refine ⟨(1 + pickI k 6).toNat, by omega, by omega, fun w => ?_⟩
  have := kind_is k w
  rwa [show (((1 + pickI k 6).toNat : Nat) : Int) = 1 + pickI k 6 by omega]
/-- Two machines, apart. -/
def TwoM (w : World) (c d : Nat) (mc md : Mach) (wr : World) : Prop := ∃ Sc Xc Sd Xd, Xc.c = c ∧ Xd.c = d ∧ Core wr w.heap.size Sc Xc mc ∧ Core wr w.heap.size Sd Xd md ∧ (∀ k, Sc k → ¬ Sd k) ∧ Below w.heap.size w wr
theorem TwoM.symm {w wr : World} {c d : Nat} {mc md : Mach} (h : TwoM w c d mc md wr) : TwoM w d c md mc wr := by
  obtain ⟨Sc, Xc, Sd, Xd, e1, e2, h1, h2, h3, h4⟩ := h
  exact ⟨Sd, Xd, Sc, Xc, e2, e1, h2, h1, fun k a b => h3 k b a, h4⟩
theorem TwoM.left {w wr : World} {c d : Nat} {mc md : Mach} (h : TwoM w c d mc md wr) : At w c mc wr := by
  obtain ⟨Sc, Xc, Sd, Xd, e1, e2, h1, h2, h3, h4⟩ := h
  exact ⟨Sc, Xc, e1, h1, h4⟩
theorem TwoM.keep {w wr w' : World} {c d : Nat} {mc md : Mach} (h : TwoM w c d mc md wr) (hb : Below wr.heap.size wr w') : TwoM w c d mc md w' := by
  obtain ⟨Sc, Xc, Sd, Xd, e1, e2, h1, h2, h3, h4⟩ := h
  exact ⟨Sc, Xc, Sd, Xd, e1, e2, h1.below hb (Nat.le_refl _), h2.below hb (Nat.le_refl _), h3, h4.trans (hb.mono h4.size)⟩
theorem TwoM.of {w w4 w5 : World} {c d : Nat} {mc md : Mach} (hc : At w c mc w4) (hd : At w4 d md w5) : TwoM w c d mc md w5 := by
  have hbel := hc.bel.trans (hd.bel.mono hc.size)
  obtain ⟨Sc, Xc, e1, h1, b1⟩ := hc
  obtain ⟨Sd, Xd, e2, h2, b2⟩ := hd
  exact ⟨Sc, Xc, Sd, Xd, e1, e2, h1.below b2 (Nat.le_refl _), h2.lower b1.size, fun k hk hk2 => by have := (h1.slo k hk).2; have := (h2.slo k hk2).1; omega, hbel⟩
theorem two_fin {w wr : World} {c d : Nat} {cells0 : List Int} {mc md : Mach} (H : DanceOK) (h : TwoM w c d mc md wr) (hb : MBig cells0 mc) :
    Calls Tryz.prog 22 #[.pointer (some ⟨c, 0, none⟩)] wr fun e w' => ∃ m', Fin mc m' ∧ e = .returned (.int .i64 ((m'.steps : Int) - (mc.steps : Int))) ∧ TwoM w c d m' md w' ∧ MBig cells0 m' := by
  obtain ⟨Sc, Xc, Sd, Xd, rfl, e2, hC, hD, hdis, hB⟩ := h
  refine (H.fin hC hB.size hb).mono fun e w' ⟨m', hf, he, hm, hbig⟩ => ⟨m', hf, he, ?_, hbig⟩
  obtain ⟨S', X', e1, _, hC', hSi, hK⟩ := hm
  refine ⟨S', X', Sd, Xd, e1, e2, hC', hD.keeps hK (fun k a b => hdis k b a), fun k hk hk2 => ?_, hB.trans (below_of_keeps hK (fun k hk => (hC.slo k hk).1) hB.size)⟩
  rcases hSi k hk with h1 | h1
  · exact hdis k h1 hk2
  · have := (hD.slo k hk2).2
    omega

/-- What a thread said, number by number. -/
def saidF (l : List Ev4) (t : Nat) : List Int := (saidBy l t).flatMap fun p => [p.1, p.2]
theorem saidF_take {l : List Ev4} {i : Nat} (h : i < l.length) (t : Nat) : saidF (l.take (i + 1)) t = saidF (l.take i) t ++ if (l.getD i default).2.2.1 = (t : Int) then [(l.getD i default).2.1, (l.getD i default).2.2.2] else [] := by
  rw [take_more h]
  unfold saidF saidBy
  rw [List.filter_append, List.map_append, List.flatMap_append]
  congr 1
  by_cases e : (l.getD i default).2.2.1 = (t : Int)
  · rw [if_pos e, List.filter_cons_of_pos (by simpa using e)]
    rfl
  · rw [if_neg e, List.filter_cons_of_neg (by simpa using e)]
    rfl
theorem saidF_len (l : List Ev4) (t : Nat) : (saidF l t).length ≤ 2 * l.length := by
  unfold saidF
  rw [List.length_flatMap]
  have h : ((saidBy l t).map fun p => [p.1, p.2].length).sum = 2 * (saidBy l t).length := by
    induction saidBy l t with
    | nil => rfl
    | cons a r ih => rw [List.map_cons, List.sum_cons, ih, List.length_cons]; simp; omega
  rw [h]
  have h2 : (saidBy l t).length ≤ l.length := by unfold saidBy; rw [List.length_map]; exact List.length_filter_le _ _
  omega
theorem next_lessS {q n : Nat} (h : q < n) : n - (intOf (Value.int IntKind.i64 ((q + 1 : Nat) : Int))).toNat < n - (intOf (Value.int IntKind.i64 (q : Int))).toNat := by
  show n - (((q + 1 : Nat) : Int)).toNat < n - ((q : Int)).toNat
  rw [Int.toNat_natCast, Int.toNat_natCast]
  omega
theorem RowB.two {w wr : World} {A : Option Addr} {n c : Nat} {l : List Int} (h : RowB w A n c l wr) (x y : Int) (hn : n ≤ 100000) :
    ∃ A' c' w', (Builtin.append_ #[31, 31] 31 #[.slice A n c, .slice (some ⟨wr.heap.size, 0, none⟩) 2 2]).run Tryz.prog (wr.alloc (.cells #[.int .i64 x, .int .i64 y] 3)) = .ok (.slice A' (n + 2) c') w' ∧ RowB w A' (n + 2) c' (l ++ [x, y]) w' := by
  obtain ⟨i0, hi, hz0, hz1, hz2⟩ := info_parts infoIntJ
  have hb := h.bel.alloc h.bel.size (.cells #[.int .i64 x, .int .i64 y] 3)
  have hat := heap_alloc_new wr (.cells #[.int .i64 x, .int .i64 y] 3)
  obtain ⟨v', w', hr, ho, hg, _⟩ := run_append_own (P := Tryz.prog) (wr.alloc (.cells #[.int .i64 x, .int .i64 y] 3)) w.heap.size 31 31 3 i0 (.int .i64 0) 1 8 Tryz.underlying31 hi hz0 hz1 hz2 rfl (by decide) (.slice A n c) n _ (h.own.alloc _) ⟨wr.heap.size, 0, none⟩ 2 2 [.int .i64 x, .int .i64 y] rfl (by
    intro j u hu
    match j, hu with
    | 0, hu =>
      have e : u = .int .i64 x := by simpa using hu.symm
      subst e
      exact (cell_of_row _ _ 0 _ _ _ hat).trans rfl
    | 1, hu =>
      have e : u = .int .i64 y := by simpa using hu.symm
      subst e
      exact (cell_of_row _ _ 1 _ _ _ hat).trans rfl) (by intro u hu; simp at hu; rcases hu with rfl | rfl <;> rfl) (by unfold maxLen; omega) (by omega) hb.size
  obtain ⟨A', c', rfl⟩ : ∃ A' c', v' = .slice A' (n + 2) c' := by
    rcases ho.2 with ⟨rfl, e⟩ | ⟨g, cap, cur, rfl, _⟩
    · exact ⟨none, 0, by rw [e]⟩
    · exact ⟨_, _, rfl⟩
  exact ⟨A', c', w', hr, by rw [List.length_append, h.len]; rfl, by rw [List.map_append]; exact ho, hb.grown hg hb.size (fun k hk => (h.own.lt k hk).1)⟩
theorem RowB.alloc {w wr : World} {A : Option Addr} {n c : Nat} {l : List Int} (h : RowB w A n c l wr) (o : Obj) : RowB w A n c l (wr.alloc o) := ⟨h.len, h.own.alloc o, h.bel.alloc h.bel.size o⟩
theorem RowB.nil (w : World) : RowB w none 0 0 [] w := ⟨rfl, World.ownsRow_nil _ _ _ _, Below.refl _ _⟩
/-- One more event of a thread's. -/
theorem RowB.event {w wr : World} {A : Option Addr} {n c : Nat} {l : List Int} (h : RowB w A n c l wr) (o : Obj) (x y : Int) (hn : n ≤ 100000) :
    ∃ A' c' w', (Builtin.append_ #[31, 31] 31 #[.slice A n c, .slice (some ⟨wr.heap.size + 1, 0, none⟩) 2 2]).run Tryz.prog ((wr.alloc o).alloc (.cells #[.int .i64 x, .int .i64 y] 3)) = .ok (.slice A' (n + 2) c') w' ∧ RowB w A' (n + 2) c' (l ++ [x, y]) w' := by
  have h2 := (h.alloc o).two x y hn
  rwa [World.size_alloc] at h2

set_option maxHeartbeats 2000000 in
theorem danceSame_any {w : World} (H : DanceOK) (hw : DW w) (k other n rounds : Int) (D : Option Addr) (nm cm : Nat) (l : List (Int × Bool)) (hl : Moves w w.heap.size D nm l) :
    Calls Tryz.prog 13 #[.int .i64 k, .int .i64 other, .int .i64 n, .int .i64 rounds, .slice D nm cm] w fun e w' => e = .returned (.bool true) ∧ Below w.heap.size w w' := by
  have HDn := Lib.hid (danced_any H hw)
  have HBall := Lib.hid (fun w => ball_is k n rounds w)
  have d := ball_dims k n rounds
  generalize ballK k = k1 at *
  generalize ballN n = n1 at *
  generalize ballR rounds = r1 at *
  obtain ⟨k2, hk2, hk6, hK⟩ := kind_natS other
  have d2 : Dims k2 n1 r1 := ⟨hk2, hk6, d.n1, d.n16, d.r6⟩
  have HK := Lib.hid hK
  have HFl := Lib.hid (fun w1 (hb : Below w.heap.size w w1) (h9 : nm ≤ 600) => floor_flo (cm := cm) H hw hb d hl (by omega))
  have HFd := Lib.hid (fun w1 (hb : Below w.heap.size w w1) (h9 : nm ≤ 600) => floor_flo (cm := cm) H (hw.old hb) (Below.refl _ _) d2 (hl.old hb) (by omega))
  have HD := Lib.hid d
  have HD2 := Lib.hid d2
  clear hl hK d d2 hk2 hk6
  go_enter Tryz.func13, Tryz.ntmps13
  go_wp2_with fail
  refine HDn.out.mono ?_
  rintro e w1 ⟨rfl, hb1⟩
  have HB1 := Lib.hid hb1
  clear hb1 HDn
  by_cases h9 : 600 < nm
  · have h9' : (600 : Int) < (nm : Int) := by omega
    go_wp2
    go_ret
    exact ⟨rfl, HB1.out⟩
  have h9' : ¬ (600 : Int) < (nm : Int) := by omega
  have H9 := Lib.hid (show nm ≤ 600 by omega)
  clear h9
  go_wp2_with fail
  refine (HBall.out _).mono ?_
  rintro e w2 ⟨rfl, rfl⟩
  go_wp2_with fail
  refine (HFl.out _ HB1.out H9.out).mono ?_
  rintro e w3 ⟨c, m, rfl, hF, hp⟩
  have HF := Lib.hid hF
  have HPk := Lib.hid hp
  generalize pokesM (pickL n1 l) = p at *
  clear hF hp HFl
  go_wp2_with fail
  refine (HK.out _).mono ?_
  rintro e w4 ⟨rfl, rfl⟩
  go_wp2_with fail
  refine (HFd.out _ HF.out.bel H9.out).mono ?_
  rintro e w4 ⟨c2, m2, rfl, hF2, -⟩
  have HT := Lib.hid (TwoM.of HF.out.at_ hF2.at_)
  have HN2 := Lib.hid (And.intro hF2.big hF2.dn)
  have HN1 := Lib.hid (And.intro HF.out.big HF.out.dn)
  clear hF2 HF HFd HK
  --MA
  go_wp2_with fail
  refine (two_fin H HT.out HN1.out.1).mono ?_
  rintro e w5 ⟨m', hfin, rfl, hT5, hbig⟩
  have HT5 := Lib.hid hT5
  have HE := Lib.hid (dn_fin HD.out HN1.out.2 HPk.out hfin)
  have HBg := Lib.hid hbig
  clear hfin hT5 hbig HN1 HT
  generalize ((m'.steps : Int) - (m.steps : Int)) = dd at *
  go_wp2_with fail
  refine (two_fin H HT5.out.symm HN2.out.1).mono ?_
  rintro e w6 ⟨m2', hfin, rfl, hT6, hbig⟩
  have HT6 := Lib.hid hT6.symm
  have HE2 := Lib.hid (dn_fin HD2.out HN2.out.2 HPk.out hfin)
  have HBg2 := Lib.hid hbig
  clear hfin hT6 hbig HN2 HT5
  generalize ((m2'.steps : Int) - (m2.steps : Int)) = dd2 at *
  have hfew : ∀ (m : Mach) (cs : List Int), MBig cs m → m.events.length ≤ 20000 := fun m cs h => by
    have a := h.events
    have b := h.most
    omega
  have HEv := Lib.hid (fun wr (h : TwoM w c c2 m' m2' wr) => at_events h.left (hfew _ _ HBg.out))
  have HEv2 := Lib.hid (fun wr (h : TwoM w c c2 m' m2' wr) => at_events h.symm.left (hfew _ _ HBg2.out))
  have HFew := Lib.hid (And.intro (hfew _ _ HBg.out) (hfew _ _ HBg2.out))
  have HSaid := Lib.hid (fun t (ht : t < n1) => (show saidF m'.events t = saidF m2'.events t by unfold saidF; rw [HE.out.said ht, HE2.out.said ht]))
  clear hfew HBg HBg2 HE HE2
  have hn16 := HD.out.n16
  go_wp2
  --MB
  go_loopw [55] (fun j wr => ∃ t : Nat, t ≤ n1 ∧ j = .int .i64 t ∧ Hid (TwoM w c c2 m' m2' wr)) (fun j _ => n1 - (intOf j).toNat)
  case atStart => exact ⟨0, Nat.zero_le _, rfl, HT6⟩
  case round =>
    obtain ⟨t, ht, rfl, hT⟩ := hrel
    by_cases hlt : t < n1
    · have hkn : (t : Int) < (n1 : Int) := by omega
      have HT7 := Lib.hid hT.out
      have HSd := Lib.hid (HSaid.out t hlt)
      clear hT HT6
      go_wp2_with fail
      refine (HEv.out _ HT7.out).mono ?_
      rintro e w7 ⟨A7, c7, rfl, ho7, hg7⟩
      have HR7 := Lib.hid (evRow_own ho7 rfl)
      have HT8 := Lib.hid (HT7.out.keep (grown_belF hg7))
      have HL7 := Lib.hid HFew.out.1
      obtain ⟨l7, hl7⟩ : ∃ l7, m'.events = l7 := ⟨_, rfl⟩
      rw [hl7] at HR7 HL7 HSd
      have HLe := Lib.hid hl7
      rw [hl7]
      clear ho7 hg7 HT7 hl7
      --MC
      go_wp2
      go_loopw [14, 61] (fun v j wr => ∃ (q : Nat) (A : Option Addr) (m c : Nat), q ≤ l7.length ∧ v = .slice A m c ∧ j = .int .i64 q ∧ Hid (RowB w7 A m c (saidF (l7.take q) t) wr)) (fun _ j _ => l7.length - (intOf j).toNat)
      case atStart => exact ⟨0, none, 0, 0, Nat.zero_le _, rfl, rfl, RowB.nil w7⟩
      case round =>
        obtain ⟨q, A, m, c0, hq, rfl, rfl, hx⟩ := hrel
        by_cases hlt2 : q < l7.length
        · have hkn2 : (q : Int) < (l7.length : Int) := Int.ofNat_lt.2 hlt2
          have hx1 := hx.out
          obtain ⟨b, off, rfl, x1, x2, x3, x4⟩ := (HR7.out.old hx1.bel) q hlt2
          have HTk := Lib.hid (saidF_take hlt2 t)
          have hm : m ≤ 100000 := by
            have h1 := hx1.len
            have h2 := saidF_len (l7.take q) t
            have h3 : (l7.take q).length ≤ l7.length := by rw [List.length_take]; exact Nat.min_le_right _ _
            have h4 := HL7.out
            clear x1 x2 x3 x4
            omega
          generalize l7.getD q default = a at *
          obtain ⟨a1, a2, a3, a4⟩ := a
          dsimp only at x1 x2 x3 x4 HTk
          have hwi : wrap64 ((q : Int) + 1) = ((q + 1 : Nat) : Int) := (wrap_small (by omega) (by have h4 := HL7.out; omega)).trans (by omega)
          have HWi := Lib.hid hwi
          clear hwi
          by_cases e7 : a3 = (t : Int)
          · subst e7
            have hT := HTk.out
            rw [if_pos rfl] at hT
            obtain ⟨A', c', w', hr, hn⟩ := hx1.event (.cells #[.int .i64 a1, .int .i64 a2, .int .i64 (t : Int), .int .i64 a4] 58) a2 a4 hm
            rw [← hT] at hn
            have HR' := Lib.hid hr
            have HN' := Lib.hid hn
            have hlt3 := hlt2
            clear hx hx1 hr hn hT HTk hm
            go_wp2_with (at_builtin; refine Lib.wpList_append_run _ rfl _ _ _ _ rfl _ _ rfl rfl _ _ HR'.out ?_; clear HR')
            --ME
            rw [HWi.out]
            exact ⟨⟨q + 1, A', m + 2, c', hlt3, rfl, rfl, HN'.out⟩, next_lessS hlt3⟩
          · have hT := HTk.out
            rw [if_neg e7, List.append_nil] at hT
            have hn := hx1.alloc (.cells #[.int .i64 a1, .int .i64 a2, .int .i64 a3, .int .i64 a4] 58)
            rw [← hT] at hn
            have HN' := Lib.hid hn
            have hlt3 := hlt2
            clear hx hx1 hn hT HTk hm
            go_wp2
            --MF
            rw [HWi.out]
            exact ⟨⟨q + 1, A, m, c0, hlt3, rfl, rfl, HN'.out⟩, next_lessS hlt3⟩
        · have hkn2 : ¬ (q : Int) < (l7.length : Int) := fun h => hlt2 (Int.ofNat_lt.1 h)
          obtain rfl : l7.length = q := Nat.le_antisymm (Nat.le_of_not_lt hlt2) hq
          have hx1 := hx.out
          rw [List.take_length] at hx1
          have HX := Lib.hid hx1
          have HT9 := Lib.hid (HT8.out.keep hx1.bel)
          clear hx hx1 hlt2 hq HT8 HR7
          go_wp2_with fail
          --MG
          refine (HEv2.out _ HT9.out).mono ?_
          rintro e w9 ⟨A9, c9, rfl, ho9, hg9⟩
          have HR9 := Lib.hid (evRow_own ho9 rfl)
          have HT10 := Lib.hid (HT9.out.keep (grown_belF hg9))
          have HL9 := Lib.hid HFew.out.2
          have HX9 := Lib.hid (own_tags HX.out.own (keeps_below (grown_belF hg9) (Nat.le_refl _)) .none (by simp))
          have HLm := Lib.hid HX.out.len
          have HL70 := Lib.hid HL7.out
          obtain ⟨l9, hl9⟩ : ∃ l9, m2'.events = l9 := ⟨_, rfl⟩
          rw [hl9] at HR9 HL9 HSd
          have HLe9 := Lib.hid hl9
          rw [hl9]
          clear ho9 hg9 HT9 hl9 HX
          go_wp2
          go_loopw [15, 80] (fun v j wr => ∃ (q : Nat) (A : Option Addr) (m c : Nat), q ≤ l9.length ∧ v = .slice A m c ∧ j = .int .i64 q ∧ Hid (RowB w9 A m c (saidF (l9.take q) t) wr)) (fun _ j _ => l9.length - (intOf j).toNat)
          case atStart => exact ⟨0, none, 0, 0, Nat.zero_le _, rfl, rfl, RowB.nil w9⟩
          case round =>
            obtain ⟨q, B, mb, c0b, hq, rfl, rfl, hx⟩ := hrel
            by_cases hlt2 : q < l9.length
            · have hkn2 : (q : Int) < (l9.length : Int) := Int.ofNat_lt.2 hlt2
              have hx1 := hx.out
              obtain ⟨b, off, rfl, x1, x2, x3, x4⟩ := (HR9.out.old hx1.bel) q hlt2
              have HTk := Lib.hid (saidF_take hlt2 t)
              have hm : mb ≤ 100000 := by
                have h1 := hx1.len
                have h2 := saidF_len (l9.take q) t
                have h3 : (l9.take q).length ≤ l9.length := by rw [List.length_take]; exact Nat.min_le_right _ _
                have h4 := HL9.out
                clear x1 x2 x3 x4
                omega
              generalize l9.getD q default = a at *
              obtain ⟨a1, a2, a3, a4⟩ := a
              dsimp only at x1 x2 x3 x4 HTk
              have hwi : wrap64 ((q : Int) + 1) = ((q + 1 : Nat) : Int) := (wrap_small (by omega) (by have h4 := HL9.out; omega)).trans (by omega)
              have HWi := Lib.hid hwi
              clear hwi
              by_cases e7 : a3 = (t : Int)
              · subst e7
                have hT := HTk.out
                rw [if_pos rfl] at hT
                obtain ⟨A', c', w', hr, hn⟩ := hx1.event (.cells #[.int .i64 a1, .int .i64 a2, .int .i64 (t : Int), .int .i64 a4] 58) a2 a4 hm
                rw [← hT] at hn
                have HR' := Lib.hid hr
                have HN' := Lib.hid hn
                have hlt3 := hlt2
                clear hx hx1 hr hn hT HTk hm
                go_wp2_with (at_builtin; refine Lib.wpList_append_run _ rfl _ _ _ _ rfl _ _ rfl rfl _ _ HR'.out ?_; clear HR')
                --ME
                rw [HWi.out]
                exact ⟨⟨q + 1, A', mb + 2, c', hlt3, rfl, rfl, HN'.out⟩, next_lessS hlt3⟩
              · have hT := HTk.out
                rw [if_neg e7, List.append_nil] at hT
                have hn := hx1.alloc (.cells #[.int .i64 a1, .int .i64 a2, .int .i64 a3, .int .i64 a4] 58)
                rw [← hT] at hn
                have HN' := Lib.hid hn
                have hlt3 := hlt2
                clear hx hx1 hn hT HTk hm
                go_wp2
                --MF
                rw [HWi.out]
                exact ⟨⟨q + 1, B, mb, c0b, hlt3, rfl, rfl, HN'.out⟩, next_lessS hlt3⟩
            · have hkn2 : ¬ (q : Int) < (l9.length : Int) := fun h => hlt2 (Int.ofNat_lt.1 h)
              obtain rfl : l9.length = q := Nat.le_antisymm (Nat.le_of_not_lt hlt2) hq
              have hx1 := hx.out
              rw [List.take_length] at hx1
              have HT11 := Lib.hid (HT10.out.keep hx1.bel)
              have hoA := own_tags HX9.out (keeps_below hx1.bel (Nat.le_refl _)) .none (by simp)
              have hlb := hx1.len
              rw [← HSd.out, HLm.out] at hlb
              have hob := hx1.own
              rw [← HSd.out] at hob
              subst hlb
              have hmx : m ≤ 9223372036854775807 := by
                have h1 := HLm.out
                have h2 := saidF_len l7 t
                have h3 := HL70.out
                omega
              have HEq := Lib.hid (equalI_same A B m c0 c0b (saidF l7 t) wr hmx _ (Ints.of_own hoA) (Ints.of_own hob))
              clear hx hx1 hlt2 hq HT10 HR9 hoA hob hmx HX9
              go_wp2_with fail
              refine HEq.out.mono ?_
              rintro e w12 ⟨rfl, qd, rfl⟩
              have HT12 := Lib.hid (HT11.out.keep (grown_belF (grown_drewF wr qd)))
              have hwt : wrap64 ((t : Int) + 1) = ((t + 1 : Nat) : Int) := (wrap_small (by omega) (by omega)).trans (by omega)
              have HWt := Lib.hid hwt
              have hltS := hlt
              clear HEq HT11 hwt
              go_wp2
              --MH
              exact ⟨⟨t + 1, hltS, rfl, HT12.out⟩, next_lessS hltS⟩
    · have hkn : ¬ (t : Int) < (n1 : Int) := fun h => hlt (Int.ofNat_lt.1 h)
      have HBe := Lib.hid hT.out.left.bel
      clear hT HT6
      go_wp2
      go_ret
      exact ⟨rfl, HBe.out⟩
end Go.Proofs.YtjlhinjmnhpdaaaGreatDoor

namespace Go.Proofs.YtjlhinjmnhpdaaaGreatDoor.danceSame
open Go.ChangeShapes Go.WideShapes Go.ChangeAt Go.RowKit
set_option linter.unusedVariables false

theorem own : ownKnob Tryz.prog.godebug = none := by kernel_rfl
theorem laidOut : laidOutB Tryz.prog = true := by kernel_rfl
theorem tsize : Tryz.prog.types.size = 237 := by kernel_rfl

theorem et : Tryz.prog.globalNamed "errors.errorType" = some 1 := by kernel_rfl
theorem rt : (Tryz.prog.cutTypes.find? (·.1 == "internal/reflectlite.rtype")).map (·.2) = some 184 := by kernel_rfl
theorem oneRow : ((List.range 237).filter fun t => Tryz.prog.rowNamed t [101, 114, 114, 111, 114]) = [35] := by kernel_rfl

/-- What the listed variables give the walk. -/
theorem cw_of {W : World} (h : laidMetH Tryz.prog Rows.danceSameRow.laid W) : CW W := by
  have h' : laidMet Tryz.prog (Rows.danceSameRow.laid.filter fun x => x.2.handleName?.isNone) W ∧ handlesMet Tryz.prog (Rows.danceSameRow.laid.filter fun x => x.2.handleName?.isSome) W := h
  exact cw_of_laid h'.1 (List.mem_filter.2 ⟨.tail _ (.tail _ (.tail _ (.head _))), rfl⟩)
theorem handle_of_laid {W : World} (h : laidMetH Tryz.prog Rows.danceSameRow.laid W) : ErrVar W := by
  have h' : laidMet Tryz.prog (Rows.danceSameRow.laid.filter fun x => x.2.handleName?.isNone) W ∧ handlesMet Tryz.prog (Rows.danceSameRow.laid.filter fun x => x.2.handleName?.isSome) W := h
  obtain ⟨name, u, ty, e1, e2, e3, e4, e5⟩ := h'.2 ("errors.errorType", Rows.laid_errors_errorType) (List.mem_filter.2 ⟨.tail _ (.tail _ (.head _)), rfl⟩)
  have en : name = [101, 114, 114, 111, 114] := (Option.some.inj e1).symm
  subst en
  obtain rfl := Option.some.inj (rt.symm.trans e2)
  have hm : ty ∈ (List.range 237).filter fun t => Tryz.prog.rowNamed t [101, 114, 114, 111, 114] := List.mem_filter.2 ⟨List.mem_range.2 (by rw [← tsize]; exact e3), e4⟩
  rw [oneRow] at hm
  obtain rfl := List.mem_singleton.1 hm
  have hh : typeHandle Tryz.prog 35 = .pointer (some ⟨4, 35, none⟩) := by kernel_rfl
  rw [hh] at e5
  have := World.var?_cell et e5 0
  unfold ErrVar
  simpa using this
theorem tz_of {W : World} (h : laidMetH Tryz.prog Rows.danceSameRow.laid W) : TzVar W := by
  have h' : laidMet Tryz.prog (Rows.danceSameRow.laid.filter fun x => x.2.handleName?.isNone) W ∧ handlesMet Tryz.prog (Rows.danceSameRow.laid.filter fun x => x.2.handleName?.isSome) W := h
  exact tz_of_laid h'.1 (List.mem_filter.2 ⟨.tail _ (.head _), rfl⟩)

/-- So many blocks has the settled world. -/
noncomputable def low : Nat := (World.holding Tryz.prog default ⟨#[], #[], []⟩).heap.size
def put (o : Obj) (cs : Array Value) : Obj := match o with
  | .cells _ t frozen => .cells cs t frozen
  | o => o
def tab (k : IntKind) (zs : List Int) : Array Value := (zs.map fun z => Value.int k z).toArray
/-- A world that meets the condition. -/
noncomputable def laidWorld (os : Os) : World :=
  let w0 := World.holding Tryz.prog os ⟨#[], #[], []⟩
  { w0 with heap := ((((w0.heap.modify 1 (put · #[.iface 184 (.agg #[.pointer (some ⟨4, 35, none⟩)])])).modify 0 (put · formCells)).modify 2 (put · (tab .u8 [0, 1, 28, 2, 29, 14, 24, 3, 30, 22, 20, 15, 25, 17, 4, 8, 31, 27, 13, 23, 21, 19, 16, 7, 26, 12, 18, 6, 11, 5, 10, 9]))).modify 3 (put · (tab .u8 [0, 1, 56, 2, 57, 49, 28, 3, 61, 58, 42, 50, 38, 29, 17, 4, 62, 47, 59, 36, 45, 43, 51, 22, 53, 39, 33, 30, 24, 18, 12, 5, 63, 55, 48, 27, 60, 41, 37, 16, 46, 35, 44, 21, 52, 32, 23, 11, 54, 26, 40, 15, 34, 20, 31, 10, 25, 14, 19, 9, 13, 8, 7, 6]))) }
theorem laidWorld_met (os : Os) (args : Array Value) : laidMetH Tryz.prog Rows.danceSameRow.laid ((laidWorld os).forCall (fun _ _ => 0) ⟨#[], args, []⟩).memory :=
  laidMetH_of_parts (LaidIn.of_run [0, 2, 3] 8 (by kernel_rfl) (by kernel_rfl) (by kernel_rfl) (by kernel_rfl)).met (by kernel_rfl)

/-- The walk. -/
theorem walk (a0 : Int) (a1 : Int) (a2 : Int) (a3 : Int) (a4 : Option Addr) (len4 cap4 : Nat) (nods4 : List (Int × Bool)) (w : World) (hw : CW w) (hg : ErrVar w) (ht : TzVar w) (N4 : Moves w w.heap.size a4 len4 nods4) (I4 : True) :
    Calls Tryz.prog 13 #[.int .i64 a0, .int .i64 a1, .int .i64 a2, .int .i64 a3, .slice a4 len4 cap4] w fun e w' => e = .returned (.bool true) ∧ Below w.heap.size w w' := by
  exact danceSame_any danceOK ⟨hw, hg, ht⟩ a0 a1 a2 a3 a4 len4 cap4 nods4 N4

set_option maxRecDepth 100000 in
theorem lifted (os : Os) (started : os.Started) (H : Type) (enc : TypeId × Value → H) :
    ReturnsInHanded {} Tryz.checked os 13 .any (fun w args => (Rows.danceSameSpec.pre enc Tryz.prog Tryz.f13 [] false w args ∧ laidMetH Tryz.prog Rows.danceSameRow.laid w) ∧ sizedMet enc Tryz.prog Tryz.f13 (OpenSpec.ofChange Rows.danceSameSpec) false w args)
      (Rows.danceSameSpec.post enc Tryz.prog Tryz.f13 false true false false) := by
  refine returnsInHanded_of_change_and (C := Tryz.checked) (X := fun w _ => laidMetH Tryz.prog Rows.danceSameRow.laid w) (fun _ _ _ hh h => h.of_heap hh) own started (by kernel_rfl) Tryz.func13
    (ChangeSpec.witness_at (enc := enc) (C := Tryz.checked) (os := os) (X := fun w _ => laidMetH Tryz.prog Rows.danceSameRow.laid w) false (laidWorld os) #[.int .i64 0, .int .i64 0, .int .i64 0, .int .i64 0, .slice none 0 0] 8 rfl (by kernel_rfl) (by kernel_rfl) (by kernel_rfl) (by kernel_rfl) (by kernel_rfl) (laidWorld_met os _)) ?_
  intro W base args ds gs before hval0 hW _ _ hL _
  have hval : ∀ (j : Nat) t v, Tryz.f13.params[j]? = some t → args[j]? = some v → Value.okWide Tryz.prog W .any base t v := hval0
  have hW' := hW
  obtain ⟨p, q, hA0, hV0, rfl, hfz, hnd⟩ := hW
  have hA : DataW.TrodAll enc Tryz.prog W 0 (fun _ => true) true Tryz.f13.params.toList args.toList ds p := hA0
  have hV : DataW.TrodVars enc Tryz.prog W (fun _ => true) [] gs q := hV0
  rw [Tryz.params13] at hA hval
  obtain ⟨v0, vs0, d0, ds0, p0, q0, hargs, rfl, rfl, h0, r0⟩ := trodAll_cons hA
  obtain ⟨v1, vs1, d1, ds1, p1, q1, rfl, rfl, rfl, h1, r1⟩ := trodAll_cons r0
  obtain ⟨v2, vs2, d2, ds2, p2, q2, rfl, rfl, rfl, h2, r2⟩ := trodAll_cons r1
  obtain ⟨v3, vs3, d3, ds3, p3, q3, rfl, rfl, rfl, h3, r3⟩ := trodAll_cons r2
  obtain ⟨v4, vs4, d4, ds4, p4, q4, rfl, rfl, rfl, h4, r4⟩ := trodAll_cons r3
  obtain ⟨rfl, rfl, rfl⟩ := trodAll_nil r4
  obtain rfl : args = #[v0, v1, v2, v3, v4] := by cases args; simp_all
  obtain ⟨rfl, rfl⟩ : gs = [] ∧ q = [] := by
    cases gs with
    | nil => exact ⟨rfl, hV⟩
    | cons g r => exact absurd hV (by intro h; cases h)
  obtain ⟨a0, rfl, rfl, rfl, w0⟩ := open_int Tryz.underlying3 (hval 0 3 v0 rfl rfl) h0
  obtain ⟨a1, rfl, rfl, rfl, w1⟩ := open_int Tryz.underlying3 (hval 1 3 v1 rfl rfl) h1
  obtain ⟨a2, rfl, rfl, rfl, w2⟩ := open_int Tryz.underlying3 (hval 2 3 v2 rfl rfl) h2
  obtain ⟨a3, rfl, rfl, rfl, w3⟩ := open_int Tryz.underlying3 (hval 3 3 v3 rfl rfl) h3
  obtain ⟨a4, len4, cap4, rfl⟩ := okWide_slice Tryz.underlying22 (hval 4 22 v4 rfl rfl)
  have k4 := h4
  have lt4 : ∀ x ∈ p4, x.block < W.heap.size := by obtain ⟨m, hm⟩ := k4; exact DataW.trod_lt m _ _ _ hm
  obtain ⟨nods4, N4, I4⟩ : ∃ nods, Moves W W.heap.size a4 len4 nods ∧ True := by
    obtain ⟨fuel, hf⟩ := h4
    obtain ⟨l, hl⟩ := moves_of (a := a4) (len := len4) (cap := cap4) hf; exact ⟨l, hl, trivial⟩
  have hw := cw_of hL
  have hg := handle_of_laid hL
  have ht := tz_of hL
  clear hA0 hval0
  refine (walk a0 a1 a2 a3 a4 len4 cap4 nods4 W hw hg ht N4 I4).mono fun e W' ⟨he, bel⟩ => ?_
  subst he
  exact ⟨_, rfl, _, _, _, [], _, [], hW', trodAll_mk1 (shut_bool Tryz.underlying4 _), (trodAll_cons_mk (shut_int Tryz.underlying3 w0) (trodAll_cons_mk (shut_int Tryz.underlying3 w1) (trodAll_cons_mk (shut_int Tryz.underlying3 w2) (trodAll_cons_mk (shut_int Tryz.underlying3 w3) (trodAll_cons_mk (Below.trod laidOut (by kernel_rfl) (of_decide_eq_true (by kernel_rfl)) k4 bel lt4) trodAll_mk0))))), rfl, bel.frame _, fun h => by cases h⟩

theorem over : Rows.DanceSameSaid :=
  OpenClaim.holds_of_wide 13 Tryz.f13 rfl rfl rfl rfl rfl rfl rfl ⟨rfl, rfl, rfl, rfl, rfl⟩ rfl rfl rfl rfl rfl (by kernel_rfl) Tryz.func13 (by kernel_rfl)
    (of_decide_eq_true (by kernel_rfl)) (by unfold Func.isWrapper; first | (rw [if_pos (by decide +kernel)]; kernel_rfl) | (rw [if_neg (by decide +kernel)]; exact ⟨rfl, rfl⟩))
    (fun os started H enc _ => lifted os started H enc)

/-- The given statement: the tied card. -/
theorem proved : Rows.DanceSameCardSaid :=
  Claim7.holds_tied_plain_at .later [] [.data, .data, .handle, .data] true (true, "c6f55d05b03cf7820801fe364c569ecbd73704b9e009a9d755c8ab487a07502a") true
    over (fun _ h => by cases h) (by kernel_rfl) (fun _ h => by cases h) danceSame_row_tie rfl ⟨rfl, rfl⟩ (by kernel_rfl) rfl
    (fun f fn hf hfn => by
      obtain rfl : f = 13 := Option.some.inj ((show Tryz.prog.funcNamed "quadrille/quadrillekeep.DanceSame" = some 13 by kernel_rfl).symm.trans hf) |>.symm
      obtain rfl : fn = Tryz.f13 := (Option.some.inj (Tryz.func13.symm.trans hfn)).symm
      refine ⟨by kernel_rfl, fun j t ht => ?_⟩
      rw [Tryz.params13] at ht
      have hm : t ∈ [3, 3, 3, 3, 22] := by
        have := Array.mem_of_getElem? ht
        simpa using this
      have hall : ([3, 3, 3, 3, 22].all fun u => !Tryz.prog.wantsStandIn u) = true := by kernel_rfl
      exact (show Tryz.prog.wantsStandIn t = false by simpa using List.all_eq_true.1 hall t hm))
    (by kernel_rfl)
#print axioms proved
end Go.Proofs.YtjlhinjmnhpdaaaGreatDoor.danceSame
