/-
  WHATEVER THEY ARE CALLED.
-/
import Derived.Test.YtpomjobgodfjmaaDoorLJudgeRounds
import Derived.Test.YtpomjobgodfjmaaDoorRowE
import Derived.Lib.AppendZeros
namespace Go.Proofs.YtpomjobgodfjmaaDoor
set_option maxRecDepth 100000
open Go.RowKit
set_option linter.unusedVariables false
set_option linter.unusedSimpArgs false

theorem takeE {l : List Ev4} {i : Nat} (h : i < l.length) : l.take (i + 1) = l.take i ++ [l.getD i default] := by
  have e : l.getD i default = l[i] := by rw [List.getD_eq_getElem?_getD, List.getElem?_eq_getElem h]; rfl
  rw [e, List.take_append_getElem]
theorem rot_value {t b m : Nat} (ht : t < m) (hb : b < m) (hm : m ≤ 16) : (wrap64 ((t : Int) + (b : Int))).tmod (m : Int) = ((t : Int) + (b : Int)) % (m : Int) := by
  have e : wrap64 ((t : Int) + (b : Int)) = ((t + b : Nat) : Int) := by unfold wrap64; omega
  rw [e]
  rfl
/-- One more event, with its thread called otherwise. -/
theorem RowE.rot {w wr : World} {A : Option Addr} {n c m b : Nat} {l : List Ev4} (h : RowE w A n c l wr) {a1 a2 a4 e : Int} {t : Nat} (he : e = ((t : Int) + (b : Int)) % (m : Int)) (o : Obj) (hn : n ≤ 100000) :
    ∃ A' c' w', (Builtin.append_ #[22, 22] 22 #[.slice A n c, .slice (some ⟨wr.heap.size + 1, 0, none⟩) 1 1]).run Tryd.prog ((wr.alloc o).alloc (.cells #[.int .i64 a1, .int .i64 a2, .int .i64 e, .int .i64 a4] 29)) = .ok (.slice A' (n + 1) c') w' ∧ RowE w A' (n + 1) c' (l ++ [rotEv m b (a1, a2, (t : Int), a4)]) w' := by
  subst he
  have h2 := (h.alloc o).one (rotEv m b (a1, a2, (t : Int), a4)) hn
  rwa [World.size_alloc] at h2
theorem next_lessJ {q n : Nat} (h : q < n) : n - (intOf (Value.int IntKind.i64 ((q + 1 : Nat) : Int))).toNat < n - (intOf (Value.int IntKind.i64 (q : Int))).toNat := by
  show n - (((q + 1 : Nat) : Int)).toNat < n - ((q : Int)).toNat
  rw [Int.toNat_natCast, Int.toNat_natCast]
  omega

set_option maxHeartbeats 1000000 in
theorem judgeNames_any {w : World} (hg : ErrVar w) (A : Option Addr) (len cap : Nat) (l : List Ev4) (hl : l.length = len) (hE : EvRow w A len l) (n by_ : Int) :
    Calls Tryd.prog 4 #[.slice A len cap, .int .i64 n, .int .i64 by_] w fun e w' => e = .returned (.bool true) ∧ Below w.heap.size w w' := by
  have HJ := Lib.hid (judged_any hg)
  obtain ⟨m, m1, m16, hm, hp16⟩ := pick16 n
  have HP := Lib.hid hp16
  have HE := Lib.hid hE
  have hmw : wrap64 (1 + pickI n 16) = (m : Int) := by rw [hm]; unfold wrap64; omega
  have HMW := Lib.hid hmw
  obtain ⟨b, hb, hpb⟩ := pickN by_ m m1 (by omega)
  have HPb := Lib.hid hpb
  have HG := Lib.hid hg
  have HN := Lib.hid (And.intro m1 (And.intro m16 hb))
  clear hg hp16 hE hm hmw hpb m1 m16 hb
  generalize pickI n 16 = z at *
  go_enter Tryd.func4, Tryd.ntmps4
  go_wp2_with fail
  refine HJ.out.mono ?_
  rintro e w1 ⟨rfl, hb1⟩
  have HB := Lib.hid hb1
  clear hb1 HJ
  by_cases h9 : 100 < len
  · have h9' : (100 : Int) < (len : Int) := by omega
    go_wp2
    go_ret
    exact ⟨rfl, HB.out⟩
  have h9' : ¬ (100 : Int) < (len : Int) := by omega
  have HLe := Lib.hid (show len ≤ 100 by omega)
  have HE1 := Lib.hid (HE.out.of HB.out)
  clear HE h9
  go_wp2_with fail
  refine (HP.out _).mono ?_
  rintro e w2 ⟨rfl, rfl⟩
  have hmw := HMW.out
  clear HP
  go_wp2_with fail
  refine (HPb.out _).mono ?_
  rintro e w2 ⟨rfl, rfl⟩
  clear h9' hmw HPb
  --MA
  go_wp2
  rw [HMW.out]
  subst hl
  go_loopw [7, 29] (fun v j wr => ∃ (q : Nat) (B : Option Addr) (c : Nat), q ≤ l.length ∧ v = .slice B q c ∧ j = .int .i64 (q : Nat) ∧ Hid (RowE w1 B q c ((l.take q).map (rotEv m b)) wr ∧ ∀ e ∈ l.take q, 0 ≤ e.2.2.1 ∧ e.2.2.1 < m)) (fun _ j _ => l.length - (intOf j).toNat)
  case atStart => exact ⟨0, none, 0, Nat.zero_le _, rfl, rfl, RowE.nil w1, fun e he => absurd he (by simp)⟩
  case round =>
    obtain ⟨q, B, c0, hq, rfl, rfl, hx⟩ := hrel
    by_cases hlt : q < l.length
    · have hkn : (q : Int) < (l.length : Int) := Int.ofNat_lt.2 hlt
      have HX := Lib.hid hx.out
      obtain ⟨bb, off, rfl, x1, x2, x3, x4⟩ := (HE1.out.of hx.out.1.bel) q hlt
      have HT := Lib.hid (takeE hlt)
      have HBq := Lib.hid (HB.out.trans (hx.out.1.bel.mono HB.out.size))
      have HQ := Lib.hid hlt
      have HWq := Lib.hid (show wrap64 ((q : Int) + 1) = ((q + 1 : Nat) : Int) from by have h1 := HLe.out; unfold wrap64; omega)
      have HQ100 := Lib.hid (show q ≤ 100000 by have h1 := HLe.out; omega)
      generalize l.getD q default = a at *
      obtain ⟨a1, a2, a3, a4⟩ := a
      dsimp only at x1 x2 x3 x4 HT
      clear hx hlt hq
      by_cases hin : 0 ≤ a3 ∧ a3 < (m : Int)
      · obtain ⟨t, rfl⟩ : ∃ t : Nat, a3 = t := ⟨a3.toNat, by omega⟩
        have htm : t < m := by omega
        have hn0 : ¬ (t : Int) < 0 := by omega
        have hnm : ¬ (m : Int) ≤ (t : Int) := by omega
        obtain ⟨A', c', w', hr, hrow⟩ := HX.out.1.rot (a1 := a1) (a2 := a2) (a4 := a4) (rot_value htm HN.out.2.2 HN.out.2.1) (.cells #[.int .i64 a1, .int .i64 a2, .int .i64 ((wrap64 ((t : Int) + (b : Int))).tmod (m : Int)), .int .i64 a4] 29) HQ100.out
        have e1 : (l.take q).map (rotEv m b) ++ [rotEv m b (a1, a2, (t : Int), a4)] = (l.take (q + 1)).map (rotEv m b) := by rw [HT.out, List.map_append]; rfl
        rw [e1] at hrow
        have hall : ∀ e ∈ l.take (q + 1), 0 ≤ e.2.2.1 ∧ e.2.2.1 < m := fun e he => by
          rw [HT.out] at he
          rcases List.mem_append.1 he with he | he
          · exact HX.out.2 e he
          · rw [List.mem_singleton.1 he]
            exact hin
        have HR := Lib.hid hr
        have HN2 := Lib.hid (And.intro hrow hall)
        have hm0 : ¬ (m : Int) = 0 := by omega
        clear hr hrow hall e1 htm hin HX HT HBq
        --MB
        go_wp2_with (at_builtin; refine Lib.wpList_append_run _ rfl _ _ _ _ rfl _ _ rfl rfl _ _ HR.out ?_; clear HR)
        --MC
        exact ⟨⟨q + 1, A', c', HQ.out, rfl, rfl, HN2.out⟩, next_lessJ HQ.out⟩
      · have HBa := Lib.hid (fun o => HBq.out.alloc HBq.out.size o)
        clear HX HT HBq
        by_cases h0 : a3 < 0
        · clear hin
          go_wp2
          go_ret
          exact ⟨rfl, HBa.out _⟩
        · have hge : (m : Int) ≤ a3 := by omega
          clear hin
          go_wp2
          go_ret
          exact ⟨rfl, HBa.out _⟩
    · have hkn : ¬ (q : Int) < (l.length : Int) := fun h => hlt (Int.ofNat_lt.1 h)
      obtain rfl : l.length = q := Nat.le_antisymm (Nat.le_of_not_lt hlt) hq
      have hx1 := hx.out
      rw [List.take_length] at hx1
      have HX := Lib.hid hx1
      have hj : judgeP m [] (l.map (rotEv m b)) = judgeP m [] l := judge_names l [] (fun e he => hx1.2 e (by simpa using he))
      obtain ⟨r1, r2⟩ := names_rounds (b := b) HN.out.1 hx1.2
      have hlm : (l.map (rotEv m b)).length = l.length := List.length_map _
      have h20 : l.length ≤ 20000 := Nat.le_trans HLe.out (by decide)
      have hB2 := Lib.hid (HB.out.trans (hx1.1.bel.mono HB.out.size))
      have hgE := errVar_below HG.out hB2.out (errVar_lt HG.out)
      have HGE := Lib.hid hgE
      have hE2 := HE1.out.of hx1.1.bel
      have hM2 : EvRow wr B l.length (l.map (rotEv m b)) := evRow_own hx1.1.own hlm
      by_cases hw : judgeP m [] l = none
      · have HR1 := Lib.hid (jrounds_yes (w := wr) A l.length cap m l rfl h20 hE2 HN.out.1 HN.out.2.1 hw)
        have HR2 := Lib.hid (fun x (hx : wr.grownBy x none) => jrounds_yes (w := x) B l.length c0 m (l.map (rotEv m b)) hlm h20 (hM2.grow hx) HN.out.1 HN.out.2.1 (hj.trans hw))
        rw [r1, r2] at HR2
        clear hx hx1 HX hj r1 r2 hlm h20 hgE hE2 hM2 hw hlt hq
        generalize jAll m l = ja at *
        generalize jAny m l = jb at *
        go_wp2_with fail
        refine HR1.out.mono ?_
        rintro e w3 ⟨rfl, hg3⟩
        have HG3 := Lib.hid hg3
        have HR3 := Lib.hid (HR2.out w3 hg3)
        clear hg3 HR1 HR2
        go_wp2_with fail
        refine HR3.out.mono ?_
        rintro e w4 ⟨rfl, hg4⟩
        have HB4 := Lib.hid ((hB2.out.grown HG3.out hB2.out.size (by intro k hk; cases hk)).grown hg4 (Nat.le_trans hB2.out.size HG3.out.size) (by intro k hk; cases hk))
        clear hg4 HR3 HG3
        go_wp2_with fail
        refine (tell_nil _).mono ?_
        rintro e w5 ⟨rfl, rfl⟩
        go_wp2_with fail
        refine (tell_nil _).mono ?_
        rintro e w5 ⟨rfl, rfl⟩
        go_wp2
        go_ret
        exact ⟨rfl, HB4.out⟩
      · obtain ⟨⟨c, i⟩, hci⟩ : ∃ q, judgeP m [] l = some q := by
          cases h : judgeP m [] l with
          | none => exact absurd h hw
          | some q => exact ⟨q, rfl⟩
        have HR1 := Lib.hid (jrounds_no (w := wr) A l.length cap m l rfl h20 hE2 HN.out.1 HN.out.2.1 hci)
        have HR2 := Lib.hid (fun x (hx : wr.grownBy x none) => jrounds_no (w := x) B l.length c0 m (l.map (rotEv m b)) hlm h20 (hM2.grow hx) HN.out.1 HN.out.2.1 (hj.trans hci))
        clear hx hx1 HX hj r1 r2 hlm h20 hgE hE2 hM2 hw hci hlt hq
        go_wp2_with fail
        refine HR1.out.mono ?_
        rintro e w3 ⟨p3, rfl, hp3, hg3⟩
        have HG3 := Lib.hid hg3
        have HP3 := Lib.hid hp3
        have HR3 := Lib.hid (HR2.out w3 hg3)
        clear hg3 hp3 HR1 HR2
        go_wp2_with fail
        refine HR3.out.mono ?_
        rintro e w4 ⟨p4, rfl, hp4, hg4⟩
        have HB4 := Lib.hid ((hB2.out.grown HG3.out hB2.out.size (by intro k hk; cases hk)).grown hg4 (Nat.le_trans hB2.out.size HG3.out.size) (by intro k hk; cases hk))
        have hE4 := errVar_below HG.out HB4.out (errVar_lt HG.out)
        have HT3 := Lib.hid (tell_at ((c : Nat) : Int) p3 w4 hE4 (AtErr.cell HP3.out hg4))
        have HT4 := Lib.hid (fun x (hx : w4.grownBy x none) => tell_at ((c : Nat) : Int) p4 x (errVar_below HG.out (HB4.out.grown hx HB4.out.size (by intro k hk; cases hk)) (errVar_lt HG.out)) (AtErr.cell hp4 hx))
        clear hg4 hp4 HR3 HG3 HP3 hE4
        go_wp2_with fail
        refine HT3.out.mono ?_
        rintro e w5 ⟨rfl, hg5⟩
        have HB5 := Lib.hid (HB4.out.grown hg5 HB4.out.size (by intro k hk; cases hk))
        have HT5 := Lib.hid (HT4.out w5 hg5)
        clear hg5 HT3 HT4
        go_wp2_with fail
        refine HT5.out.mono ?_
        rintro e w6 ⟨rfl, hg6⟩
        have HB6 := Lib.hid (HB5.out.grown hg6 HB5.out.size (by intro k hk; cases hk))
        clear hg6 HT5
        go_wp2
        go_ret
        exact ⟨rfl, HB6.out⟩
end Go.Proofs.YtpomjobgodfjmaaDoor
