/-
  The laws' helpers on threads that ask a phaser: guests, begins.
-/
import Derived.Test.YtdhlmgoodpepeaaGreatDoorQT
import Derived.Test.YtdhlmgoodpepeaaGreatDoorQL2
namespace Go.Proofs.YtdhlmgoodpepeaaGreatDoor
set_option maxRecDepth 100000
open Go.RowKit Go.Shelf Go.Sort
set_option linter.unusedVariables false
set_option linter.unusedSimpArgs false

/-- The call that a number picks. -/
def tabG (u : Nat) : GC := ([⟨7, 0⟩, ⟨9, 0⟩, ⟨6, 1⟩, ⟨8, 0⟩, ⟨10, 0⟩, ⟨10, 1⟩, ⟨6, 3⟩, ⟨9, 0⟩, ⟨11, 0⟩, ⟨10, 2147483647⟩, ⟨7, 0⟩] : List GC).getD u ⟨7, 0⟩
theorem tabG_fit (u : Nat) : fitsC ((tabG u).w : Int) (tabG u).n := by
  unfold tabG
  match u with
  | 0 => exact .inr (.inr ⟨.inl rfl, rfl⟩)
  | 1 => exact .inr (.inr ⟨.inr (.inr (.inl rfl)), rfl⟩)
  | 2 => exact .inl ⟨rfl, by decide, by decide⟩
  | 3 => exact .inr (.inr ⟨.inr (.inl rfl), rfl⟩)
  | 4 => exact .inr (.inl ⟨rfl, by decide, by decide⟩)
  | 5 => exact .inr (.inl ⟨rfl, by decide, by decide⟩)
  | 6 => exact .inl ⟨rfl, by decide, by decide⟩
  | 7 => exact .inr (.inr ⟨.inr (.inr (.inl rfl)), rfl⟩)
  | 8 => exact .inr (.inr ⟨.inr (.inr (.inr rfl)), rfl⟩)
  | 9 => exact .inr (.inl ⟨rfl, by decide, by decide⟩)
  | 10 => exact .inr (.inr ⟨.inl rfl, rfl⟩)
  | u + 11 => exact .inr (.inr ⟨.inl rfl, rfl⟩)
def cellsTab : Array Value := #[.int .i64 7, .int .i64 0, .int .i64 9, .int .i64 0, .int .i64 6, .int .i64 1, .int .i64 8, .int .i64 0, .int .i64 10, .int .i64 0, .int .i64 10, .int .i64 1, .int .i64 6, .int .i64 3, .int .i64 9, .int .i64 0, .int .i64 11, .int .i64 0, .int .i64 10, .int .i64 2147483647, .int .i64 7, .int .i64 0]
theorem cellsTab_at {u : Nat} (hu : u < 11) : cellsTab[u * 2]? = some (.int .i64 ((tabG u).w : Int)) ∧ cellsTab[u * 2 + 1]? = some (.int .i64 (tabG u).n) := by
  match u, hu with
  | 0, _ => exact ⟨rfl, rfl⟩
  | 1, _ => exact ⟨rfl, rfl⟩
  | 2, _ => exact ⟨rfl, rfl⟩
  | 3, _ => exact ⟨rfl, rfl⟩
  | 4, _ => exact ⟨rfl, rfl⟩
  | 5, _ => exact ⟨rfl, rfl⟩
  | 6, _ => exact ⟨rfl, rfl⟩
  | 7, _ => exact ⟨rfl, rfl⟩
  | 8, _ => exact ⟨rfl, rfl⟩
  | 9, _ => exact ⟨rfl, rfl⟩
  | 10, _ => exact ⟨rfl, rfl⟩
abbrev GaNest (w : World) (A : Option Addr) (k c : Nat) (Ls : List (List GC)) (wr : World) : Prop := Nest 60 63 2 w A k c ((Ls.map (List.map encG)).map fun (l : List (Int × Int)) => (l.length, cellsC l)) wr
structure GuTo (w : World) (v : Value) (k : Nat) (wr : World) : Prop where
  nest : ∃ (A : Option Addr) (c : Nat) (Ls : List (List GC)), v = .slice A k c ∧ GaNest w A k c Ls wr ∧ Ls.length = k ∧ ∀ L ∈ Ls, L.length ≤ 6 ∧ FitL L
set_option maxHeartbeats 2000000 in
theorem guests_any {w : World} (A : Option Addr) (n cap : Nat) (ls : List (List Int)) (hR : IRows w w.heap.size A n ls) (hcap : n ≤ cap) :
    Calls Tryz.prog 13 #[.slice A n cap] w fun e w' => ∃ v, e = .returned v ∧ GuTo w v (min n 6) w' := by
  have HR := Lib.hid hR
  obtain ⟨m, hm⟩ : ∃ m : Nat, (m : Int) = min (n : Int) 6 := ⟨min n 6, by omega⟩
  have hm8 : m ≤ 6 ∧ m ≤ n := by omega
  have HMn := Lib.hid (show m = min n 6 by omega)
  have e1 : max (min (n : Int) 6) 0 = (m : Int) := by omega
  have e2 : (min (n : Int) 6).toNat = m := by omega
  have HA0 := Lib.hid (show GuTo w (.slice none 0 0) 0 w from ⟨none, 0, [], rfl, Nest.nil _ _ _ w, rfl, fun l h => by cases h⟩)
  have h8 : (min (n : Int) 6).toNat ≤ cap := by omega
  have HM8 := Lib.hid hm8
  clear hR hm hcap
  go_enter Tryz.func13, Tryz.ntmps13
  go_wp2
  clear e1 e2 h8
  --MA
  go_loopw [3, 15] (fun v j wr => ∃ k : Nat, k ≤ m ∧ j = .int .i64 k ∧ GuTo w v k wr) (fun _ j _ => m - (intOf j).toNat)
  case atStart => exact ⟨0, Nat.zero_le _, rfl, HA0.out⟩
  case round =>
    obtain ⟨k, hk, rfl, hm⟩ := hrel
    by_cases hlt : k < m
    · have hkn : (k : Int) < (m : Int) := by omega
      obtain ⟨Av, cv, Ls, rfl, hN, hLs, hL6⟩ := hm.nest
      obtain ⟨b, off, hA, hbl, hx⟩ := (HR.out.below hN.bel).row (by have := HM8.out; omega)
      subst hA
      obtain ⟨Ai, ci, hcell, hci, hin⟩ := hx k (by have := HM8.out; omega)
      generalize hli : ls.getD k [] = li at *
      obtain ⟨z, hz⟩ : ∃ z, li.length = z := ⟨_, rfl⟩
      rw [hz] at hcell hci hin
      have HNs := Lib.hid hN
      have HLs := Lib.hid (And.intro hLs hL6)
      obtain ⟨q, hq⟩ : ∃ q : Nat, (q : Int) = min (z : Int) 6 := ⟨min z 6, by omega⟩
      have hq8 : q ≤ 6 ∧ q ≤ z := by omega
      have e1 : max (min (z : Int) 6) 0 = (q : Int) := by omega
      have e2 : (min (z : Int) 6).toNat = q := by omega
      have h8 : (min (z : Int) 6).toNat ≤ ci := by omega
      have HQ := Lib.hid hq8
      have HIn := Lib.hid hin
      have hk8 : k < 6 := by have := HM8.out; omega
      clear hm hx hin hN hz hli hq hq8 hci hbl HA0 hLs hL6
      go_wp2
      clear e1 e2 h8
      --MB
      obtain ⟨wo, rfl⟩ : ∃ wo, wo = wr := ⟨_, rfl⟩
      go_loopw [6, 25] (fun v j w2 => ∃ i : Nat, i ≤ q ∧ j = .int .i64 i ∧ ∃ A c, ∃ L : List GC, v = .slice A i c ∧ L.length = i ∧ FitL L ∧ RowC wo A i c (L.map encG) w2) (fun _ j _ => q - (intOf j).toNat)
      case atStart => exact ⟨0, Nat.zero_le _, rfl, none, 0, [], rfl, rfl, (show FitL [] from fun c h => by cases h), RowC.nil _⟩
      case round =>
        obtain ⟨i, hi, rfl, Ac, cc, L, rfl, hLl, hLf, hRow⟩ := hrel
        by_cases hlt2 : i < q
        · have hin2 : (i : Int) < (q : Int) := by omega
          obtain ⟨b2, off2, hA2, hb2l, hx2⟩ := (HIn.out.below (hRow.bel.mono HNs.out.bel.size)).row (by have := HQ.out; omega)
          subst hA2
          have hcell2 := hx2 i (by have := HQ.out; omega)
          obtain ⟨y, hy⟩ : ∃ y, li.getD i 0 = y := ⟨_, rfl⟩
          rw [hy] at hcell2
          obtain ⟨u, hu, hpu⟩ := ga_pick y 11 (by decide) (by decide)
          have HPu := Lib.hid hpu
          have hRt := hRow.grow ((Below.refl wr.heap.size wr).alloc (Nat.le_refl _) (.cells cellsTab 63))
          have hat := heap_alloc_new wr (.cells cellsTab 63)
          obtain ⟨t1, t2⟩ := cellsTab_at hu
          have hc1 : (wr.alloc (.cells cellsTab 63)).cell? ⟨wr.heap.size, u * 2, none⟩ = some (.int .i64 ((tabG u).w : Int)) := (cell_of_row _ _ _ _ _ _ hat).trans t1
          have hc2 : (wr.alloc (.cells cellsTab 63)).cell? ⟨wr.heap.size, u * 2 + 1, none⟩ = some (.int .i64 (tabG u).n) := (cell_of_row _ _ _ _ _ _ hat).trans t2
          obtain ⟨A4, c4, w4, hr4, hR4⟩ := hRt.add #[.int .i64 ((tabG u).w : Int), .int .i64 (tabG u).n] 1 (r := [((tabG u).w, (tabG u).n)]) rfl rfl (by have := HQ.out; omega) (by decide)
          have hR4' : RowC wo A4 (i + 1) c4 ((L ++ [tabG u]).map encG) w4 := by
            rw [List.map_append]; exact hR4
          have HR4 := Lib.hid (And.intro hR4' (show (L ++ [tabG u]).length = i + 1 ∧ FitL (L ++ [tabG u]) from ⟨by rw [List.length_append, hLl]; rfl, fun c hc => by
            rcases List.mem_append.1 hc with hc | hc
            · exact hLf c hc
            · rw [List.mem_singleton.1 hc]; exact tabG_fit u⟩))
          rw [World.size_alloc] at hr4
          unfold cellsTab at hc1 hc2 hr4
          have HRun := Lib.hid hr4
          have hq8 := HQ.out.1
          obtain ⟨a1, ha1⟩ : ∃ a1 : Int, ((tabG u).w : Int) = a1 := ⟨_, rfl⟩
          obtain ⟨a2, ha2⟩ : ∃ a2 : Int, (tabG u).n = a2 := ⟨_, rfl⟩
          rw [ha1] at hc1 HRun
          rw [ha2] at hc2 HRun
          have hu11 : (u : Int) < 11 := by omega
          clear hRow hr4 hR4 hR4' hRt hat t1 t2 hx2 hpu hy ha1 ha2 hb2l hu hLl hLf
          go_wp2_with fail
          --MC
          refine (HPu.out _).mono ?_
          rintro e w9 ⟨rfl, rfl⟩
          go_wp2_with (at_builtin; refine Lib.wpList_append_run _ rfl _ _ _ _ rfl _ _ rfl rfl _ _ HRun.out ?_; clear HRun)
          --MD
          go_roundw
          case rel => exact ⟨i + 1, by omega, by go_num, A4, c4, _, rfl, HR4.out.2.1, HR4.out.2.2, HR4.out.1⟩
          case measure => simp [intOf]; omega
        · have hin2 : ¬ (i : Int) < (q : Int) := by omega
          obtain rfl : i = q := by omega
          obtain ⟨A4, c4, w4, hr4, hN4⟩ := (HNs.out.grow hRow.bel).add (tS := 25) Tryz.underlying25 infoSCallM (by decide) hRow.own HNs.out.bel.size (by have := HM8.out; omega)
          have HN4 := Lib.hid (show GuTo w (.slice A4 (k + 1) c4) (k + 1) w4 from ⟨A4, c4, Ls ++ [L], rfl, by
            unfold GaNest
            rw [List.map_append, List.map_append]
            have e : ([L].map (List.map encG)).map (fun (l : List (Int × Int)) => (l.length, cellsC l)) = [(i, cellsC (L.map encG))] := by
              simp only [List.map_cons, List.map_nil]
              rw [List.length_map, hLl]
            rw [e]
            exact hN4, by rw [List.length_append, HLs.out.1]; rfl, fun r hr => by
            rcases List.mem_append.1 hr with hr | hr
            · exact HLs.out.2 r hr
            · rw [List.mem_singleton.1 hr, hLl]; exact ⟨HQ.out.1, hLf⟩⟩)
          have HRun := Lib.hid hr4
          clear hr4 hN4 hRow HNs HLs hLl hLf
          go_wp2_with (at_builtin; refine Lib.wpList_append_run _ rfl _ _ _ _ rfl _ _ rfl rfl _ _ HRun.out ?_; clear HRun)
          --ME
          go_roundw
          case rel => exact ⟨k + 1, by omega, by go_num, HN4.out⟩
          case measure => simp [intOf]; omega
    · have hkn : ¬ (k : Int) < (m : Int) := by omega
      obtain rfl : k = m := by omega
      have HM := Lib.hid hm
      clear hm HA0
      go_wp2
      go_ret
      --MZ
      exact ⟨_, rfl, by rw [← HMn.out]; exact HM.out⟩
end Go.Proofs.YtdhlmgoodpepeaaGreatDoor
