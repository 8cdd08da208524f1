/-
  central: all count at one cell, the last one opens a gate. combine's nodes: a row of the call's own; the path of one of n.
-/
import Derived.Test.YtgkfhihnfllmhaaGreatDoorQXJ2
import Derived.Lib.AppendZeros
namespace Go.Proofs.YtgkfhihnfllmhaaGreatDoor
set_option maxRecDepth 100000
open Go.RowKit Go.Shelf Go.Sort
set_option linter.unusedVariables false
set_option linter.unusedSimpArgs false

theorem central_body {n : Nat} (n1 : 1 ≤ n) (n16 : n ≤ 16) : meetP 5 0 (n : Int) 17 ++ openP 0 (n : Int) = bodyI [.meet 0 n 2, .opn 0 n] := by
  have h1 := meetP_is (j := 0) (d := 2) (c := 0) (s := n) [.meet 0 n 2, .opn 0 n] 0 (Nat.zero_le _) (by decide) n1 (by omega)
  have h2 := openP_is [.meet 0 n 2, .opn 0 n] (5 + ((offs [.meet 0 n 2, .opn 0 n] 1 : Nat) : Int)) (c := 0) (s := n) (by decide)
  show _ = bodyTo _ 2
  rw [bodyTo_succ, bodyTo_succ]
  have h3 : meetP 5 0 (n : Int) 17 = compOp [.meet 0 n 2, .opn 0 n] 5 (.meet 0 n 2) := h1
  have h4 : openP 0 (n : Int) = compOp [.meet 0 n 2, .opn 0 n] (5 + ((offs [.meet 0 n 2, .opn 0 n] 1 : Nat) : Int)) (.opn 0 n) := h2
  rw [h3, h4]
  rfl

theorem Ctcode_any {w : World} {n id rounds : Nat} (d : Dims 1 n rounds) (hid : id < n) : Calls Tryz.prog 186 #[.int .i64 (n : Nat), .int .i64 (id : Nat), .int .i64 (rounds : Nat)] w (CodeOf w rounds (centralOps n id)) := by
  have HC := Lib.hid (fun w => pcheck_ok (n : Nat) (id : Nat) (rounds : Nat) w (party_of d hid))
  have HE := Lib.hid (central_body d.n1 d.n16)
  have hr := d.r6
  rw [show centralOps n id = [.meet 0 n 2, .opn 0 n] from rfl]
  clear d
  have HLn := Lib.hid (show (bodyI [BOp.meet 0 n 2, .opn 0 n]).length ≤ 1000 from by have := bodyI_le [BOp.meet 0 n 2, .opn 0 n]; simp at this; omega)
  generalize [BOp.meet 0 n 2, .opn 0 n] = ops at *
  go_enter Tryz.func186, Tryz.ntmps186
  go_wp2_with fail
  refine (HC.out _).mono ?_
  rintro e w1 ⟨rfl, hw⟩
  obtain rfl := hw.symm
  clear hw
  go_wp2_with fail
  refine (pmeet_any _ _ _ _ _).mono ?_
  rintro e w1 ⟨A, c, rfl, hb⟩
  have HB := Lib.hid hb
  clear hb
  go_wp2_with fail
  refine (popen_any _ _ _).mono ?_
  rintro e w2 ⟨A2, c2, rfl, hb2⟩
  have hk := HB.out.keep (grown_of_below hb2.bel)
  obtain ⟨A3, c3, w3, hr3, hb3⟩ := hk.more (d := c2) (Inss.of_own hb2.own hb2.len) (show 8 + 4 ≤ 100000 by decide)
  rw [HE.out] at hb3
  have HR := Lib.hid hr3
  have HB3 := Lib.hid hb3
  clear hb2 hk hr3 hb3 HB HE HC
  --MA
  go_wp2_with (at_builtin; refine Lib.wpList_append_run _ rfl _ _ _ _ rfl _ _ rfl rfl _ _ HR.out ?_; clear HR)
  refine (whole_of HB3.out (by omega : rounds ≤ 20) (show 8 + 4 ≤ 1000 by decide)).mono ?_
  rintro e w4 ⟨A1, c1, rfl, ho, hb⟩
  have HO := Lib.hid ho
  have HB4 := Lib.hid hb
  clear ho hb
  go_wp2
  go_ret2
  exact ⟨A1, c1, rfl, HO.out, HB4.out⟩
theorem Ctcells_any {w : World} {n : Nat} (n1 : 1 ≤ n) (n16 : n ≤ 16) : Calls Tryz.prog 185 #[.int .i64 (n : Nat)] w fun e w' => e = .returned (.tuple #[.int .i64 (kCells 1 n : Nat), .nilIface]) ∧ w = w' := by
  have HC := Lib.hid (fun w => pcheck_ok (n : Nat) 0 0 w (party_0 n1 n16))
  go_enter Tryz.func185, Tryz.ntmps185
  go_wp2_with fail
  refine (HC.out _).mono ?_
  rintro e w1 ⟨rfl, h⟩
  obtain rfl := h.symm
  go_wp2
  go_ret2
  exact ⟨rfl, rfl⟩
end Go.Proofs.YtgkfhihnfllmhaaGreatDoor

namespace Go.Proofs.YtgkfhihnfllmhaaGreatDoor
set_option maxRecDepth 100000
open Go.RowKit Go.Shelf Go.Sort
set_option linter.unusedVariables false
set_option linter.unusedSimpArgs false

def nodeC (l : List (Nat × Nat)) : List Value := l.flatMap fun x => [.int .i64 (x.1 : Int), .int .i64 (x.2 : Int)]
theorem nodeC_append (a b : List (Nat × Nat)) : nodeC (a ++ b) = nodeC a ++ nodeC b := List.flatMap_append
theorem nodeC_get : ∀ (l : List (Nat × Nat)) (i : Nat), i < l.length → (nodeC l)[i * 2]? = some (.int .i64 ((l.getD i default).1 : Int)) ∧ (nodeC l)[i * 2 + 1]? = some (.int .i64 ((l.getD i default).2 : Int))
  | [], _, h => by cases h
  | x :: l, 0, _ => ⟨rfl, rfl⟩
  | x :: l, i + 1, h => by
    have := nodeC_get l i (by simpa using h)
    have e : nodeC (x :: l) = [.int .i64 (x.1 : Int), .int .i64 (x.2 : Int)] ++ nodeC l := rfl
    rw [e, List.getElem?_append_right (by simp; omega), List.getElem?_append_right (by simp; omega)]
    simp only [List.length_cons, List.length_nil, Nat.reduceAdd]
    rw [show (i + 1) * 2 - 2 = i * 2 by omega, show (i + 1) * 2 + 1 - 2 = i * 2 + 1 by omega]
    simpa using this

theorem infoNode : (Tryz.prog.info? 309).map (fun i => (i.zero, i.size, i.bytes)) = some (some (.agg #[.int .i64 0, .int .i64 0]), 2, 16) := by kernel_rfl
/-- A row of the call's own nodes, so far. -/
structure NodeB (w : World) (A : Option Addr) (n c : Nat) (l : List (Nat × Nat)) (wr : World) : Prop where
  len : l.length = n
  own : wr.ownsRow w.heap.size 309 2 (.slice A n c) n (nodeC l)
  bel : Below w.heap.size w wr
theorem NodeB.one {w wr : World} {A : Option Addr} {n c : Nat} {l : List (Nat × Nat)} (h : NodeB w A n c l wr) (x : Nat × Nat) (hn : n ≤ 100000) :
    ∃ A' n' c' w', (Builtin.append_ #[306, 306] 306 #[.slice A n c, .slice (some ⟨wr.heap.size, 0, none⟩) 1 1]).run Tryz.prog (wr.alloc (.cells #[.int .i64 (x.1 : Int), .int .i64 (x.2 : Int)] 309)) = .ok (.slice A' n' c') w' ∧ NodeB w A' n' c' (l ++ [x]) w' := by
  obtain ⟨i0, hi, hz0, hz1, hz2⟩ := info_parts infoNode
  have hb := h.bel.alloc h.bel.size (.cells #[.int .i64 (x.1 : Int), .int .i64 (x.2 : Int)] 309)
  have hat := heap_alloc_new wr (.cells #[.int .i64 (x.1 : Int), .int .i64 (x.2 : Int)] 309)
  obtain ⟨v', w', hr, ho, hg, _⟩ := run_append_own (P := Tryz.prog) (wr.alloc (.cells #[.int .i64 (x.1 : Int), .int .i64 (x.2 : Int)] 309)) w.heap.size 306 306 309 i0 (.agg #[.int .i64 0, .int .i64 0]) 2 16 Tryz.underlying306 hi hz0 hz1 hz2 rfl (by decide) (.slice A n c) n _ (h.own.alloc _) ⟨wr.heap.size, 0, none⟩ 1 1 [.int .i64 (x.1 : Int), .int .i64 (x.2 : Int)] rfl (by
    intro j u hu
    match j, hu with
    | 0, hu =>
      have e : u = .int .i64 (x.1 : Int) := by simpa using hu.symm
      subst e
      exact (cell_of_row _ _ 0 _ _ _ hat).trans rfl
    | 1, hu =>
      have e : u = .int .i64 (x.2 : Int) := by simpa using hu.symm
      subst e
      exact (cell_of_row _ _ 1 _ _ _ hat).trans rfl) (by intro u hu; simp at hu; rcases hu with rfl | rfl <;> rfl) (by unfold maxLen; omega) (by omega) hb.size
  obtain ⟨A', c', rfl⟩ : ∃ A' c', v' = .slice A' (n + 1) c' := by
    rcases ho.2 with ⟨rfl, e⟩ | ⟨g, cap, cur, rfl, _⟩
    · exact ⟨none, 0, by rw [e]⟩
    · exact ⟨_, _, rfl⟩
  exact ⟨A', _, c', w', hr, by rw [List.length_append, h.len]; rfl, by rw [nodeC_append]; exact ho, hb.grown hg hb.size (fun k hk => (h.own.lt k hk).1)⟩
theorem NodeB.nil (w : World) : NodeB w none 0 0 [] w := ⟨rfl, World.ownsRow_nil _ _ _ _, Below.refl _ _⟩

/-- A row of nodes that reads as a list. -/
def NodeRow (w : World) (A : Option Addr) (n : Nat) (l : List (Nat × Nat)) : Prop := ∀ i, i < n → ∃ b, A = some ⟨b, 0, none⟩ ∧ b < w.heap.size ∧ w.cell? ⟨b, i * 2, none⟩ = some (.int .i64 ((l.getD i default).1 : Int)) ∧ w.cell? ⟨b, i * 2 + 1, none⟩ = some (.int .i64 ((l.getD i default).2 : Int))
theorem NodeRow.of {w w' : World} {A : Option Addr} {n : Nat} {l : List (Nat × Nat)} (h : NodeRow w A n l) (hb : Below w.heap.size w w') : NodeRow w' A n l := fun i hi => by
  obtain ⟨b, e, hlt, x1, x2⟩ := h i hi
  have k := fun j => World.cell?_of_block (a := ⟨b, j, none⟩) (hb.block b hlt)
  exact ⟨b, e, Nat.lt_of_lt_of_le hlt hb.size, (k _).trans x1, (k _).trans x2⟩
theorem NodeB.row {w wr : World} {A : Option Addr} {n c : Nat} {l : List (Nat × Nat)} (h : NodeB w A n c l wr) : NodeRow wr A n l := fun i hi => by
  rcases h.own.2 with ⟨e, e0⟩ | ⟨g, cap, cur, e, hg, hat, hn, _, hsz, htk⟩
  · omega
  · cases e
    have hl := h.len
    have h2 := nodeC_get l i (by omega)
    have hlt := (Array.getElem?_eq_some_iff.1 hat).1
    have hk : ∀ k, k < n * 2 → cur[k]? = (nodeC l)[k]? := fun k hk => by
      rw [← htk, List.getElem?_take_of_lt hk, Array.getElem?_toList]
    refine ⟨g, rfl, hlt, ?_, ?_⟩
    · rw [cell_of_row wr g _ _ _ _ hat, hk _ (by omega), h2.1]
    · rw [cell_of_row wr g _ _ _ _ hat, hk _ (by omega), h2.2]

/-- The nodes of a path. -/
def pathL (n id k : Nat) : List (Nat × Nat) := (List.range k).map (ndL n id)
theorem pathL_succ (n id k : Nat) : pathL n id (k + 1) = pathL n id k ++ [ndL n id k] := by unfold pathL; rw [List.range_succ]; simp
theorem pathL_get {n id k i : Nat} (h : i < k) : (pathL n id k).getD i default = ndL n id i := by unfold pathL; simp [List.getD_eq_getElem?_getD, List.getElem?_map, List.getElem?_range h]

def slLen : Value → Nat
  | .slice _ m _ => m
  | _ => 0
theorem wrapI {a : Int} (h : -1000000 ≤ a) (h2 : a ≤ 1000000) : wrap64 a = a := by unfold wrap64; omega

theorem node_casts {i0 b0 f0 i1 b1 f1 : Nat} (hi : i1 = i0 / 2) (hb : b1 = (b0 + 1) / 2) (hf : f1 = f0 + b1) (h1 : b0 ≤ 16) (h2 : f0 ≤ 32) (h3 : 2 * i1 ≤ b0) (h4 : f1 ≤ 32) :
    (i0 : Int) / 2 = (i1 : Int) ∧ wrap64 (2 * wrap64 ((f0 : Int) + (i1 : Int))) = ((2 * (f0 + i1) : Nat) : Int) ∧ wrap64 ((b0 : Int) - wrap64 (2 * (i1 : Int))) = ((b0 - 2 * i1 : Nat) : Int) ∧ (wrap64 ((b0 : Int) + 1)).tdiv 2 = (b1 : Int) ∧ wrap64 ((f0 : Int) + (b1 : Int)) = (f1 : Int) ∧ wrap64 (i1 : Int) = (i1 : Int) ∧ wrap64 (b1 : Int) = (b1 : Int) ∧ min (2 : Int) ((b0 - 2 * i1 : Nat) : Int) = ((min 2 (b0 - 2 * i1) : Nat) : Int) := by
  refine ⟨by omega, ?_, ?_, ?_, ?_, wrapI (by omega) (by omega), wrapI (by omega) (by omega), by omega⟩
  · exact (congrArg (fun z => wrap64 (2 * z)) (wrapI (by omega) (by omega))).trans ((wrapI (by omega) (by omega)).trans (by omega))
  · exact (congrArg (fun z => wrap64 ((b0 : Int) - z)) (wrapI (by omega) (by omega))).trans ((wrapI (by omega) (by omega)).trans (by omega))
  · exact (congrArg (fun z => Int.tdiv z 2) (wrapI (by omega) (by omega))).trans ((Int.tdiv_eq_ediv_of_nonneg (by omega)).trans (by omega))
  · exact (wrapI (by omega) (by omega)).trans (by omega)

set_option maxHeartbeats 2000000 in
theorem cmpath_any {w : World} {n id : Nat} (n1 : 1 ≤ n) (n16 : n ≤ 16) (hid : id < n) :
    Calls Tryz.prog 221 #[.int .i64 (n : Nat), .int .i64 (id : Nat)] w fun e w' => ∃ A c, e = .returned (.slice A (cmH n) c) ∧ NodeB w A (cmH n) c (pathL n id (cmH n)) w' := by
  obtain ⟨h1, h4, hend, hmid, hbig, _⟩ := (combine_path n (by omega)).resolve_left (by omega)
  have hlow := combine_low n (by omega) id hid
  have HSucc := Lib.hid (fun k => pathL_succ n id k)
  have HEnd := Lib.hid hend
  have HMid := Lib.hid hmid
  have HBig := Lib.hid hbig
  have HLow := Lib.hid hlow
  have HCb := Lib.hid (fun j => show cb n (j + 1) = (cb n j + 1) / 2 from rfl)
  have HCf := Lib.hid (fun j => show cf n (j + 1) = cf n j + cb n (j + 1) from rfl)
  have HCi := Lib.hid (fun j => show ci id (j + 1) = ci id j / 2 from rfl)
  have HNd := Lib.hid (fun j => show ndL n id j = (2 * (cf n j + ci id (j + 1)), min 2 (cb n j - 2 * ci id (j + 1))) from rfl)
  have hcb0 : (n : Int) = (cb n 0 : Nat) := rfl
  have hci0 : (id : Int) = (ci id 0 : Nat) := rfl
  have hcf0 : (0 : Int) = (cf n 0 : Nat) := rfl
  have HH := Lib.hid (⟨h1, h4⟩ : 1 ≤ cmH n ∧ cmH n ≤ 4)
  have H0 := Lib.hid (⟨hcb0, hci0, hcf0⟩ : (n : Int) = (cb n 0 : Nat) ∧ (id : Int) = (ci id 0 : Nat) ∧ (0 : Int) = (cf n 0 : Nat))
  clear hend hmid hbig hlow h1 h4 hcb0 hci0 hcf0 n1 n16 hid
  generalize cmH n = h at *
  go_enter Tryz.func221, Tryz.ntmps221
  go_wp2
  go_loopw [1, 5, 6, 7] (fun i v f b wr => ∃ (j : Nat) (A : Option Addr) (m c : Nat), j < h ∧ i = .int .i64 (ci id j : Nat) ∧ v = .slice A m c ∧ f = .int .i64 (cf n j : Nat) ∧ b = .int .i64 (cb n j : Nat) ∧ m = j ∧ Hid (NodeB w A m c (pathL n id j) wr)) (fun _ v _ _ _ => h - slLen v)
  case atStart => exact ⟨0, none, 0, 0, HH.out.1, by rw [← H0.out.2.1], rfl, by rw [← H0.out.2.2], by rw [← H0.out.1], rfl, Lib.hid (NodeB.nil w)⟩
  case round =>
    obtain ⟨j, A, m, c, hj, rfl, rfl, rfl, rfl, rfl, hb⟩ := hrel
    have hh := HH.out.2
    have hlw := HLow.out m hj
    have hbg := HBig.out m (by omega)
    have hbg1 := HBig.out (m + 1) (by omega)
    have hcf := HCf.out m
    have hcb := HCb.out m
    have hci := HCi.out m
    have hnd := HNd.out m
    have HS := Lib.hid (HSucc.out m)
    have hmid := HMid.out (m + 1)
    have hend := HEnd.out
    obtain ⟨A2, n2, c2, w2, hr1, hb2⟩ := hb.out.one (ndL n id m) (by omega)
    rw [← HS.out] at hb2
    have hl2 : n2 = m + 1 := by have := hb2.len; unfold pathL at this; simpa using this.symm
    subst hl2
    rw [hnd] at hr1
    dsimp only at hr1
    obtain ⟨i1, hi1⟩ : ∃ i1, ci id (m + 1) = i1 := ⟨_, rfl⟩
    obtain ⟨b1, hb1⟩ : ∃ b1, cb n (m + 1) = b1 := ⟨_, rfl⟩
    obtain ⟨f1, hf1⟩ : ∃ f1, cf n (m + 1) = f1 := ⟨_, rfl⟩
    obtain ⟨i0, hi0⟩ : ∃ i0, ci id m = i0 := ⟨_, rfl⟩
    obtain ⟨b0, hb0⟩ : ∃ b0, cb n m = b0 := ⟨_, rfl⟩
    obtain ⟨f0, hf0⟩ : ∃ f0, cf n m = f0 := ⟨_, rfl⟩
    rw [hi1] at hci hlw hr1
    rw [hb1] at hcb hcf hbg1
    rw [hf1] at hcf hbg1
    rw [hi0] at hci hlw ⊢
    rw [hb0] at hcb hlw hbg hr1 ⊢
    rw [hf0] at hcf hbg hr1 ⊢
    have hc := node_casts hci hcb hcf hbg.1 hbg.2 hlw.1 hbg1.2
    obtain ⟨Y, hY⟩ : ∃ Y, min 2 (b0 - 2 * i1) = Y := ⟨_, rfl⟩
    obtain ⟨Z, hZ⟩ : ∃ Z, b0 - 2 * i1 = Z := ⟨_, rfl⟩
    obtain ⟨X, hX⟩ : ∃ X, 2 * (f0 + i1) = X := ⟨_, rfl⟩
    rw [hX, hY, hZ] at hc
    rw [hX, hY] at hr1
    have HE := Lib.hid hc
    have HE3 := Lib.hid (⟨hc.2.2.2.2.2.1, hc.2.2.2.2.2.2.1, hc.2.2.2.2.1⟩ : wrap64 (i1 : Int) = (i1 : Int) ∧ wrap64 (b1 : Int) = (b1 : Int) ∧ wrap64 ((f0 : Int) + (b1 : Int)) = (f1 : Int))
    clear hc hX hY hZ
    have HB := Lib.hid hb2
    have HR := Lib.hid hr1
    clear hb hr1 hb2 hnd
    clear hcb hcf hbg hbg1 hlw hh
    by_cases hone : b1 = 1
    · have hk : m + 1 = h := by
        rcases Nat.lt_or_ge (m + 1) h with h' | h'
        · rcases hmid h' with h0 | h0
          · omega
          · exact absurd (hb1.trans hone) h0
        · omega
      have hq : ((b1 : Int) == 1) = true := by simp [hone]
      subst hk
      clear hi1 hb1 hf1 hi0 hb0 hf0 hmid hend hci
      obtain ⟨e1, e2, e3, e4, e5, e6, e7, e8⟩ := HE.out
      go_wp2_with (at_builtin; refine Lib.wpList_append_run _ rfl _ _ _ _ rfl _ _ rfl rfl _ _ HR.out ?_; clear HR HE e1 e2 e3 e6 e8)
      go_ret
      exact ⟨A2, c2, rfl, HB.out⟩
    · have hk : m + 1 < h := by
        rcases Nat.lt_or_ge (m + 1) h with h' | h'
        · exact h'
        · obtain rfl : h = m + 1 := by omega
          exact absurd (hb1.symm.trans hend) hone
      have hq : ((b1 : Int) == 1) = false := by simp; omega
      have HI := Lib.hid (⟨hi1, hb1, hf1⟩ : ci id (m + 1) = i1 ∧ cb n (m + 1) = b1 ∧ cf n (m + 1) = f1)
      clear hi1 hb1 hf1 hi0 hb0 hf0 hmid hend hci
      obtain ⟨e1, e2, e3, e4, e5, e6, e7, e8⟩ := HE.out
      go_wp2_with (at_builtin; refine Lib.wpList_append_run _ rfl _ _ _ _ rfl _ _ rfl rfl _ _ HR.out ?_; clear HR HE e1 e2 e3 e6 e8)
      rw [HE3.out.1, HE3.out.2.2, HE3.out.2.1]
      clear e4 e5 e7 HE3
      go_roundw
      case rel => exact ⟨m + 1, A2, m + 1, c2, hk, by rw [HI.out.1], rfl, by rw [HI.out.2.2], by rw [HI.out.2.1], rfl, HB⟩
      case measure => simp [slLen]; omega
end Go.Proofs.YtgkfhihnfllmhaaGreatDoor
