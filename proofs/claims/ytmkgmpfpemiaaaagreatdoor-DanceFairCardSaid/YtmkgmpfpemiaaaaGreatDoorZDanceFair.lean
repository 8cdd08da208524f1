/-
  Who is fair ends: if all are picked at least once in any so many picks, and there are so many times as many picks as there can be steps, all are at their ends. No conditions.
-/
import Derived.Test.YtmkgmpfpemiaaaaGreatDoorQN4
import Derived.Test.YtmkgmpfpemiaaaaGreatDoorQN2
import Derived.Test.YtmkgmpfpemiaaaaGreatDoorQH7
import Derived.Test.YtmkgmpfpemiaaaaGreatDoorQJ2
import Derived.Lib.AppendZeros
import Derived.Test.YtmkgmpfpemiaaaaGreatDoorQN6
import Derived.Test.YtmkgmpfpemiaaaaGreatDoorRows
import Derived.Test.YtmkgmpfpemiaaaaGreatDoorCards
import Derived.Test.YtmkgmpfpemiaaaaGreatDoorTie
import Derived.WalkKit
import Derived.ProofKit
import Derived.OpenShut
import Derived.ChangeOld
import Derived.Below
import Derived.ChangeSame
import Derived.ChangeVars
import Derived.JoinedOf
import Derived.RowKitTokens
import Derived.LaidLaws
import Derived.LaidHandle
import Derived.Stop.Joined
import Derived.SevenTiedAt
import Derived.Lib.LaidTab
import Derived.Lib.LaidIn
import Derived.Test.YtmkgmpfpemiaaaaGreatDoorQA
import Derived.ChangeMaps5
import Derived.Test.YtmkgmpfpemiaaaaGreatDoorQM2
import Derived.Test.YtmkgmpfpemiaaaaGreatDoorQN5
import Derived.Test.YtmkgmpfpemiaaaaGreatDoorQE
import Derived.Test.YtmkgmpfpemiaaaaGreatDoorQN
namespace Go.Proofs.YtmkgmpfpemiaaaaGreatDoor
set_option maxRecDepth 100000
open Go.RowKit Go.Shelf Go.Sort
set_option linter.unusedVariables false
set_option linter.unusedSimpArgs false

/-- Picks in a row that was laid behind the machine. -/
theorem at_run_later {w w3 wr : World} {c : Nat} {m : Mach} {cells0 : List Int} (h : At w c m w3) (hb : Below w3.heap.size w3 wr) (hbig : MBig cells0 m) {A : Option Addr} {n cap : Nat} (l : List Int)
    (ho : wr.ownsRow w3.heap.size 3 1 (.slice A n cap) n (l.map (Value.int .i64))) (hl : n ≤ 100000) :
    Calls Tryz.prog 39 #[.pointer (some ⟨c, 0, none⟩), .slice A n cap] wr fun e w' => e = .returned (.int .i64 ((runM 20000 l m).1 : Int)) ∧ At w c (runM 20000 l m).2 w' := by
  obtain ⟨S, X, rfl, hC, hB⟩ := h
  have hC2 := hC.below hb (Nat.le_refl _)
  have hB2 := hB.trans (hb.mono hB.size)
  have hI := Ints.of_own ho
  have e := hI.len
  subst e
  refine (krun_any hC2 hB2.size hbig A cap l (fun i hi => ?_) hl).mono fun e w' ⟨he, hm⟩ => ⟨he, At.moved rfl hC2 hB2 hm⟩
  obtain ⟨b, off, e, hlt, hx⟩ := hI.row (by omega)
  subst e
  refine ⟨b, off, rfl, hlt, fun hs => ?_, hx i hi⟩
  have h1 := (hC.slo b hs).2
  have h2 := (ho.lt b rfl).1
  omega

theorem kSize_few {k n : Nat} (k1 : 1 ≤ k) (k6 : k ≤ 6) (n1 : 1 ≤ n) (n5 : n ≤ 5) : kSize k n ≤ 400 := by
  have h : ((List.range 6).all fun i => (List.range 5).all fun j => decide (kSize (i + 1) (j + 1) ≤ 400)) = true := by decide +kernel
  rw [List.all_eq_true] at h
  have h2 := h (k - 1) (List.mem_range.2 (by omega))
  rw [List.all_eq_true] at h2
  have h3 := h2 (n - 1) (List.mem_range.2 (by omega))
  rw [show k - 1 + 1 = k by omega, show n - 1 + 1 = n by omega, decide_eq_true_eq] at h3
  exact h3

/-- How far the picks came: whole blocks, and a beginning of one more. -/
structure Pk (w3 : World) (n : Nat) (L : List (List Nat)) (cur : List Nat) (A : Option Addr) (m c : Nat) (wr : World) : Prop where
  bl : FBl n L
  lt : ∀ t ∈ cur, t < n
  row : RowB w3 A m c (picksL (L.flatten ++ cur)) wr
  len : m = 2 * n * L.length + cur.length
theorem Pk.one {w3 wr : World} {n m c : Nat} {L : List (List Nat)} {cur : List Nat} {A : Option Addr} (h : Pk w3 n L cur A m c wr) (x : Nat) (hx : x < n) (hm : m ≤ 100000) :
    ∃ A' n' c' w', (Builtin.append_ #[43, 43] 43 #[.slice A m c, .slice (some ⟨wr.heap.size, 0, none⟩) 1 1]).run Tryz.prog (wr.alloc (.cells #[.int .i64 (x : Int)] 3)) = .ok (.slice A' n' c') w' ∧ Pk w3 n L (cur ++ [x]) A' n' c' w' := by
  obtain ⟨A', n', c', w', h1, h2⟩ := h.row.one (x : Int) hm
  refine ⟨A', n', c', w', h1, h.bl, fun t ht => ?_, ?_, ?_⟩
  · rcases List.mem_append.1 ht with ht | ht
    · exact h.lt t ht
    · rw [List.mem_singleton.1 ht]; exact hx
  · have e : picksL (L.flatten ++ (cur ++ [x])) = picksL (L.flatten ++ cur) ++ [(x : Int)] := by unfold picksL; simp
    rw [e]
    exact h2
  · have e := h2.len
    rw [List.length_append, h.row.len] at e
    have := h.len
    rw [List.length_append]
    simp at e ⊢
    omega
theorem Pk.nil (w3 : World) (n : Nat) : Pk w3 n [] [] none 0 0 w3 := ⟨FBl.nil n, fun t ht => absurd ht (by simp), ⟨rfl, World.ownsRow_nil _ _ _ _, Below.refl _ _⟩, rfl⟩
theorem bits3 (y : Int) : ∃ v : Nat, v ≤ 3 ∧ bits BinOp.and IntKind.u64 y 3 = (v : Int) := by
  have h : (BitVec.ofInt 64 y &&& BitVec.ofInt 64 3).toNat ≤ 3 := by
    rw [BitVec.toNat_and]
    exact Nat.le_trans Nat.and_le_right (by decide)
  refine ⟨(BitVec.ofInt 64 y &&& BitVec.ofInt 64 3).toNat, h, ?_⟩
  exact wrapU_small _ (Nat.le_trans h (by decide))
theorem fair_pick (z : Int) {q n : Nat} (hq : q < n) (hn : n ≤ 5) : ∃ x : Nat, x < n ∧ (wrap64 ((q : Int) + wrap64 (bits BinOp.and IntKind.u64 (z / 2 ^ (q % 8)) 3))).tmod (n : Int) = (x : Int) := by
  obtain ⟨v, hv, e⟩ := bits3 (z / 2 ^ (q % 8))
  rw [e]
  have e1 : wrap64 ((v : Nat) : Int) = (v : Int) := wrap_small (by omega) (by omega)
  have e2 : wrap64 ((q : Int) + (v : Int)) = ((q + v : Nat) : Int) := (wrap_small (by omega) (by omega)).trans (by omega)
  rw [e1, e2]
  exact ⟨(q + v) % n, Nat.mod_lt _ (by omega), rfl⟩
/-- One more pick, of a number that a walk has in its own words. -/
theorem Pk.some {w3 wr : World} {n m c : Nat} {L : List (List Nat)} {cur : List Nat} {A : Option Addr} (h : Pk w3 n L cur A m c wr) (x : Nat) (e : Int) (he : e = (x : Int)) (hx : x < n) (hm : m ≤ 100000) :
    ∃ A' c' w', (Builtin.append_ #[43, 43] 43 #[.slice A m c, .slice (some ⟨wr.heap.size, 0, none⟩) 1 1]).run Tryz.prog (wr.alloc (.cells #[.int .i64 e] 3)) = .ok (.slice A' (m + 1) c') w' ∧ Pk w3 n L (cur ++ [x]) A' (m + 1) c' w' := by
  subst he
  obtain ⟨A', n', c', w', h1, h2⟩ := h.one x hx hm
  have e1 := h2.len
  rw [List.length_append] at e1
  obtain rfl : n' = m + 1 := by
    have := h.len
    simp at e1
    omega
  exact ⟨A', c', w', h1, h2⟩
theorem wrap_next {q n : Nat} (h : q < n) (hn : n ≤ 5) : wrap64 ((q : Int) + 1) = ((q + 1 : Nat) : Int) := (wrap_small (by omega) (by omega)).trans (by omega)
theorem next_less {q n : Nat} (h : q < n) : n - (intOf (Value.int IntKind.i64 ((q + 1 : Nat) : Int))).toNat < n - (intOf (Value.int IntKind.i64 (q : Int))).toNat := by
  show n - (((q + 1 : Nat) : Int)).toNat < n - ((q : Int)).toNat
  rw [Int.toNat_natCast, Int.toNat_natCast]
  omega
theorem fair_most {sz r1 N : Nat} (h : 3 * sz * (r1 + 1) = N) (hN : N ≤ 3 * 400 * 3) (hr : r1 < 3) : wrap64 (wrap64 (3 * (sz : Int)) * wrap64 ((r1 : Int) + 1)) = (N : Int) := by
  have h1 : 3 * sz * 1 ≤ 3 * sz * (r1 + 1) := Nat.mul_le_mul_left _ (by omega)
  have e1 : wrap64 (3 * (sz : Int)) = 3 * (sz : Int) := wrap_small (by omega) (by omega)
  have e2 : wrap64 ((r1 : Int) + 1) = (r1 : Int) + 1 := wrap_small (by omega) (by omega)
  have e : 3 * (sz : Int) * ((r1 : Int) + 1) = ((3 * sz * (r1 + 1) : Nat) : Int) := by push_cast; rfl
  rw [e1, e2, e, h]
  exact wrap_small (by omega) (by omega)
theorem fair_plus {N : Nat} (hN : N ≤ 3 * 400 * 3) : wrap64 ((N : Int) + 1) = (N : Int) + 1 := wrap_small (by omega) (by omega)
theorem fair_sum {N w n Q : Nat} (h : (N + 1) * (w + n) = Q) (hQ : Q ≤ 54015) : wrap64 ((w : Int) + (n : Int)) = (w : Int) + (n : Int) := by
  have h1 : 1 * (w + n) ≤ (N + 1) * (w + n) := Nat.mul_le_mul_right _ (by omega)
  exact wrap_small (by omega) (by omega)
theorem fair_times {N w n Q : Nat} (h : (N + 1) * (w + n) = Q) (hQ : Q ≤ 54015) : wrap64 (((N : Int) + 1) * ((w : Int) + (n : Int))) = (Q : Int) := by
  have e : ((N : Int) + 1) * ((w : Int) + (n : Int)) = (((N + 1) * (w + n) : Nat) : Int) := by push_cast; rfl
  rw [e, h]
  exact wrap_small (by omega) (by omega)
theorem Pk.shut {w3 wr : World} {n m c : Nat} {L : List (List Nat)} {cur : List Nat} {A : Option Addr} (h : Pk w3 n L cur A m c wr) (h1 : cur.length = 2 * n) (h3 : ∀ t, t < n → cur.getD (n + t) 0 = t) : Pk w3 n (L ++ [cur]) [] A m c wr := by
  refine ⟨h.bl.more h1 h.lt h3, fun t ht => absurd ht (by simp), ?_, ?_⟩
  · have e : (L ++ [cur]).flatten ++ [] = L.flatten ++ cur := by simp
    rw [e]
    exact h.row
  · have := h.len
    rw [List.length_append, Nat.mul_add]
    simp
    omega
def slen : Value → Nat
  | .slice _ n _ => n
  | _ => 0
theorem second_at {cur : List Nat} {n q : Nat} (h : cur.length = n + q) (h3 : ∀ t, t < q → cur.getD (n + t) 0 = t) : ∀ t, t < q + 1 → (cur ++ [q]).getD (n + t) 0 = t := fun t ht => by
  rw [List.getD_eq_getElem?_getD]
  by_cases e : t = q
  · subst e
    rw [List.getElem?_append_right (by omega), h, Nat.sub_self]
    rfl
  · rw [List.getElem?_append_left (by omega), ← List.getD_eq_getElem?_getD]
    exact h3 t (by omega)

theorem fair_end {w3 wr : World} {n m c N w y Q : Nat} {L : List (List Nat)} {A : Option Addr} (hp : Pk w3 n L [] A m c wr) (hn : 1 ≤ n) (hn5 : n ≤ 5) (hQ : (N + 1) * (w + n) = Q) (h : Q ≤ m) (hw : w = n + y) :
    N < L.length ∧ isFair (picksL L.flatten) n ((w : Int) + 2 * (n : Int)) ∧ Ints .i64 wr wr.heap.size A m (picksL L.flatten) := by
  have hm : m = 2 * n * L.length := hp.len
  have h1 : (N + 1) * (2 * n) ≤ (N + 1) * (w + n) := Nat.mul_le_mul_left _ (by omega)
  rw [hQ, Nat.mul_comm (N + 1)] at h1
  refine ⟨?_, ⟨by omega, by omega, by omega, ?_⟩, ?_⟩
  · rw [hm] at h
    have h2 : 2 * n * (N + 1) ≤ 2 * n * L.length := Nat.le_trans h1 h
    exact Nat.le_of_mul_le_mul_left h2 (by omega)
  · have e1 : ((n : Int)).toNat = n := Int.toNat_natCast n
    have e2 : ((w : Int) + 2 * (n : Int)).toNat = w + 2 * n := by omega
    rw [e1, e2]
    exact fair_more (fbl_fair (by omega) hp.bl) (by omega)
  · have h2 := Ints.of_own hp.row.own
    rwa [List.append_nil] at h2
theorem fair_run {w w3 wr w' : World} {k n r m c c2 : Nat} {L : List (List Nat)} {A : Option Addr} {m0 : Mach} (hF : Flo w c k n r 0 m0 w3) (hp : Pk w3 n L [] A m c2 wr) (hb : Below wr.heap.size wr w') (hm : m ≤ 100000) :
    Calls Tryz.prog 39 #[.pointer (some ⟨c, 0, none⟩), .slice A m c2] w' fun e w4 => e = .returned (.int .i64 ((runM 20000 (picksL L.flatten) m0).1 : Int)) ∧ At w c (sweepM L.flatten m0) w4 := by
  have ho := own_tags hp.row.own (keeps_below hb (Nat.le_refl _)) .none (by simp)
  rw [List.append_nil] at ho
  have h := at_run_later hF.at_ (hp.row.bel.trans (hb.mono hp.row.bel.size)) hF.big _ ho hm
  rwa [run_sweep] at h
theorem int_lo (n : Nat) : -9223372036854775808 ≤ (n : Int) := by omega
theorem int_hi {n : Nat} (h : n ≤ 100) : (n : Int) ≤ 9223372036854775807 := by omega
theorem int_lo2 (w n : Nat) : -9223372036854775808 ≤ (w : Int) + 2 * (n : Int) := by omega
theorem int_hi2 {w n : Nat} (h : w ≤ 54015) (hn : n ≤ 5) : (w : Int) + 2 * (n : Int) ≤ 9223372036854775807 := by omega
theorem fair_wide {w n : Nat} (hn : n ≤ 5) (hw : w ≤ 54015) : wrap64 (2 * (n : Int)) = 2 * (n : Int) ∧ wrap64 ((w : Int) + 2 * (n : Int)) = (w : Int) + 2 * (n : Int) := ⟨wrap_small (by omega) (by omega), wrap_small (by omega) (by omega)⟩

set_option maxHeartbeats 2000000 in
theorem danceFair_any {w : World} (H : DanceOK) (HC : CodeOK) (HF : FairOK) (hw : DW w) (k n rounds window seed : Int) :
    Calls Tryz.prog 14 #[.int .i64 k, .int .i64 n, .int .i64 rounds, .int .i64 window, .int .u64 seed] w fun e w' => e = .returned (.bool true) ∧ Below w.heap.size w w' := by
  have HDn := Lib.hid (danced_any H hw)
  obtain ⟨k1, hk1, hk6, hK⟩ := kind_nat k
  obtain ⟨x, hx, _, hN⟩ := pick_nat n 5 (by decide) (by decide)
  obtain ⟨r1, hr1, _, hR⟩ := pick_nat rounds 3 (by decide) (by decide)
  obtain ⟨y, hy, _, hY⟩ := pick_nat window 6 (by decide) (by decide)
  obtain ⟨n1, hn1⟩ : ∃ n1, n1 = x + 1 := ⟨_, rfl⟩
  obtain ⟨wi, hwi⟩ : ∃ wi, wi = n1 + y := ⟨_, rfl⟩
  have e1 : wrap64 (1 + (x : Int)) = (n1 : Int) := (wrap_small (by omega) (by omega)).trans (by omega)
  have HE1 := Lib.hid e1
  clear e1
  have e2 : wrap64 ((n1 : Int) + (y : Int)) = (wi : Int) := (wrap_small (by omega) (by omega)).trans (by omega)
  have HE2 := Lib.hid e2
  clear e2
  have d : Dims k1 n1 r1 := ⟨hk1, hk6, by omega, by omega, by omega⟩
  have HK := Lib.hid hK
  have HN := Lib.hid hN
  have HR := Lib.hid hR
  have HY := Lib.hid hY
  have HFl := Lib.hid (fun w1 (hb : Below w.heap.size w w1) => floor_nil H hw hb d)
  have HSz := Lib.hid (fun w1 (hb : Below w.heap.size w w1) => size_any HC (hw.old hb) d)
  have hsz := kSize_few hk1 hk6 d.n1 (by omega)
  have HDone := Lib.hid (fun (m : Mach) (h : Dn k1 n1 r1 0 m) (L : List (List Nat)) (hL : FBl n1 L) (hs : 3 * kSize k1 n1 * (r1 + 1) < m.steps + L.length) => dn_blocks d h L (fbl_mem hL) hs)
  generalize kSize k1 n1 = sz at *
  have hN2 : 3 * sz * (r1 + 1) ≤ 3 * 400 * 3 := Nat.mul_le_mul (Nat.mul_le_mul_left 3 hsz) (by omega)
  obtain ⟨N, hNe⟩ : ∃ N, 3 * sz * (r1 + 1) = N := ⟨_, rfl⟩
  rw [hNe] at HDone hN2
  obtain ⟨Q, hQ⟩ : ∃ Q, (N + 1) * (wi + n1) = Q := ⟨_, rfl⟩
  --M0
  have q1 : N + 1 ≤ 3601 := by
    clear hQ hNe HDone
    omega
  --M1
  have q2 : wi + n1 ≤ 15 := by
    clear hQ hNe hN2 q1 HDone
    omega
  --M2
  have hQ2 : Q ≤ 54015 := hQ ▸ Nat.le_trans (Nat.mul_le_mul q1 q2) (by decide)
  --M3
  have HD := Lib.hid d
  have HNum := Lib.hid (And.intro hx (And.intro hr1 (And.intro hy (And.intro hn1 (And.intro hwi (And.intro hNe (And.intro hN2 (And.intro hQ hQ2))))))))
  clear q1 q2 hK hN hR hY d hx hr1 hy hn1 hwi hNe hN2 hQ hQ2 hsz hk1 hk6
  --M4
  go_enter Tryz.func14, Tryz.ntmps14
  go_wp2_with fail
  refine HDn.out.mono ?_
  rintro e w1 ⟨rfl, hb1⟩
  have HB1 := Lib.hid hb1
  clear hb1 HDn
  go_wp2_with fail
  refine (HK.out _).mono ?_
  rintro e w2 ⟨rfl, rfl⟩
  go_wp2_with fail
  refine (HN.out _).mono ?_
  rintro e w2 ⟨rfl, rfl⟩
  go_wp2_with fail
  refine (HR.out _).mono ?_
  rintro e w2 ⟨rfl, rfl⟩
  have e1 := HE1.out
  --MA
  go_wp2_with fail
  refine (HY.out _).mono ?_
  rintro e w2 ⟨rfl, rfl⟩
  have e2 := HE2.out
  --MB
  go_wp2_with fail
  refine (HFl.out _ HB1.out).mono ?_
  rintro e w2 ⟨c, m0, rfl, hF, hm0⟩
  have HF2 := Lib.hid hF
  clear hF HB1 HFl hm0
  --MC
  go_wp2_with fail
  refine (HSz.out _ HF2.out.bel).mono ?_
  rintro e w3 ⟨rfl, hb3⟩
  have HF3 := Lib.hid (HF2.out.keep hb3)
  clear hb3 HF2 HSz
  --MD
  go_wp2
  --ME
  have hN := HNum.out
  obtain ⟨hx5, hr3, hy6, hn1x, hwi, hNe, hN2, hQ, hQ2⟩ := hN
  have hn5 : n1 ≤ 5 := hn1x ▸ hx5
  have hwM := fair_most hNe hN2 hr3
  have f1 := fair_plus hN2
  have f2 := fair_sum hQ hQ2
  have f3 := fair_times hQ hQ2
  rw [hwM]
  have HNum2 := Lib.hid hQ2
  have HWi := Lib.hid hwi
  have HY6 := Lib.hid (show y < 6 from hy6)
  have HN5 := Lib.hid (show n1 ≤ 5 from hn5)
  have HQ := Lib.hid hQ
  clear hr3 hwi hNe hN2 hQ hQ2 hwM HNum hx5 hn1x hn5 hy6
  --MF
  go_loopw [4, 13] (fun s v wr => ∃ (L : List (List Nat)) (z : Int) (A : Option Addr) (m c : Nat), s = .int .u64 z ∧ v = .slice A m c ∧ Hid (Pk w3 n1 L [] A m c wr ∧ m ≤ 60000)) (fun _ v _ => 60000 - slen v)
  case atStart => exact ⟨[], seed, none, 0, 0, rfl, rfl, Pk.nil w3 n1, by decide⟩
  case round =>
    obtain ⟨L, z, A, m, c2, rfl, rfl, hP⟩ := hrel
    by_cases hlt : m < Q
    · have hkn : (m : Int) < (Q : Int) := Int.ofNat_lt.2 hlt
      have HM5 := Lib.hid (Nat.le_trans (Nat.le_of_lt hlt) HNum2.out)
      have HP := Lib.hid hP.out.1
      have HLt := Lib.hid hlt
      clear hP hlt
      go_wp2
      clear f1 f2 f3 hkn e1 e2
      --MG
      go_loopw [4, 13, 55] (fun s v j wr => ∃ (q : Nat) (cur : List Nat) (z : Int) (A : Option Addr) (m2 c : Nat), s = .int .u64 z ∧ v = .slice A m2 c ∧ j = .int .i64 q ∧ Hid (Pk w3 n1 L cur A m2 c wr ∧ cur.length = q ∧ q ≤ n1 ∧ m2 = m + q)) (fun _ _ j _ => n1 - (intOf j).toNat)
      --MG2
      case atStart => exact ⟨0, [], z, A, m, c2, rfl, rfl, rfl, HP.out, rfl, Nat.zero_le _, rfl⟩
      --MG3
      case round =>
        obtain ⟨q, cur, z, A, m2, c2, rfl, rfl, rfl, hP⟩ := hrel
        by_cases hlt : q < n1
        · have hkn : (q : Int) < (n1 : Int) := Int.ofNat_lt.2 hlt
          obtain ⟨hp, hcl, hqn, hm2⟩ := hP.out
          obtain ⟨x', hx', hE⟩ := fair_pick z hlt HN5.out
          have hmm : m2 ≤ 100000 := Nat.le_trans (Nat.le_of_eq hm2) (Nat.le_trans (Nat.add_le_add HM5.out (Nat.le_trans hqn HN5.out)) (by decide))
          obtain ⟨A', c', w', hr, hp'⟩ := hp.some x' _ hE hx' hmm
          have HR := Lib.hid hr
          have HP2 := Lib.hid hp'
          have HC2 := Lib.hid (And.intro hcl (And.intro hlt hm2))
          clear hp hcl hqn hm2 hr hp' hE hx' hmm hP hlt HP
          --MH
          go_wp2_with (at_builtin; refine Lib.wpList_append_run _ rfl _ _ _ _ rfl _ _ rfl rfl _ _ HR.out ?_; clear HR)
          --MI
          all_goals
            obtain ⟨hcl, hlt, hm2⟩ := HC2.out
            rw [wrap_next hlt HN5.out]
            exact ⟨⟨q + 1, cur ++ [x'], _, A', m2 + 1, c', rfl, rfl, rfl, HP2.out, by rw [List.length_append, hcl]; rfl, hlt, by rw [hm2]; rfl⟩, next_less hlt⟩
        · have hkn : ¬ (q : Int) < (n1 : Int) := fun h => hlt (Int.ofNat_lt.1 h)
          obtain ⟨hp, hcl, hqn, hm2⟩ := hP.out
          obtain rfl : n1 = q := Nat.le_antisymm (Nat.le_of_not_lt hlt) hqn
          have HP1 := Lib.hid hp
          have HC1 := Lib.hid (And.intro hcl hm2)
          clear hp hcl hqn hm2 hP hlt HP
          --MJ
          go_wp2
          go_loopw [13, 80] (fun v j wr => ∃ (t : Nat) (cu : List Nat) (A : Option Addr) (m3 c : Nat), v = .slice A m3 c ∧ j = .int .i64 t ∧ Hid (Pk w3 n1 L cu A m3 c wr ∧ cu.length = n1 + t ∧ t ≤ n1 ∧ m3 = m + n1 + t ∧ ∀ u, u < t → cu.getD (n1 + u) 0 = u)) (fun _ j _ => n1 - (intOf j).toNat)
          case atStart => exact ⟨0, cur, A, m2, c2, rfl, rfl, HP1.out, HC1.out.1, Nat.zero_le _, HC1.out.2, fun u hu => absurd hu (Nat.not_lt_zero _)⟩
          case round =>
            obtain ⟨t, cu, A, m3, c3, rfl, rfl, hP⟩ := hrel
            obtain ⟨hp, hcl, htn, hm3, hsec⟩ := hP.out
            by_cases hlt : t < n1
            · have hkn : (t : Int) < (n1 : Int) := Int.ofNat_lt.2 hlt
              have hmm : m3 ≤ 100000 := Nat.le_trans (Nat.le_of_eq hm3) (Nat.le_trans (Nat.add_le_add (Nat.add_le_add HM5.out HN5.out) (Nat.le_trans htn HN5.out)) (by decide))
              obtain ⟨A', c', w', hr, hp'⟩ := hp.some t (t : Int) rfl hlt hmm
              have HR := Lib.hid hr
              have HP2 := Lib.hid hp'
              have HC2 := Lib.hid (And.intro hcl (And.intro hlt (And.intro hm3 (second_at hcl hsec))))
              clear hp hcl htn hm3 hsec hr hp' hmm hP hlt HP1 HC1
              go_wp2_with (at_builtin; refine Lib.wpList_append_run _ rfl _ _ _ _ rfl _ _ rfl rfl _ _ HR.out ?_; clear HR)
              --MK
              obtain ⟨hcl, hlt, hm3, hsec⟩ := HC2.out
              rw [wrap_next hlt HN5.out]
              exact ⟨⟨t + 1, cu ++ [t], A', m3 + 1, c', rfl, rfl, HP2.out, by rw [List.length_append, hcl]; rfl, hlt, by rw [hm3]; rfl, hsec⟩, next_less hlt⟩
            · have hkn : ¬ (t : Int) < (n1 : Int) := fun h => hlt (Int.ofNat_lt.1 h)
              obtain rfl : n1 = t := Nat.le_antisymm (Nat.le_of_not_lt hlt) htn
              have HP2 := Lib.hid (hp.shut (by rw [hcl, Nat.two_mul]) hsec)
              have HC2 := Lib.hid hm3
              clear hp hcl htn hm3 hsec hP hlt HP1 HC1
              go_wp2
              --ML
              have hn := HD.out.n1
              have h1 := HC2.out
              have h2 := HM5.out
              have h3 := HN5.out
              refine ⟨⟨L ++ [cu], _, A, m3, c3, rfl, rfl, HP2.out, by omega⟩, ?_⟩
              show 60000 - m3 < 60000 - m
              omega
    · have hkn : ¬ (m : Int) < (Q : Int) := fun h => hlt (Int.ofNat_lt.1 h)
      have hp := hP.out.1
      have hn1 := HD.out.n1
      obtain ⟨hN1, hf, hI⟩ := fair_end hp hn1 HN5.out HQ.out (Nat.le_of_not_lt hlt) HWi.out
      have hE := HDone.out m0 HF3.out.dn L hp.bl (Nat.lt_of_lt_of_le hN1 (Nat.le_add_left _ _))
      have hm6 : m ≤ 100000 := Nat.le_trans hP.out.2 (by decide)
      have HRun := Lib.hid (fun wr' (hb : Below wr.heap.size wr wr') => fair_run HF3.out hp hb hm6)
      have hw54 : wi ≤ 54015 := by
        have h1 := HWi.out
        have h2 := HY6.out
        have h3 := HN5.out
        clear f1 f2 f3 e1 e2 HRun hE hf hI hN1 hp hlt hm6
        omega
      obtain ⟨g1, g2⟩ := fair_wide HN5.out hw54
      have HFair := Lib.hid (HF.fair (A := A) (cap := c2) (m := m) (l := picksL L.flatten) (n := n1) (window := (wi : Int) + 2 * (n1 : Int)) (w := wr) hI (Nat.le_trans hm6 (by decide)) (int_lo n1) (int_hi (Nat.le_trans HN5.out (by decide))) (int_lo2 wi n1) (int_hi2 hw54 HN5.out))
      have HIs := Lib.hid hf
      have HE := Lib.hid hE
      have HB := Lib.hid hp.row.bel
      have HEn := Lib.hid (fun w5 (hA : At w c (sweepM L.flatten m0) w5) => at_ends hA (by rw [hE.dn.plen]; exact HD.out.n16))
      rw [hE.ends] at HEn
      clear hp hlt hm6 hw54 hP hE hf hI hN1
      --MX
      go_wp2_with fail
      refine HFair.out.mono ?_
      rintro e w4 ⟨b, rfl, hb, hb4⟩
      obtain rfl : b = true := hb.2 HIs.out
      have HR4 := Lib.hid (HRun.out w4 hb4)
      clear hb hb4 HRun HFair
      generalize (runM 20000 (picksL L.flatten) m0).1 = rv at *
      go_wp2_with fail
      --MY
      refine HR4.out.mono ?_
      rintro e w5 ⟨rfl, hA⟩
      have HA := Lib.hid hA
      have HEn5 := Lib.hid (HEn.out w5 hA)
      clear hA HR4 HEn
      go_wp2_with fail
      refine HEn5.out.mono ?_
      rintro e w6 ⟨rfl, hg6⟩
      have HB6 := Lib.hid (HA.out.grow hg6).bel
      clear hg6 HEn5
      go_wp2
      go_ret
      exact ⟨rfl, HB6.out⟩
end Go.Proofs.YtmkgmpfpemiaaaaGreatDoor

namespace Go.Proofs.YtmkgmpfpemiaaaaGreatDoor.danceFair
open Go.ChangeShapes Go.WideShapes Go.ChangeAt Go.RowKit
set_option linter.unusedVariables false

theorem own : ownKnob Tryz.prog.godebug = none := by kernel_rfl
theorem laidOut : laidOutB Tryz.prog = true := by kernel_rfl
theorem tsize : Tryz.prog.types.size = 238 := by kernel_rfl

theorem et : Tryz.prog.globalNamed "errors.errorType" = some 1 := by kernel_rfl
theorem rt : (Tryz.prog.cutTypes.find? (·.1 == "internal/reflectlite.rtype")).map (·.2) = some 191 := by kernel_rfl
theorem oneRow : ((List.range 238).filter fun t => Tryz.prog.rowNamed t [101, 114, 114, 111, 114]) = [29] := by kernel_rfl

/-- What the listed variables give the walk. -/
theorem cw_of {W : World} (h : laidMetH Tryz.prog Rows.danceFairRow.laid W) : CW W := by
  have h' : laidMet Tryz.prog (Rows.danceFairRow.laid.filter fun x => x.2.handleName?.isNone) W ∧ handlesMet Tryz.prog (Rows.danceFairRow.laid.filter fun x => x.2.handleName?.isSome) W := h
  exact cw_of_laid h'.1 (List.mem_filter.2 ⟨.tail _ (.tail _ (.tail _ (.head _))), rfl⟩)
theorem handle_of_laid {W : World} (h : laidMetH Tryz.prog Rows.danceFairRow.laid W) : ErrVar W := by
  have h' : laidMet Tryz.prog (Rows.danceFairRow.laid.filter fun x => x.2.handleName?.isNone) W ∧ handlesMet Tryz.prog (Rows.danceFairRow.laid.filter fun x => x.2.handleName?.isSome) W := h
  obtain ⟨name, u, ty, e1, e2, e3, e4, e5⟩ := h'.2 ("errors.errorType", Rows.laid_errors_errorType) (List.mem_filter.2 ⟨.tail _ (.tail _ (.head _)), rfl⟩)
  have en : name = [101, 114, 114, 111, 114] := (Option.some.inj e1).symm
  subst en
  obtain rfl := Option.some.inj (rt.symm.trans e2)
  have hm : ty ∈ (List.range 238).filter fun t => Tryz.prog.rowNamed t [101, 114, 114, 111, 114] := List.mem_filter.2 ⟨List.mem_range.2 (by rw [← tsize]; exact e3), e4⟩
  rw [oneRow] at hm
  obtain rfl := List.mem_singleton.1 hm
  have hh : typeHandle Tryz.prog 29 = .pointer (some ⟨4, 29, none⟩) := by kernel_rfl
  rw [hh] at e5
  have := World.var?_cell et e5 0
  unfold ErrVar
  simpa using this
theorem tz_of {W : World} (h : laidMetH Tryz.prog Rows.danceFairRow.laid W) : TzVar W := by
  have h' : laidMet Tryz.prog (Rows.danceFairRow.laid.filter fun x => x.2.handleName?.isNone) W ∧ handlesMet Tryz.prog (Rows.danceFairRow.laid.filter fun x => x.2.handleName?.isSome) W := h
  exact tz_of_laid h'.1 (List.mem_filter.2 ⟨.tail _ (.head _), rfl⟩)

/-- So many blocks has the settled world. -/
noncomputable def low : Nat := (World.holding Tryz.prog default ⟨#[], #[], []⟩).heap.size
def put (o : Obj) (cs : Array Value) : Obj := match o with
  | .cells _ t frozen => .cells cs t frozen
  | o => o
def tab (k : IntKind) (zs : List Int) : Array Value := (zs.map fun z => Value.int k z).toArray
/-- A world that meets the condition. -/
noncomputable def laidWorld (os : Os) : World :=
  let w0 := World.holding Tryz.prog os ⟨#[], #[], []⟩
  { w0 with heap := ((((w0.heap.modify 1 (put · #[.iface 191 (.agg #[.pointer (some ⟨4, 29, none⟩)])])).modify 0 (put · formCells)).modify 2 (put · (tab .u8 [0, 1, 28, 2, 29, 14, 24, 3, 30, 22, 20, 15, 25, 17, 4, 8, 31, 27, 13, 23, 21, 19, 16, 7, 26, 12, 18, 6, 11, 5, 10, 9]))).modify 3 (put · (tab .u8 [0, 1, 56, 2, 57, 49, 28, 3, 61, 58, 42, 50, 38, 29, 17, 4, 62, 47, 59, 36, 45, 43, 51, 22, 53, 39, 33, 30, 24, 18, 12, 5, 63, 55, 48, 27, 60, 41, 37, 16, 46, 35, 44, 21, 52, 32, 23, 11, 54, 26, 40, 15, 34, 20, 31, 10, 25, 14, 19, 9, 13, 8, 7, 6]))) }
theorem laidWorld_met (os : Os) (args : Array Value) : laidMetH Tryz.prog Rows.danceFairRow.laid ((laidWorld os).forCall (fun _ _ => 0) ⟨#[], args, []⟩).memory :=
  laidMetH_of_parts (LaidIn.of_run [0, 2, 3] 8 (by kernel_rfl) (by kernel_rfl) (by kernel_rfl) (by kernel_rfl)).met (by kernel_rfl)

/-- The walk. -/
theorem walk (a0 : Int) (a1 : Int) (a2 : Int) (a3 : Int) (a4 : Int) (w : World) (hw : CW w) (hg : ErrVar w) (ht : TzVar w)  :
    Calls Tryz.prog 14 #[.int .i64 a0, .int .i64 a1, .int .i64 a2, .int .i64 a3, .int .u64 a4] w fun e w' => e = .returned (.bool true) ∧ Below w.heap.size w w' := by
  exact danceFair_any danceOK codeOK fair_ok ⟨hw, hg, ht⟩ a0 a1 a2 a3 a4

set_option maxRecDepth 100000 in
theorem lifted (os : Os) (started : os.Started) (H : Type) (enc : TypeId × Value → H) :
    ReturnsInHanded {} Tryz.checked os 14 .any (fun w args => (Rows.danceFairSpec.pre enc Tryz.prog Tryz.f14 [] false w args ∧ laidMetH Tryz.prog Rows.danceFairRow.laid w) ∧ sizedMet enc Tryz.prog Tryz.f14 (OpenSpec.ofChange Rows.danceFairSpec) false w args)
      (Rows.danceFairSpec.post enc Tryz.prog Tryz.f14 false true false false) := by
  refine returnsInHanded_of_change_and (C := Tryz.checked) (X := fun w _ => laidMetH Tryz.prog Rows.danceFairRow.laid w) (fun _ _ _ hh h => h.of_heap hh) own started (by kernel_rfl) Tryz.func14
    (ChangeSpec.witness_at (enc := enc) (C := Tryz.checked) (os := os) (X := fun w _ => laidMetH Tryz.prog Rows.danceFairRow.laid w) false (laidWorld os) #[.int .i64 0, .int .i64 0, .int .i64 0, .int .i64 0, .int .u64 0] 8 rfl (by kernel_rfl) (by kernel_rfl) (by kernel_rfl) (by kernel_rfl) (by kernel_rfl) (laidWorld_met os _)) ?_
  intro W base args ds gs before hval0 hW _ _ hL _
  have hval : ∀ (j : Nat) t v, Tryz.f14.params[j]? = some t → args[j]? = some v → Value.okWide Tryz.prog W .any base t v := hval0
  have hW' := hW
  obtain ⟨p, q, hA0, hV0, rfl, hfz, hnd⟩ := hW
  have hA : DataW.TrodAll enc Tryz.prog W 0 (fun _ => true) true Tryz.f14.params.toList args.toList ds p := hA0
  have hV : DataW.TrodVars enc Tryz.prog W (fun _ => true) [] gs q := hV0
  rw [Tryz.params14] at hA hval
  obtain ⟨v0, vs0, d0, ds0, p0, q0, hargs, rfl, rfl, h0, r0⟩ := trodAll_cons hA
  obtain ⟨v1, vs1, d1, ds1, p1, q1, rfl, rfl, rfl, h1, r1⟩ := trodAll_cons r0
  obtain ⟨v2, vs2, d2, ds2, p2, q2, rfl, rfl, rfl, h2, r2⟩ := trodAll_cons r1
  obtain ⟨v3, vs3, d3, ds3, p3, q3, rfl, rfl, rfl, h3, r3⟩ := trodAll_cons r2
  obtain ⟨v4, vs4, d4, ds4, p4, q4, rfl, rfl, rfl, h4, r4⟩ := trodAll_cons r3
  obtain ⟨rfl, rfl, rfl⟩ := trodAll_nil r4
  obtain rfl : args = #[v0, v1, v2, v3, v4] := by cases args; simp_all
  obtain ⟨rfl, rfl⟩ : gs = [] ∧ q = [] := by
    cases gs with
    | nil => exact ⟨rfl, hV⟩
    | cons g r => exact absurd hV (by intro h; cases h)
  obtain ⟨a0, rfl, rfl, rfl, w0⟩ := open_int Tryz.underlying3 (hval 0 3 v0 rfl rfl) h0
  obtain ⟨a1, rfl, rfl, rfl, w1⟩ := open_int Tryz.underlying3 (hval 1 3 v1 rfl rfl) h1
  obtain ⟨a2, rfl, rfl, rfl, w2⟩ := open_int Tryz.underlying3 (hval 2 3 v2 rfl rfl) h2
  obtain ⟨a3, rfl, rfl, rfl, w3⟩ := open_int Tryz.underlying3 (hval 3 3 v3 rfl rfl) h3
  obtain ⟨a4, rfl, rfl, rfl, w4⟩ := open_int Tryz.underlying57 (hval 4 57 v4 rfl rfl) h4
  have hw := cw_of hL
  have hg := handle_of_laid hL
  have ht := tz_of hL
  clear hA0 hval0
  refine (walk a0 a1 a2 a3 a4 W hw hg ht ).mono fun e W' ⟨he, bel⟩ => ?_
  subst he
  exact ⟨_, rfl, _, _, _, [], _, [], hW', trodAll_mk1 (shut_bool Tryz.underlying4 _), (trodAll_cons_mk (shut_int Tryz.underlying3 w0) (trodAll_cons_mk (shut_int Tryz.underlying3 w1) (trodAll_cons_mk (shut_int Tryz.underlying3 w2) (trodAll_cons_mk (shut_int Tryz.underlying3 w3) (trodAll_cons_mk (shut_int Tryz.underlying57 w4) trodAll_mk0))))), rfl, bel.frame _, fun h => by cases h⟩

theorem over : Rows.DanceFairSaid :=
  OpenClaim.holds_of_wide 14 Tryz.f14 rfl rfl rfl rfl rfl rfl rfl ⟨rfl, rfl, rfl, rfl, rfl⟩ rfl rfl rfl rfl rfl (by kernel_rfl) Tryz.func14 (by kernel_rfl)
    (of_decide_eq_true (by kernel_rfl)) (by unfold Func.isWrapper; first | (rw [if_pos (by decide +kernel)]; kernel_rfl) | (rw [if_neg (by decide +kernel)]; exact ⟨rfl, rfl⟩))
    (fun os started H enc _ => lifted os started H enc)

/-- The given statement: the tied card. -/
theorem proved : Rows.DanceFairCardSaid :=
  Claim7.holds_tied_plain_at .later [] [.data, .data, .handle, .data] true (true, "249a662f9a3a8032d6ea0f3d6c35fd3df0894eb53275f03e084101a5f9d50289") true
    over (fun _ h => by cases h) (by kernel_rfl) (fun _ h => by cases h) danceFair_row_tie rfl ⟨rfl, rfl⟩ (by kernel_rfl) rfl
    (fun f fn hf hfn => by
      obtain rfl : f = 14 := Option.some.inj ((show Tryz.prog.funcNamed "quadrille/quadrillekeep.DanceFair" = some 14 by kernel_rfl).symm.trans hf) |>.symm
      obtain rfl : fn = Tryz.f14 := (Option.some.inj (Tryz.func14.symm.trans hfn)).symm
      refine ⟨by kernel_rfl, fun j t ht => ?_⟩
      rw [Tryz.params14] at ht
      have hm : t ∈ [3, 3, 3, 3, 57] := by
        have := Array.mem_of_getElem? ht
        simpa using this
      have hall : ([3, 3, 3, 3, 57].all fun u => !Tryz.prog.wantsStandIn u) = true := by kernel_rfl
      exact (show Tryz.prog.wantsStandIn t = false by simpa using List.all_eq_true.1 hall t hm))
    (by kernel_rfl)
#print axioms proved
end Go.Proofs.YtmkgmpfpemiaaaaGreatDoor.danceFair
