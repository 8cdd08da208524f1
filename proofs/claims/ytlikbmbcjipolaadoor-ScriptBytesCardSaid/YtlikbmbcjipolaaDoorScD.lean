/-
  script: Decode.
-/
import Derived.Test.YtlikbmbcjipolaaDoorScB
import Derived.Test.YtlikbmbcjipolaaDoorCStr
import Derived.Test.YtlikbmbcjipolaaDoorHeldL
import Derived.Lib.BufferWrite
import Derived.Lib.SlBuf
import Derived.Lib.AppendZeros
namespace Go.Proofs.YtlikbmbcjipolaaDoor
set_option maxRecDepth 100000
open Go.RowKit Go.Sort
set_option linter.unusedVariables false
set_option linter.unusedSimpArgs false

/-- The three bytes at first. -/
def headC (t : List UInt8) : Array Value := #[.int .u8 (byteAt t 0 : Nat), .int .u8 (byteAt t 1 : Nat), .int .u8 (byteAt t 2 : Nat)]
theorem run_copy_head {P : Program} (w : World) (dT sT ty elem : TypeId) (g : Nat) (s : List UInt8) (t : TypeId)
    (hu : P.underlying dT = some (.slice elem)) (hs : (P.info? elem).map (·.size) = some 1) (hg : w.heap[g]? = some (.cells #[.int .u8 0, .int .u8 0, .int .u8 0] t (0, 0))) :
    (Builtin.copy_ #[dT, sT] ty #[.slice (some ⟨g, 0, none⟩) 3 3, .string ⟨s.toArray⟩]).run P w = .ok (goInt (min s.length 3 : Nat)) (w.setRow g (headC s)) := by
  have hlen : (Lib.byteCells (s.take 3)).length = min 3 s.length := by rw [Lib.byteCells_length, List.length_take]
  have hst := run_storeCells_at P g 0 t (Lib.byteCells (s.take 3)) 0 #[.int .u8 0, .int .u8 0, .int .u8 0] w hg (by rw [hlen]; show 0 + 0 + min 3 s.length ≤ 3; omega) (Lib.byteCells_one _)
  have hsz : (⟨s.toArray⟩ : ByteArray).size = s.length := by simp [ByteArray.size]
  have htk : List.take (min s.length 3) (List.map (fun b : UInt8 => Value.int IntKind.u8 (b.toNat : Int)) s) = Lib.byteCells (s.take 3) := by
    unfold Lib.byteCells
    rw [← List.map_take]
    congr 1
    rw [Nat.min_comm, ← List.take_eq_take_min]
  have hrow : (((#[.int .u8 0, .int .u8 0, .int .u8 0] : Array Value).toList.take (0 + 0) ++ Lib.byteCells (s.take 3)) ++ (#[.int .u8 0, .int .u8 0, .int .u8 0] : Array Value).toList.drop (0 + 0 + (Lib.byteCells (s.take 3)).length)).toArray = headC s := by
    match s with
    | [] => rfl
    | [_] => rfl
    | [_, _] => rfl
    | _ :: _ :: _ :: _ => rfl
  cases hq : P.info? elem with
  | none => simp [hq] at hs
  | some i =>
    rw [hrow] at hst
    have hm2 : (⟨s.toArray⟩ : ByteArray).size.min 3 = min s.length 3 := by rw [hsz]
    simp [Builtin.copy_, run_underlying hu, Builtin.lenOf, Builtin.firstCells, sizeOf, typeInfo, hq]
    rw [hm2, htk, hst]
    simp [Result.andThen]
theorem index_byte (l : List UInt8) (i : Nat) (h : i < l.length) (w : World) : (Instr.index 9 (.string ⟨l.toArray⟩) (.int .i64 (i : Int))).run Tryd.prog w = .ok (.int .u8 ((l.getD i 0).toNat : Int)) w := by
  have hsz : (⟨l.toArray⟩ : ByteArray).size = l.length := by simp [ByteArray.size]
  rw [run_index_string w 9 _ _ _ Tryd.underlying9, dif_pos ⟨by omega, by rw [hsz]; omega⟩]
  have e : l.getD i 0 = l[i] := by rw [List.getD_eq_getElem?_getD, List.getElem?_eq_getElem h]; rfl
  rw [e]
  rfl
/-- What bytes are told to be. -/
def ToldScript (t : List UInt8) (w : World) (e : Ending) (w' : World) : Prop := Below w.heap.size w w' ∧ ∃ A c, e = .returned (scriptV (kOf t) (nOf t) (rOf t) A (mvsOf t).length c) ∧ Moves w' w'.heap.size A (mvsOf t).length (mvsOf t)

/-- append, told by an equation, at a step of a region that draws its order. -/
theorem sc_append_eq {w w' : World} {ops : Array Oper} {o : Oper} {a : Act} {K : Act → World → Prop} {Q : Exit → Act → World → Prop} {E : Prop} (hgd : o.guard = none) (s x : Operand) {T : TypeId}
    (ho : o.op = .call { callee := .builtin .append, args := #[s, x], argTypes := #[T, T] }) {v1 v2 v : Value} (hs : a.eval s = v1) (hx : a.eval x = v2)
    (hr : (Builtin.append_ #[T, T] o.type #[v1, v2]).run Tryd.prog w = .ok v w') (h : K (a.put o.dst v) w') :
    if Region.wanted o (yielded ops a.tmps) = true then Oper.wp Tryd.prog o a w K Q else E := by
  have hw : Region.wanted o (yielded ops a.tmps) = true := by simp [Region.wanted, hgd]
  rw [if_pos hw]
  exact Lib.wp_append_run w s x _ _ ho _ _ hs hx _ _ hr h

theorem Moves.of_rowV {w wr : World} {B n c : Nat} {A : Option Addr} {l : List (Int × Bool)} (h : RowV w B A n c l wr) : Moves wr wr.heap.size A n l := moves_own h.own h.len

/-- What holds at each head of Decode's loop: the script's block, and the result's. -/
structure DecInv (w : World) (B rb sb : Nat) (k n r : Nat) (ms : List UInt8) (i : Nat) (l : List (Int × Bool)) (A : Option Addr) (c : Nat) (wr : World) : Prop where
  row : RowV w B A l.length c l wr
  said : l = (ms.take i).map (mvOf n)
  s : wr.heap[sb]? = some (.cells #[.int .i64 (k : Nat), .int .i64 (n : Nat), .int .i64 (r : Nat), .slice A l.length c] 24 (0, 0))
  res : wr.heap[rb]? = some (.cells #[.int .i64 0, .int .i64 0, .int .i64 0, .slice none 0 0] 24 (0, 0))

theorem script_result {tmps : Array Value} {w : World} {rb : Nat} {k n r : Int} {v : Value} (h2 : tmps.getD 2 undef = .pointer (some ⟨rb, 0, none⟩))
    (hr : w.heap[rb]? = some (.cells #[.int .i64 k, .int .i64 n, .int .i64 r, v] 24 (0, 0))) :
    (results Tryd.f12 tmps).run Tryd.prog w = .ok (.agg #[.int .i64 k, .int .i64 n, .int .i64 r, v]) w := by
  have c0 : w.cell? ⟨rb, 0, none⟩ = some (.int .i64 k) := by rw [cell_of_row w rb 0 _ _ _ hr]; rfl
  have c1 : w.cell? ⟨rb, 1, none⟩ = some (.int .i64 n) := by rw [cell_of_row w rb 1 _ _ _ hr]; rfl
  have c2 : w.cell? ⟨rb, 2, none⟩ = some (.int .i64 r) := by rw [cell_of_row w rb 2 _ _ _ hr]; rfl
  have c3 : w.cell? ⟨rb, 3, none⟩ = some v := by rw [cell_of_row w rb 3 _ _ _ hr]; rfl
  simp only [Array.getD_eq_getD_getElem?] at h2
  simp [results, Tryd.results12, go_sem, h2, c0, c1, c2, c3]

set_option maxHeartbeats 4000000 in
theorem scDecode_any (t : List UInt8) (ht : t.length ≤ 90000) (w : World) : Calls Tryd.prog 12 #[strV t] w (ToldScript t w) := by
  have hx0 := heap_alloc_new w (.cells #[.int .i64 0, .int .i64 0, .int .i64 0, .slice none 0 0] 24)
  have hb0 := (Below.refl w.heap.size w).alloc (Nat.le_refl _) (.cells #[.int .i64 0, .int .i64 0, .int .i64 0, .slice none 0 0] 24)
  obtain ⟨rb, hrb⟩ : ∃ rb, w.heap.size = rb := ⟨_, rfl⟩
  obtain ⟨w0, hw0⟩ : ∃ w0, w.alloc (.cells #[.int .i64 0, .int .i64 0, .int .i64 0, .slice none 0 0] 24) = w0 := ⟨_, rfl⟩
  have hs0 : w0.heap.size = rb + 1 := by rw [← hw0, World.size_alloc, hrb]
  rw [hw0, hrb] at hx0
  rw [hw0, hrb] at hb0
  have hx1 := heap_alloc_new w0 (.cells #[.int .u8 0, .int .u8 0, .int .u8 0] 59)
  have hb1 := hb0.alloc (by omega) (.cells #[.int .u8 0, .int .u8 0, .int .u8 0] 59)
  have hr1 := (Below.heap_alloc w0 (.cells #[.int .u8 0, .int .u8 0, .int .u8 0] 59) rb (by omega)).trans hx0
  obtain ⟨w1, hw1⟩ : ∃ w1, w0.alloc (.cells #[.int .u8 0, .int .u8 0, .int .u8 0] 59) = w1 := ⟨_, rfl⟩
  have hs1 : w1.heap.size = rb + 2 := by rw [← hw1, World.size_alloc, hs0]
  rw [hw1] at hx1 hb1 hr1
  rw [hs0] at hx1
  have hcp := run_copy_head (P := Tryd.prog) w1 47 9 3 5 (rb + 1) t 59 Tryd.underlying47 (by kernel_rfl) hx1
  obtain ⟨w2, hw2⟩ : ∃ w2, w1.setRow (rb + 1) (headC t) = w2 := ⟨_, rfl⟩
  have hs2 : w2.heap.size = rb + 2 := by rw [← hw2, setRow_size, hs1]
  have hx2 : w2.heap[rb + 1]? = some (.cells (headC t) 59 (0, 0)) := by rw [← hw2]; exact setRow_heap w1 (rb + 1) _ _ _ _ hx1
  have hr2 : w2.heap[rb]? = some (.cells #[.int .i64 0, .int .i64 0, .int .i64 0, .slice none 0 0] 24 (0, 0)) := by rw [← hw2, setRow_other _ _ _ _ (by omega)]; exact hr1
  have hb2 : Below rb w w2 := by
    refine ⟨by rw [← hw2]; exact hb1.os, by rw [← hw2]; exact hb1.tape, by rw [← hw2]; exact hb1.output, by rw [hs2]; omega, fun j hj => ?_⟩
    rw [← hw2, setRow_other _ _ _ _ (by omega)]
    exact hb1.block j hj
  rw [hw2] at hcp
  have c0 : w2.cell? ⟨rb + 1, 0, none⟩ = some (.int .u8 (byteAt t 0 : Nat)) := by rw [cell_of_row w2 (rb + 1) 0 _ _ _ hx2]; rfl
  have c1 : w2.cell? ⟨rb + 1, 1, none⟩ = some (.int .u8 (byteAt t 1 : Nat)) := by rw [cell_of_row w2 (rb + 1) 1 _ _ _ hx2]; rfl
  have c2 : w2.cell? ⟨rb + 1, 2, none⟩ = some (.int .u8 (byteAt t 2 : Nat)) := by rw [cell_of_row w2 (rb + 1) 2 _ _ _ hx2]; rfl
  have HB2 := Lib.hid hb2
  have HR2 := Lib.hid hr2
  have HS2 := Lib.hid hs2
  have hsz : (⟨t.toArray⟩ : ByteArray).size = t.length := by simp [ByteArray.size]
  have hxt : (⟨t.toArray⟩ : ByteArray).extract (min t.length 3) t.length = ⟨(t.drop 3).toArray⟩ := by
    rw [Lib.extract_eq]
    have e : t.drop (min t.length 3) = t.drop 3 := by
      by_cases h : t.length ≤ 3
      · rw [Nat.min_eq_left h, List.drop_eq_nil_of_le (Nat.le_refl _), List.drop_eq_nil_of_le h]
      · rw [Nat.min_eq_right (by omega)]
    simp [e]
    exact List.take_of_length_le (by rw [List.length_drop]; omega)
  have hm0 : (0 : Int) ≤ ((min t.length 3 : Nat) : Int) := by omega
  have hm1 : ((min t.length 3 : Nat) : Int) ≤ (t.length : Int) := by omega
  have hmn : mvsOf t = (t.drop 3).map (mvOf (nOf t)) := rfl
  have hkk := kOf_dims t
  have e0 : ((byteAt t 0 : Nat) : Int).tmod 6 = ((byteAt t 0 % 6 : Nat) : Int) := rfl
  have e1 : ((byteAt t 1 : Nat) : Int).tmod 8 = ((byteAt t 1 % 8 : Nat) : Int) := rfl
  have e2 : ((byteAt t 2 : Nat) : Int).tmod 6 = ((rOf t : Nat) : Int) := rfl
  have l0 : byteAt t 0 < 256 := UInt8.toNat_lt _
  have l1 : byteAt t 1 < 256 := UInt8.toNat_lt _
  have l2 : byteAt t 2 < 256 := UInt8.toNat_lt _
  have g0 : wrap64 ((byteAt t 0 % 6 : Nat) : Int) = ((byteAt t 0 % 6 : Nat) : Int) := by unfold wrap64; omega
  have HA0 := Lib.hid (show wrap64 ((byteAt t 0 % 6 : Nat) + 1 : Int) = ((kOf t : Nat) : Int) by clear g0; unfold kOf wrap64; omega)
  clear g0
  have HA1 := Lib.hid (show wrap64 ((byteAt t 1 % 8 : Nat) + 1 : Int) = ((nOf t : Nat) : Int) by unfold nOf wrap64; omega)
  have HI0 := Lib.hid (show wrap64 ((byteAt t 0 : Nat) : Int) = ((byteAt t 0 : Nat) : Int) by unfold wrap64; omega)
  have HI1 := Lib.hid (show wrap64 ((byteAt t 1 : Nat) : Int) = ((byteAt t 1 : Nat) : Int) by unfold wrap64; omega)
  have HI2 := Lib.hid (show wrap64 ((byteAt t 2 : Nat) : Int) = ((byteAt t 2 : Nat) : Int) by unfold wrap64; omega)
  have HKK := Lib.hid hkk
  have HMN := Lib.hid hmn
  have hml : (t.drop 3).length ≤ 90000 := by rw [List.length_drop]; omega
  have HFULL := Lib.hid (show ToldScript t w = fun e w' => Below w.heap.size w w' ∧ ∃ A c, e = .returned (scriptV (kOf t) (nOf t) (rOf t) A (mvsOf t).length c) ∧ Moves w' w'.heap.size A (mvsOf t).length (mvsOf t) from rfl)
  clear hb0 hx0 hx1 hb1 hr1 hw2 hx2 hs1 hr2 hb2 hkk hmn l0 l1 l2
  generalize kOf t = k at *
  generalize nOf t = n at *
  generalize rOf t = r at *
  generalize mvsOf t = mv at *
  generalize t.drop 3 = ms at *
  generalize byteAt t 0 % 6 = z0 at *
  generalize byteAt t 1 % 8 = z1 at *
  generalize byteAt t 0 = y0 at *
  generalize byteAt t 1 = y1 at *
  generalize byteAt t 2 = y2 at *
  have hi0 := HI0.out
  have hi1 := HI1.out
  have hi2 := HI2.out
  have ha0 := HA0.out
  have ha1 := HA1.out
  have HMS := Lib.hid (index_byte ms)
  have hmz : (⟨ms.toArray⟩ : ByteArray).size = ms.length := by simp [ByteArray.size]
  generalize (⟨ms.toArray⟩ : ByteArray) = MB at *
  unfold strV
  generalize hTB : (⟨t.toArray⟩ : ByteArray) = TB1 at *
  generalize min t.length 3 = mm at *
  generalize t.length = tl at *
  go_enter Tryd.func12, Tryd.ntmps12
  --M0
  go_wp2
  clear e0 e1 e2 c0 c1 c2 hcp hm0 hm1 hxt hi0 hi1 hi2 ha0 ha1 HA0 HA1 HI0 HI1 HI2 hs0
  obtain ⟨sb, hsb⟩ : ∃ sb, rb + 2 = sb := ⟨_, rfl⟩
  have hrs : rb < sb := by omega
  have HRS := Lib.hid hrs
  obtain ⟨w3, hw3⟩ : ∃ w3, w2.alloc (.cells #[.int .i64 (k : Nat), .int .i64 (n : Nat), .int .i64 (r : Nat), .slice none 0 0] 24) = w3 := ⟨_, rfl⟩
  have hI : DecInv w (sb + 1) rb sb k n r ms 0 [] none 0 w3 := by
    have hz : w3.heap.size = sb + 1 := by rw [← hw3, World.size_alloc, HS2.out]; omega
    refine ⟨⟨rfl, World.ownsRow_nil _ _ _ _, ?_, by omega, by omega⟩, rfl, ?_, ?_⟩
    · rw [hrb, ← hw3]; exact HB2.out.alloc (by rw [HS2.out]; omega) _
    · have h := heap_alloc_new w2 (.cells #[.int .i64 (k : Nat), .int .i64 (n : Nat), .int .i64 (r : Nat), .slice none 0 0] 24)
      rw [HS2.out] at h
      rw [← hw3, ← hsb]
      exact h
    · rw [← hw3]; exact (Below.heap_alloc w2 _ rb (by rw [HS2.out]; omega)).trans HR2.out
  have HI := Lib.hid hI
  rw [hw3]
  have HRB := Lib.hid hrb
  have HSB := Lib.hid hsb
  rw [hsb]
  clear hI hw3 HB2 HR2 HS2 hrs hsb hrb hw0 hs2
  go_loopw [29] (fun j wr => ∃ (i : Nat) (l : List (Int × Bool)) (A : Option Addr) (c : Nat), i ≤ ms.length ∧ j = .int .i64 i ∧ DecInv w (sb + 1) rb sb k n r ms i l A c wr) (fun j _ => ms.length - (intOf j).toNat)
  case atStart => exact ⟨0, [], none, 0, Nat.zero_le _, rfl, HI.out⟩
  case round =>
    obtain ⟨i, l, A, c, hin, rfl, hJ⟩ := hrel
    clear HI
    by_cases hlt : i < ms.length
    · have hii : (i : Int) < (ms.length : Int) := by omega
      have hi0 : (0 : Int) ≤ (i : Int) := by omega
      have hix := HMS.out i hlt
      have HDM := Lib.hid (fun w => decMv_any (ms.getD i 0) n HKK.out.2.2.1 HKK.out.2.2.2.1 w)
      have hsaid : (ms.take (i + 1)).map (mvOf n) = l ++ [mvOf n (ms.getD i 0)] := by
        rw [List.take_succ_eq_append_getElem hlt, List.map_append, hJ.said]
        have e : ms.getD i 0 = ms[i] := by rw [List.getD_eq_getElem?_getD, List.getElem?_eq_getElem hlt]; rfl
        rw [e]; rfl
      have hfew : l.length ≤ 90000 := by rw [hJ.said, List.length_map, List.length_take]; omega
      generalize mvOf n (ms.getD i 0) = x at *
      generalize ms.getD i 0 = b at *
      unfold moveV at HDM
      have hsw : sb < wr.heap.size := lt_of_block hJ.s
      have S0 : ∀ W : World, W.heap[sb]? = some (.cells #[.int .i64 (k : Nat), .int .i64 (n : Nat), .int .i64 (r : Nat), .slice A l.length c] 24 (0, 0)) → W.cell? ⟨sb, 1, none⟩ = some (.int .i64 (n : Nat)) ∧ W.cell? ⟨sb, 3, none⟩ = some (.slice A l.length c) := fun W h => ⟨by rw [cell_of_row W sb 1 _ _ _ h]; rfl, by rw [cell_of_row W sb 3 _ _ _ h]; rfl⟩
      have HS0 := Lib.hid (show wr.drew.cell? ⟨sb, 1, none⟩ = some (.int .i64 (n : Nat)) ∧ wr.drew.cell? ⟨sb, 3, none⟩ = some (.slice A l.length c) from S0 wr.drew hJ.s)
      have HKB := Lib.hid (show ∀ W, Below wr.drew.heap.size wr.drew W → W.heap[sb]? = some (.cells #[.int .i64 (k : Nat), .int .i64 (n : Nat), .int .i64 (r : Nat), .slice A l.length c] 24 (0, 0)) ∧ W.heap[rb]? = some (.cells #[.int .i64 0, .int .i64 0, .int .i64 0, .slice none 0 0] 24 (0, 0)) from fun W hb => ⟨(hb.block sb hsw).trans hJ.s, (hb.block rb (lt_of_block (w := wr) hJ.res)).trans hJ.res⟩)
      have HKR := Lib.hid (show ∀ W, Below wr.drew.heap.size wr.drew W → RowV w (sb + 1) A l.length c l W from fun W hb => ⟨rfl, (hJ.row.own.drew).kept (grown_of_old hb) (Classical.em _), hJ.row.bel.trans ((show Below wr.heap.size wr W from ⟨hb.os, hb.tape, hb.output, hb.size, hb.block⟩).mono hJ.row.bel.size), hJ.row.lo, Nat.le_trans hJ.row.hi hb.size⟩)
      have HS := Lib.hid S0
      have HFEW := Lib.hid hfew
      have HSAID := Lib.hid hsaid
      have HLT := Lib.hid hlt
      clear hJ hsaid hfew S0 hlt hsw
      go_wp2
      --M2
      refine region_heldL (L := 11) (S := (fun u => u.cell? ⟨sb, 1, none⟩ = some (.int .i64 (n : Nat)) ∧ u.cell? ⟨sb, 3, none⟩ = some (.slice A l.length c))) 12 rfl (by kernel_rfl) HS0.out (fun hHeld => ?_)
      refine heldL_take (n := 11) (i := 0) (oi := _) (v := ?v0) (dst := some 32) rfl rfl rfl (by kernel_rfl) (by kernel_rfl) (by kernel_rfl) (by kernel_rfl) (by kernel_rfl) (fun _ _ _ h => h) (Or.inl ⟨by rfl, ?hy0⟩) (by assumption) ?rest0
      case hy0 => intro u hSu; (try dsimp only at hSu); go_simp; try (with_reducible rfl)
      simp only [Act.put, List.setIfInBounds_toArray, List.set_cons_zero, List.set_cons_succ]
      refine heldL_take (n := 10) (i := 1) (oi := _) (v := ?v1) (dst := some 33) rfl rfl rfl (by kernel_rfl) (by kernel_rfl) (by kernel_rfl) (by kernel_rfl) (by kernel_rfl) (fun _ _ _ h => h) (Or.inl ⟨by rfl, ?hy1⟩) (by assumption) ?rest1
      case hy1 => intro u hSu; (try dsimp only at hSu); go_simp; try (with_reducible rfl)
      simp only [Act.put, List.setIfInBounds_toArray, List.set_cons_zero, List.set_cons_succ]
      refine heldL_take (n := 9) (i := 2) (oi := _) (v := ?v2) (dst := some 34) rfl rfl rfl (by kernel_rfl) (by kernel_rfl) (by kernel_rfl) (by kernel_rfl) (by kernel_rfl) (fun _ _ _ h => h) (Or.inl ⟨by rfl, ?hy2⟩) (by assumption) ?rest2
      case hy2 => intro u hSu; (try dsimp only at hSu); go_simp; try (with_reducible rfl)
      simp only [Act.put, List.setIfInBounds_toArray, List.set_cons_zero, List.set_cons_succ]
      refine heldL_take (n := 8) (i := 3) (oi := _) (v := ?v3) (dst := some 35) rfl rfl rfl (by kernel_rfl) (by kernel_rfl) (by kernel_rfl) (by kernel_rfl) (by kernel_rfl) (fun _ _ _ h => h) (Or.inl ⟨by rfl, ?hy3⟩) (by assumption) ?rest3
      case hy3 => intro u hSu; (try dsimp only at hSu); go_simp; try (with_reducible rfl)
      simp only [Act.put, List.setIfInBounds_toArray, List.set_cons_zero, List.set_cons_succ]
      refine heldL_take (n := 7) (i := 4) (oi := _) (v := ?v4) (dst := some 36) rfl rfl rfl (by kernel_rfl) (by kernel_rfl) (by kernel_rfl) (by kernel_rfl) (by kernel_rfl) (fun _ _ _ h => h) (Or.inl ⟨by rfl, ?hy4⟩) (by assumption) ?rest4
      case hy4 => intro u hSu; (try dsimp only at hSu); go_simp; try (with_reducible rfl)
      simp only [Act.put, List.setIfInBounds_toArray, List.set_cons_zero, List.set_cons_succ]
      refine heldL_take (n := 6) (i := 5) (oi := _) (v := ?v5) (dst := some 37) rfl rfl rfl (by kernel_rfl) (by kernel_rfl) (by kernel_rfl) (by kernel_rfl) (by kernel_rfl) (fun _ _ _ h => h) (Or.inl ⟨by rfl, ?hy5⟩) (by assumption) ?rest5
      case hy5 => intro u hSu; (try dsimp only at hSu); go_simp; try (with_reducible rfl)
      simp only [Act.put, List.setIfInBounds_toArray, List.set_cons_zero, List.set_cons_succ]
      refine heldL_take (n := 5) (i := 6) (oi := _) (v := ?v6) (dst := some 38) rfl rfl rfl (by kernel_rfl) (by kernel_rfl) (by kernel_rfl) (by kernel_rfl) (by kernel_rfl) (fun _ _ _ h => h) (Or.inl ⟨by rfl, ?hy6⟩) (by assumption) ?rest6
      case hy6 => intro u hSu; (try dsimp only at hSu); go_simp; try (with_reducible rfl)
      simp only [Act.put, List.setIfInBounds_toArray, List.set_cons_zero, List.set_cons_succ]
      refine heldL_step (n := 4) (i := 7) (o := _) rfl (by kernel_rfl) rfl (fun K hK => ?_)
      have HK2 := Lib.hid hK
      clear hK
      go_simp
      refine (HDM.out _).mono ?_
      rintro e w4 ⟨rfl, hb4⟩
      have HB4 := Lib.hid (HKB.out w4 hb4)
      have HS4 := Lib.hid (HS.out w4 HB4.out.1)
      have HR4 := Lib.hid (HKR.out w4 hb4)
      have HSA := Lib.hid (HS.out (w4.alloc (.cells #[.int .i64 x.1, .bool x.2] 40)) ((Below.heap_alloc w4 _ sb (lt_of_block HB4.out.1)).trans HB4.out.1))
      clear hb4
      obtain ⟨A6, c6, w6, hr6, hrow6, hk6⟩ := HR4.out.oneK x (by have := HFEW.out; omega)
      have hs6 := (hk6 sb (Nat.lt_succ_self sb)).trans HB4.out.1
      have hr6b := (hk6 rb (by have := HRS.out; omega)).trans HB4.out.2
      have HS6 := Lib.hid (And.intro (HS.out w6 hs6) (And.intro (frozen_of_row w6 sb 3 _ _ hs6) (And.intro hs6 hr6b)))
      have HRR := Lib.hid hr6
      have HROW := Lib.hid hrow6
      clear hr6 hrow6 hk6 hs6 hr6b
      go_simp
      refine HK2.out _ _ HS4.out (fun hHeld => ?_)
      clear HK2 K
      refine heldL_step (n := 3) (i := 8) (o := _) rfl (by kernel_rfl) rfl (fun K hK => ?_)
      have HK2 := Lib.hid hK
      clear hK
      go_simp
      refine HK2.out _ _ HSA.out (fun hHeld => ?_)
      clear HK2 K
      refine heldL_step (n := 2) (i := 9) (o := _) rfl (by kernel_rfl) rfl (fun K hK => ?_)
      have HK2 := Lib.hid hK
      clear hK
      refine sc_append_eq (by rfl) (.tmp 33) (.tmp 40) (by rfl) (by rfl) (by rfl) HRR.out ?_
      refine HK2.out _ _ HS6.out.1 (fun hHeld => ?_)
      clear HK2 K
      simp only [Act.put, List.setIfInBounds_toArray, List.set_cons_zero, List.set_cons_succ]
      refine heldL_step (n := 1) (i := 10) (o := _) rfl (by kernel_rfl) rfl (fun K hK => ?_)
      have HK2 := Lib.hid hK
      clear hK
      go_simp
      refine HK2.out _ _ HS6.out.1 (fun hHeld => ?_)
      clear HK2 K
      refine heldL_last (n := 0) (o := _) rfl (by kernel_rfl) (by kernel_rfl) (by decide) rfl (fun K hK => ?_)
      have HK2 := Lib.hid hK
      clear hK
      obtain ⟨⟨q1, q3⟩, qf, qb⟩ := HS6.out
      go_simp
      refine HK2.out _ _ ?_
      clear HK2
      go_wp2
      go_roundw
      case rel => 
        refine ⟨i + 1, l ++ [x], A6, c6, by have := HLT.out; omega, by go_num, ?_⟩
        have hrow := HROW.out
        refine ⟨⟨rfl, ?_, hrow.bel.setCell (p := ⟨sb, 3, none⟩) (show w.heap.size ≤ sb by have := HRS.out; have := HRB.out; omega) _, hrow.lo, by simpa using hrow.hi⟩, HSAID.out.symm, ?_, ?_⟩
        · rw [List.length_append]; exact ownsRow_setCell_below hrow.own (a := ⟨sb, 3, none⟩) (Nat.lt_succ_self sb) _
        · rw [List.length_append]; exact heap_setCell_same _ sb 3 _ _ (.slice A6 (l.length + 1) c6) qb.1
        · exact (heap_setCell_other w6 ⟨sb, 3, none⟩ rb _ (by have := HRS.out; show rb ≠ sb; omega)).trans qb.2
      case measure => simp [intOf]; omega
    · obtain rfl : i = ms.length := by omega
      have hii : ¬ (ms.length : Int) < (ms.length : Int) := by omega
      have hl : l = mv := by rw [hJ.said, List.take_of_length_le (Nat.le_refl _)]; exact HMN.out.symm
      subst hl
      have hs := hJ.s
      have hr := hJ.res
      have s0 : wr.cell? ⟨sb, 0, none⟩ = some (.int .i64 (k : Nat)) := by rw [cell_of_row wr sb 0 _ _ _ hs]; rfl
      have s1 : wr.cell? ⟨sb, 1, none⟩ = some (.int .i64 (n : Nat)) := by rw [cell_of_row wr sb 1 _ _ _ hs]; rfl
      have s2 : wr.cell? ⟨sb, 2, none⟩ = some (.int .i64 (r : Nat)) := by rw [cell_of_row wr sb 2 _ _ _ hs]; rfl
      have s3 : wr.cell? ⟨sb, 3, none⟩ = some (.slice A l.length c) := by rw [cell_of_row wr sb 3 _ _ _ hs]; rfl
      have r0 : wr.cell? ⟨rb, 0, none⟩ = some (.int .i64 0) := by rw [cell_of_row wr rb 0 _ _ _ hr]; rfl
      have r1 : wr.cell? ⟨rb, 1, none⟩ = some (.int .i64 0) := by rw [cell_of_row wr rb 1 _ _ _ hr]; rfl
      have r2 : wr.cell? ⟨rb, 2, none⟩ = some (.int .i64 0) := by rw [cell_of_row wr rb 2 _ _ _ hr]; rfl
      have r3 : wr.cell? ⟨rb, 3, none⟩ = some (.slice none 0 0) := by rw [cell_of_row wr rb 3 _ _ _ hr]; rfl
      have f0 := frozen_of_row wr rb 0 _ _ hr
      have f1 := frozen_of_row wr rb 1 _ _ hr
      have f2 := frozen_of_row wr rb 2 _ _ hr
      have f3 := frozen_of_row wr rb 3 _ _ hr
      have q1 := heap_setCell_same _ rb 0 _ _ (.int .i64 (k : Nat)) hr
      have q2 := heap_setCell_same _ rb 1 _ _ (.int .i64 (n : Nat)) q1
      have q3 := heap_setCell_same _ rb 2 _ _ (.int .i64 (r : Nat)) q2
      have q4 := heap_setCell_same _ rb 3 _ _ (.slice A l.length c) q3
      have hlo : w.heap.size ≤ rb := Nat.le_of_eq HRB.out
      have hbel : Below w.heap.size w ((((wr.setCell ⟨rb, 0, none⟩ (.int .i64 (k : Nat))).setCell ⟨rb, 1, none⟩ (.int .i64 (n : Nat))).setCell ⟨rb, 2, none⟩ (.int .i64 (r : Nat))).setCell ⟨rb, 3, none⟩ (.slice A l.length c)) := (((hJ.row.bel.setCell (p := ⟨rb, 0, none⟩) hlo _).setCell (p := ⟨rb, 1, none⟩) hlo _).setCell (p := ⟨rb, 2, none⟩) hlo _).setCell (p := ⟨rb, 3, none⟩) hlo _
      have hrb1 : rb < sb + 1 := by have := HRS.out; omega
      have hown := ownsRow_setCell_below (ownsRow_setCell_below (ownsRow_setCell_below (ownsRow_setCell_below hJ.row.own (a := ⟨rb, 0, none⟩) hrb1 (.int .i64 (k : Nat))) (a := ⟨rb, 1, none⟩) hrb1 (.int .i64 (n : Nat))) (a := ⟨rb, 2, none⟩) hrb1 (.int .i64 (r : Nat))) (a := ⟨rb, 3, none⟩) hrb1 (.slice A l.length c)
      have HFI := Lib.hid (And.intro q4 (And.intro hbel (moves_own hown rfl)))
      clear hJ hs hr q1 q2 q3 q4 hbel hown
      go_wp2
      --M3
      refine bodyPost_ret (script_result rfl HFI.out.1) rfl ?_
      rw [HFULL.out]
      exact ⟨HFI.out.2.1, A, c, rfl, HFI.out.2.2⟩
end Go.Proofs.YtlikbmbcjipolaaDoor
