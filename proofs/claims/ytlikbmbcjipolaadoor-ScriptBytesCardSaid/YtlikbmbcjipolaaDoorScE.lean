/-
  script: Encode.
-/
import Derived.Test.YtlikbmbcjipolaaDoorScA
import Derived.Test.YtlikbmbcjipolaaDoorCBuild
namespace Go.Proofs.YtlikbmbcjipolaaDoor
set_option maxRecDepth 100000
open Go.RowKit Go.Sort
set_option linter.unusedVariables false
set_option linter.unusedSimpArgs false

/-- What a script is told to be as bytes. -/
def ToldBytes (k n r : Int) (l : List (Int × Bool)) (w : World) (e : Ending) (w' : World) : Prop := Below w.heap.size w w' ∧
  ((e = .returned (.tuple #[strV (bytesOf k n r l), .nilIface]) ∧ rightSc k n r l) ∨ (e = .returned (.tuple #[strV [], .iface 25 (.int .i64 1)]) ∧ ¬ rightSc k n r l))

theorem sc_tb_old {B b : Nat} {l : List UInt8} {w w' : World} (h : TB B b l w) (hb : Below w.heap.size w w') : TB B b l w' := by
  have key : ∀ p, Lib.BuilderAt 50 5 B b p (Lib.byteCells l) w → Lib.BuilderAt 50 5 B b p (Lib.byteCells l) w' := fun p hp => by
    have hlt := hp.lt
    obtain ⟨hB, v, hh, hown, hne⟩ := hp
    exact ⟨hB, v, (hb.block b hlt).trans hh, hown.kept (grown_of_old hb) (Classical.em _), hne⟩
  rcases h with h | h
  · exact .inl (key _ h)
  · exact .inr (key _ h)

theorem index_int3 (a b c : Int) : ∀ (i : Nat), i < 3 → ∀ w : World, (Instr.index 51 (.agg #[.int .i64 a, .int .i64 b, .int .i64 c]) (.int .i64 (i : Int))).run Tryd.prog w = .ok (.int .i64 ([a, b, c].getD i 0)) w
  | 0, _ => fun _ => by kernel_rfl
  | 1, _ => fun _ => by kernel_rfl
  | 2, _ => fun _ => by kernel_rfl
  | n + 3, h => absurd h (by omega)

theorem head_take (k n r : Int) (i : Nat) (h : i < 3) : (headOf k n r).take (i + 1) = (headOf k n r).take i ++ [UInt8.ofNat ([k - 1, n - 1, r].getD i 0).toNat] := by
  rcases (by omega : i = 0 ∨ i = 1 ∨ i = 2) with rfl | rfl | rfl <;> rfl
theorem bytes_take (l : List (Int × Bool)) (i : Nat) (h : i < l.length) : (l.take (i + 1)).map byteOf = (l.take i).map byteOf ++ [byteOf (l.getD i default)] := by
  rw [List.take_succ_eq_append_getElem h, List.map_append, getM h]; rfl

set_option maxHeartbeats 4000000 in
theorem scEncode_any (k n r : Int) (l : List (Int × Bool)) (A : Option Addr) (len c : Nat) (w : World) (hM : Moves w w.heap.size A len l) (hlen : len ≤ 900000) :
    Calls Tryd.prog 7 #[scriptV k n r A len c] w (ToldBytes k n r l w) := by
  have hl := hM.len
  have hb0 := (Below.refl w.heap.size w).alloc (Nat.le_refl _) (.cells #[.int .i64 k, .int .i64 n, .int .i64 r, .slice A len c] 24)
  have hx0 := heap_alloc_new w (.cells #[.int .i64 k, .int .i64 n, .int .i64 r, .slice A len c] 24)
  obtain ⟨xb, hxb⟩ : ∃ xb, w.heap.size = xb := ⟨_, rfl⟩
  obtain ⟨w1, hw1⟩ : ∃ w1, w.alloc (.cells #[.int .i64 k, .int .i64 n, .int .i64 r, .slice A len c] 24) = w1 := ⟨_, rfl⟩
  rw [hw1, hxb] at hx0
  rw [hw1] at hb0
  have c0 : w1.cell? ⟨xb, 0, none⟩ = some (.int .i64 k) := by rw [cell_of_row w1 xb 0 _ _ _ hx0]; rfl
  have c1 : w1.cell? ⟨xb, 1, none⟩ = some (.int .i64 n) := by rw [cell_of_row w1 xb 1 _ _ _ hx0]; rfl
  have c2 : w1.cell? ⟨xb, 2, none⟩ = some (.int .i64 r) := by rw [cell_of_row w1 xb 2 _ _ _ hx0]; rfl
  have c3 : w1.cell? ⟨xb, 3, none⟩ = some (.slice A len c) := by rw [cell_of_row w1 xb 3 _ _ _ hx0]; rfl
  have HB0 := Lib.hid (show Below w.heap.size w w1 from hb0)
  have HX := Lib.hid hx0
  have HM1 := Lib.hid (hM.old hb0)
  have HR := Lib.hid (scRight_any k n r l A len c w1 (hM.old hb0) (by omega))
  have hbox : ∀ K : Value → World → Prop, K (.pointer (some ⟨xb, 0, none⟩)) w1 → K (.pointer (some ⟨w.heap.size, 0, none⟩)) (w.alloc (.cells #[.int .i64 k, .int .i64 n, .int .i64 r, .slice A len c] 24)) := fun K hK => by rw [hw1, hxb]; exact hK
  clear hM hb0 hx0
  unfold scriptV at HR ⊢
  go_enter Tryd.func7, Tryd.ntmps7
  go_wp2_with fail
  refine HR.out.mono ?_
  rintro e w2 ⟨b, rfl, hb, hb2⟩
  have HB2 := Lib.hid (show Below w.heap.size w w2 from HB0.out.trans (hb2.mono HB0.out.size))
  have HX2 := Lib.hid ((hb2.block xb (lt_of_block HX.out)).trans HX.out)
  have HM2 := Lib.hid (HM1.out.old hb2)
  clear hb2 HR c0 c1 c2 c3 hbox HX HM1
  have HBX := Lib.hid (show Below xb w w2 by rw [← hxb]; exact HB2.out)
  have HXB := Lib.hid hxb
  clear hw1 hxb
  cases b with
  | false =>
    have hno : ¬ rightSc k n r l := fun h => by have := hb.2 h; cases this
    clear hb
    go_wp2
    go_ret2
    exact ⟨HB2.out, .inr ⟨rfl, hno⟩⟩
  | true =>
    have hr : rightSc k n r l := hb.1 rfl
    clear hb
    have HRR := Lib.hid hr
    have hT0 : TB w2.heap.size w2.heap.size [] (w2.alloc (.cells #[.pointer none, .slice none 0 0] 50)) := Lib.fresh_isBuilder _ _ w2
    have hb3 := (Below.refl w2.heap.size w2).alloc (Nat.le_refl _) (.cells #[.pointer none, .slice none 0 0] 50)
    have HH := Lib.hid (And.intro hT0 hb3)
    have hxw := lt_of_block HX2.out
    have hxn : xb ≠ w2.heap.size := by omega
    have c0 : w2.cell? ⟨xb, 0, none⟩ = some (.int .i64 k) := by rw [cell_of_row w2 xb 0 _ _ _ HX2.out]; rfl
    have c1 : w2.cell? ⟨xb, 1, none⟩ = some (.int .i64 n) := by rw [cell_of_row w2 xb 1 _ _ _ HX2.out]; rfl
    have c2 : w2.cell? ⟨xb, 2, none⟩ = some (.int .i64 r) := by rw [cell_of_row w2 xb 2 _ _ _ HX2.out]; rfl
    have HV := Lib.hid (show ∀ i, i < 3 → 0 ≤ [k - 1, n - 1, r].getD i 0 ∧ [k - 1, n - 1, r].getD i 0 < 256 from fun i hi => by
      obtain ⟨g1, g2, g3, g4, g5, g6, _⟩ := HRR.out
      rcases (by omega : i = 0 ∨ i = 1 ∨ i = 2) with rfl | rfl | rfl
      · show 0 ≤ k - 1 ∧ k - 1 < 256; omega
      · show 0 ≤ n - 1 ∧ n - 1 < 256; omega
      · show 0 ≤ r ∧ r < 256; omega)
    have hw1 : wrap64 (k - 1) = k - 1 := by have := HRR.out.1; have := HRR.out.2.1; unfold wrap64; omega
    have hw2 : wrap64 (n - 1) = n - 1 := by have := HRR.out.2.2.1; have := HRR.out.2.2.2.1; clear hw1; unfold wrap64; omega
    have HIX := Lib.hid (index_int3 (k - 1) (n - 1) r)
    have HTK := Lib.hid (head_take k n r)
    have HHL := Lib.hid (show (headOf k n r).length = 3 from rfl)
    have HHO := Lib.hid (show ∀ i, ((headOf k n r).take i).length ≤ 3 from fun i => by rw [List.length_take, HHL.out]; omega)
    clear hT0 hb3 hr
    go_wp2
    clear hw1 hw2 c0 c1 c2
    go_loopw [22] (fun j wr => ∃ i : Nat, i ≤ 3 ∧ j = .int .i64 i ∧ TB w2.heap.size w2.heap.size ((headOf k n r).take i) wr ∧ Below w2.heap.size w2 wr) (fun j _ => 3 - (intOf j).toNat)
    case atStart => exact ⟨0, Nat.zero_le _, rfl, HH.out.1, HH.out.2⟩
    case round =>
      obtain ⟨i, hi, rfl, hT, hb⟩ := hrel
      clear HH
      by_cases hlt : i < 3
      · have hii : (i : Int) < 3 := by omega
        have hix := HIX.out i hlt
        have hv := HV.out i hlt
        have hst := HTK.out i hlt
        have hho := HHO.out i
        generalize [k - 1, n - 1, r].getD i 0 = z at *
        have hu : IntKind.u8.wrap z = ((UInt8.ofNat z.toNat).toNat : Int) := by rw [u8_wrap hv.1 hv.2, u8_of (by omega)]; omega
        generalize UInt8.ofNat z.toNat = y at *
        have HWB := Lib.hid (writeByte_any w2.heap.size w2.heap.size ((headOf k n r).take i) y wr hT (by omega) hb.size)
        rw [← hst] at HWB
        have HB := Lib.hid hb
        clear hb hT hst hv hho
        go_wp2_with fail
        refine HWB.out.mono ?_
        rintro e w4 ⟨rfl, ht, hw⟩
        have HF := Lib.hid (And.intro ht (HB.out.trans hw.1))
        clear ht hw HWB HB
        go_wp2
        go_roundw
        case rel => exact ⟨i + 1, by omega, by go_num, HF.out.1, HF.out.2⟩
        case measure => simp [intOf]; omega
      · obtain rfl : i = 3 := by omega
        have hii : ¬ (3 : Int) < 3 := by omega
        rw [List.take_of_length_le (by rw [HHL.out]; exact Nat.le_refl _)] at hT
        have hxr := (hb.block xb hxw).trans HX2.out
        have c3 : wr.cell? ⟨xb, 3, none⟩ = some (.slice A len c) := by rw [cell_of_row wr xb 3 _ _ _ hxr]; rfl
        have HH := Lib.hid (And.intro hT hb)
        have HM3 := Lib.hid HM2.out
        clear hT hb hxr HTK HIX HV
        go_wp2
        go_loopw [32] (fun j wr => ∃ i : Nat, i ≤ len ∧ j = .int .i64 i ∧ TB w2.heap.size w2.heap.size (headOf k n r ++ (l.take i).map byteOf) wr ∧ Below w2.heap.size w2 wr) (fun j _ => len - (intOf j).toNat)
        case atStart => exact ⟨0, Nat.zero_le _, rfl, by rw [List.take_zero, List.map_nil, List.append_nil]; exact HH.out.1, HH.out.2⟩
        case round =>
          obtain ⟨i, hi, rfl, hT, hb⟩ := hrel
          clear HH c3
          by_cases hlt : i < len
          · have hii : (i : Int) < (len : Int) := by omega
            obtain ⟨ab, off, rfl, hab, hc⟩ := (HM2.out.below hb).row (by omega)
            obtain ⟨m0, m1⟩ := hc i hlt
            have habw : ab < wr.heap.size := Nat.lt_of_lt_of_le hab hb.size
            have habn : ab ≠ wr.heap.size := by omega
            have hst := bytes_take l i (by omega)
            have hmv : 0 ≤ (l.getD i default).1 ∧ (l.getD i default).1 < n := HRR.out.2.2.2.2.2.2 _ (by rw [← getM (by omega : i < l.length)]; exact List.getElem_mem _)
            have hsz := hb.size
            have hln : (headOf k n r ++ (l.take i).map byteOf).length ≤ 900003 := by rw [List.length_append, List.length_map, List.length_take, HHL.out]; omega
            obtain ⟨x, hx⟩ : ∃ x, l.getD i default = x := ⟨_, rfl⟩
            rw [hx] at m0 m1 hst hmv
            obtain ⟨t, p⟩ := x
            dsimp only at m0 m1 hmv
            have hbx := (Below.refl wr.heap.size wr).alloc (Nat.le_refl _) (.cells #[.int .i64 t, .bool p] 40)
            have HBX2 := Lib.hid (hb.alloc hsz (.cells #[.int .i64 t, .bool p] 40))
            have HTX := Lib.hid (sc_tb_old hT hbx)
            have HEM := Lib.hid (fun w => encMv_any (t, p) n hmv.1 hmv.2 HRR.out.2.2.2.1 w)
            unfold moveV at HEM
            have hst2 : headOf k n r ++ (l.take (i + 1)).map byteOf = (headOf k n r ++ (l.take i).map byteOf) ++ [byteOf (t, p)] := by rw [hst, List.append_assoc]
            have HST := Lib.hid hst2
            clear hc hb hT hst hst2 hx hbx hab hmv
            generalize headOf k n r ++ (l.take i).map byteOf = L at *
            dsimp only at HEM
            go_wp2_with fail
            refine (HEM.out _).mono ?_
            rintro e w4 ⟨rfl, hb4⟩
            have HWB := Lib.hid (writeByte_any w2.heap.size w2.heap.size L (byteOf (t, p)) w4 (sc_tb_old HTX.out hb4) (by omega) (Nat.le_trans HBX2.out.size hb4.size))
            have HB4 := Lib.hid (HBX2.out.trans (hb4.mono HBX2.out.size))
            clear hb4 HEM HTX
            go_wp2_with fail
            refine HWB.out.mono ?_
            rintro e w5 ⟨rfl, ht, hw⟩
            have HF := Lib.hid (show TB w2.heap.size w2.heap.size (headOf k n r ++ (l.take (i + 1)).map byteOf) w5 ∧ Below w2.heap.size w2 w5 by rw [HST.out]; exact ⟨ht, HB4.out.trans hw.1⟩)
            clear ht hw HWB HB4
            go_wp2
            go_roundw
            case rel => exact ⟨i + 1, by omega, by go_num, HF.out.1, HF.out.2⟩
            case measure => simp [intOf]; omega
          · obtain rfl : i = len := by omega
            rw [List.take_of_length_le (by omega)] at hT
            have hii : ¬ (i : Int) < (i : Int) := by omega
            have HS := Lib.hid (Tryd.Builder_String_any w2.heap.size w2.heap.size (bytesOf k n r l) wr hT hb.size)
            have HBB := Lib.hid hb
            clear hT hb
            go_wp2_with fail
            refine HS.out.mono ?_
            rintro e w4 ⟨rfl, hb4⟩
            have HB4 := Lib.hid (HB2.out.trans ((HBB.out.trans hb4).mono HB2.out.size))
            clear hb4 HS
            go_wp2
            go_ret2
            exact ⟨HB4.out, .inl ⟨rfl, HRR.out⟩⟩
end Go.Proofs.YtlikbmbcjipolaaDoor
