/-
  The reference's StoryPrint.
-/
import Derived.Test.YtlikbmbcjipolaaDoorRStA
import Derived.Test.YtlikbmbcjipolaaDoorStPrint
import Derived.Test.YtlikbmbcjipolaaDoorHeldT
namespace Go.Proofs.YtlikbmbcjipolaaDoor
set_option maxRecDepth 100000
open Go.RowKit Go.Sort
set_option linter.unusedVariables false
set_option linter.unusedSimpArgs false

def RToldStory (l : List Ev4) (w : World) (e : Ending) (w' : World) : Prop := Below w.heap.size w w' ∧
  ((e = .returned (.tuple #[strV (storyL l), .int .i64 0]) ∧ rightS 0 l) ∨ (e = .returned (.tuple #[strV [], .int .i64 1]) ∧ ¬ rightS 0 l))

theorem rsp_cat (a b : List UInt8) : (⟨a.toArray⟩ : ByteArray) ++ ⟨b.toArray⟩ = ⟨(a ++ b).toArray⟩ := by
  apply ByteArray.ext
  rw [ByteArray.data_append]
  simp
set_option maxHeartbeats 8000000 in
theorem rStPrint_any (l : List Ev4) (A : Option Addr) (n c : Nat) (w : World) (hC : SP w) (hE : EvRow w A n l) (hlen : l.length = n) (hi : ∀ e ∈ l, intE e) (hn : n ≤ 1000) :
    Calls Tryd.prog 17 #[.slice A n c] w (RToldStory l w) := by
  have HR := Lib.hid (rStRight_any l A n c w hE hlen (by omega))
  have HC := Lib.hid hC
  have HE := Lib.hid hE
  clear hC hE
  go_enter Tryd.func17, Tryd.ntmps17
  go_wp2_with fail
  refine HR.out.mono ?_
  rintro e w1 ⟨b, rfl, hb, hb1⟩
  have HB1 := Lib.hid hb1
  clear HR hb1
  obtain rfl | rfl := (by cases b <;> simp : b = false ∨ b = true)
  · have hno : ¬ rightS 0 l := fun h => by have := hb.2 h; cases this
    clear hb
    go_wp2
    go_ret2
    exact ⟨HB1.out, .inr ⟨rfl, hno⟩⟩
  have hr : rightS 0 l := hb.1 rfl
  have HRR := Lib.hid hr
  have HC1 := Lib.hid (HC.out.old HB1.out)
  have HE1 := Lib.hid (HE.out.of HB1.out)
  clear hb hr HC HE
  go_wp2
  go_loopw [4, 12] (fun v j wr => ∃ i : Nat, i ≤ n ∧ j = .int .i64 i ∧ v = strV (storyL (l.take i)) ∧ Below w1.heap.size w1 wr) (fun _ j _ => n - (intOf j).toNat)
  case atStart => exact ⟨0, Nat.zero_le _, rfl, rfl, Below.refl _ _⟩
  case round =>
    obtain ⟨i, hin, rfl, rfl, hb⟩ := hrel
    by_cases hlt : i < n
    · have hii : (i : Int) < (n : Int) := by omega
      obtain ⟨ab, off, rfl, c1, c2, c3, c4⟩ := (HE1.out.of hb) i hlt
      have hbw : ab < wr.heap.size := World.block_lt_of_cell? wr ⟨ab, off + i * 4, none⟩ c1
      have hbne : ab ≠ wr.heap.size := by omega
      have hpt := storyL_take l i (by omega)
      have hmem : l.getD i default ∈ l := by rw [← getE (by omega : i < l.length)]; exact List.getElem_mem _
      have hie := hi _ hmem
      have hk := rightS_mem HRR.out _ hmem
      obtain ⟨x, hx⟩ : ∃ x, l.getD i default = x := ⟨_, rfl⟩
      rw [hx] at c1 c2 c3 c4 hpt hie hk
      obtain ⟨x1, x2, x3, x4⟩ := x
      dsimp only at c1 c2 c3 c4 hk
      obtain ⟨j, rfl⟩ : ∃ j : Nat, x2 = (j : Int) := ⟨x2.toNat, by omega⟩
      have hj0 : (0 : Int) ≤ (j : Int) := by omega
      have hj4 : (j : Int) < 4 := by omega
      have hxa := heap_alloc_new wr (.cells #[.int .i64 x1, .int .i64 (j : Nat), .int .i64 x3, .int .i64 x4] 62)
      have hba := hb.trans (((Below.refl wr.heap.size wr).alloc (Nat.le_refl _) (.cells #[.int .i64 x1, .int .i64 (j : Nat), .int .i64 x3, .int .i64 x4] 62)).mono hb.size)
      obtain ⟨eb, heb⟩ : ∃ eb, wr.heap.size = eb := ⟨_, rfl⟩
      obtain ⟨wa, hwa⟩ : ∃ wa, wr.alloc (.cells #[.int .i64 x1, .int .i64 (j : Nat), .int .i64 x3, .int .i64 x4] 62) = wa := ⟨_, rfl⟩
      rw [hwa] at hxa hba
      rw [heb] at hxa
      have HST := Lib.hid (show ∀ W : World, W.heap[eb]? = some (.cells #[.int .i64 x1, .int .i64 (j : Nat), .int .i64 x3, .int .i64 x4] 62 (0, 0)) → W.cell? ⟨eb, 0, none⟩ = some (.int .i64 x1) ∧ W.cell? ⟨eb, 1, none⟩ = some (.int .i64 (j : Nat)) ∧ W.cell? ⟨eb, 2, none⟩ = some (.int .i64 x3) ∧ W.cell? ⟨eb, 3, none⟩ = some (.int .i64 x4) from fun W h => ⟨by rw [cell_of_row W eb 0 _ _ _ h]; rfl, by rw [cell_of_row W eb 1 _ _ _ h]; rfl, by rw [cell_of_row W eb 2 _ _ _ h]; rfl, by rw [cell_of_row W eb 3 _ _ _ h]; rfl⟩)
      have HOLD0 := Lib.hid (show ∀ W W' : World, (Below w1.heap.size w1 W ∧ W.heap[eb]? = some (.cells #[.int .i64 x1, .int .i64 (j : Nat), .int .i64 x3, .int .i64 x4] 62 (0, 0))) → Below W.heap.size W W' → Below w1.heap.size w1 W' ∧ W'.heap[eb]? = some (.cells #[.int .i64 x1, .int .i64 (j : Nat), .int .i64 x3, .int .i64 x4] 62 (0, 0)) from fun W W' h hb => ⟨h.1.trans (hb.mono h.1.size), (hb.block eb (lt_of_block h.2)).trans h.2⟩)
      have HW0 := Lib.hid (show Below w1.heap.size w1 wa.drew ∧ wa.drew.heap[eb]? = some (.cells #[.int .i64 x1, .int .i64 (j : Nat), .int .i64 x3, .int .i64 x4] 62 (0, 0)) from ⟨below_drewN hba 1, hxa⟩)
      have HOLD := Lib.hid (show ∀ W W' : World, ((Below w1.heap.size w1 W ∧ W.heap[eb]? = some (.cells #[.int .i64 x1, .int .i64 (j : Nat), .int .i64 x3, .int .i64 x4] 62 (0, 0))) ∧ (W.cell? ⟨eb, 0, none⟩ = some (.int .i64 x1) ∧ W.cell? ⟨eb, 1, none⟩ = some (.int .i64 (j : Nat)) ∧ W.cell? ⟨eb, 2, none⟩ = some (.int .i64 x3) ∧ W.cell? ⟨eb, 3, none⟩ = some (.int .i64 x4))) → Below W.heap.size W W' → ((Below w1.heap.size w1 W' ∧ W'.heap[eb]? = some (.cells #[.int .i64 x1, .int .i64 (j : Nat), .int .i64 x3, .int .i64 x4] 62 (0, 0))) ∧ (W'.cell? ⟨eb, 0, none⟩ = some (.int .i64 x1) ∧ W'.cell? ⟨eb, 1, none⟩ = some (.int .i64 (j : Nat)) ∧ W'.cell? ⟨eb, 2, none⟩ = some (.int .i64 x3) ∧ W'.cell? ⟨eb, 3, none⟩ = some (.int .i64 x4))) from fun W W' h hb => ⟨HOLD0.out W W' h.1 hb, HST.out _ (HOLD0.out W W' h.1 hb).2⟩)
      have HW4 := Lib.hid (And.intro HW0.out (HST.out _ HW0.out.2))
      have HI1 := Lib.hid (fun (W : World) (h : Below w1.heap.size w1 W ∧ W.heap[eb]? = some (.cells #[.int .i64 x1, .int .i64 (j : Nat), .int .i64 x3, .int .i64 x4] 62 (0, 0))) => st_itoa x1 hie.1 W (HC1.out.old h.1))
      have HI2 := Lib.hid (fun (W : World) (h : Below w1.heap.size w1 W ∧ W.heap[eb]? = some (.cells #[.int .i64 x1, .int .i64 (j : Nat), .int .i64 x3, .int .i64 x4] 62 (0, 0))) => st_itoa x3 hie.2.2.1 W (HC1.out.old h.1))
      have HI3 := Lib.hid (fun (W : World) (h : Below w1.heap.size w1 W ∧ W.heap[eb]? = some (.cells #[.int .i64 x1, .int .i64 (j : Nat), .int .i64 x3, .int .i64 x4] 62 (0, 0))) => st_itoa x4 hie.2.2.2 W (HC1.out.old h.1))
      have HNEW0 := Lib.hid (show ∀ W : World, (W.alloc (.cells #[.string ⟨#[]⟩, .string ⟨#[99, 97, 109, 101]⟩, .string ⟨#[103, 111, 110, 101]⟩, .string ⟨#[116, 111, 108, 100]⟩] 9)).cell? ⟨W.heap.size, j, none⟩ = some (.string ⟨(sayW (j : Int)).toArray⟩) from fun W => by
        rw [cell_of_row _ W.heap.size j _ _ _ (heap_alloc_new W (.cells #[.string ⟨#[]⟩, .string ⟨#[99, 97, 109, 101]⟩, .string ⟨#[103, 111, 110, 101]⟩, .string ⟨#[116, 111, 108, 100]⟩] 9))]
        rcases (by omega : j = 1 ∨ j = 2 ∨ j = 3) with rfl | rfl | rfl <;> rfl)
      have hl1 : (Lib.itoa x1).length ≤ 21 := e_itoa_le _ hie.1
      have hl2 : (Lib.itoa x3).length ≤ 21 := e_itoa_le _ hie.2.2.1
      have hl3 : (Lib.itoa x4).length ≤ 21 := e_itoa_le _ hie.2.2.2
      have hlw := (sayW_no (j : Int)).2.2
      have hls := storyL_le (l.take i) (fun e he => hi e (List.mem_of_mem_take he))
      rw [List.length_take] at hls
      have e1 : (⟨(Lib.itoa x1).toArray⟩ : ByteArray).size = (Lib.itoa x1).length := by simp [ByteArray.size]
      have e2 : (⟨(Lib.itoa x3).toArray⟩ : ByteArray).size = (Lib.itoa x3).length := by simp [ByteArray.size]
      have e3 : (⟨(Lib.itoa x4).toArray⟩ : ByteArray).size = (Lib.itoa x4).length := by simp [ByteArray.size]
      have e4 : (⟨(sayW (j : Int)).toArray⟩ : ByteArray).size = (sayW (j : Int)).length := by simp [ByteArray.size]
      have e5 : (⟨(storyL (l.take i)).toArray⟩ : ByteArray).size = (storyL (l.take i)).length := by simp [ByteArray.size]
      have hcat : (⟨(storyL (l.take i)).toArray⟩ : ByteArray) ++ (((((((⟨(Lib.itoa x1).toArray⟩ : ByteArray) ++ ⟨#[32]⟩) ++ ⟨(sayW (j : Int)).toArray⟩) ++ ⟨#[32]⟩) ++ ⟨(Lib.itoa x3).toArray⟩) ++ ⟨#[32]⟩) ++ ⟨(Lib.itoa x4).toArray⟩ ++ ⟨#[10]⟩) = ⟨(storyL (l.take (i + 1))).toArray⟩ := by
        rw [hpt]
        have s32 : (⟨#[32]⟩ : ByteArray) = ⟨[32].toArray⟩ := rfl
        have s10 : (⟨#[10]⟩ : ByteArray) = ⟨[10].toArray⟩ := rfl
        rw [s32, s10]
        simp only [rsp_cat]
        congr 2
        simp [lineE, bodyE]
      unfold strV at HI1 HI2 HI3 ⊢
      clear hb hx hxa hba HW0 HOLD0 hpt hie hk hmem
      generalize (⟨(Lib.itoa x1).toArray⟩ : ByteArray) = I1 at *
      generalize (⟨(Lib.itoa x3).toArray⟩ : ByteArray) = I2 at *
      generalize (⟨(Lib.itoa x4).toArray⟩ : ByteArray) = I3 at *
      generalize (⟨(sayW (j : Int)).toArray⟩ : ByteArray) = WB at *
      generalize (⟨(storyL (l.take i)).toArray⟩ : ByteArray) = SB at *
      generalize hSN : (⟨(storyL (l.take (i + 1))).toArray⟩ : ByteArray) = SN at *
      have HSN := Lib.hid hSN
      clear hSN
      have z1 : ¬ 9223372036854775807 < I1.size + 1 := by omega
      have z2 : ¬ 9223372036854775807 < I1.size + 1 + WB.size := by omega
      have z3 : ¬ 9223372036854775807 < I1.size + 1 + WB.size + 1 := by omega
      have z4 : ¬ 9223372036854775807 < I1.size + 1 + WB.size + 1 + I2.size := by omega
      have z5 : ¬ 9223372036854775807 < I1.size + 1 + WB.size + 1 + I2.size + 1 := by omega
      have z6 : ¬ 9223372036854775807 < I1.size + 1 + WB.size + 1 + I2.size + 1 + I3.size := by omega
      have z7 : ¬ 9223372036854775807 < I1.size + 1 + WB.size + 1 + I2.size + 1 + I3.size + 1 := by omega
      have z8 : ¬ 9223372036854775807 < SB.size + (I1.size + 1 + WB.size + 1 + I2.size + 1 + I3.size + 1) := by omega
      have HNEW := Lib.hid (show ∀ W : World, ((Below w1.heap.size w1 W ∧ (W).heap[eb]? = some (.cells #[.int .i64 x1, .int .i64 (j : Nat), .int .i64 x3, .int .i64 x4] 62 (0, 0))) ∧ ((W).cell? ⟨eb, 0, none⟩ = some (.int .i64 x1) ∧ (W).cell? ⟨eb, 1, none⟩ = some (.int .i64 (j : Nat)) ∧ (W).cell? ⟨eb, 2, none⟩ = some (.int .i64 x3) ∧ (W).cell? ⟨eb, 3, none⟩ = some (.int .i64 x4))) → (((Below w1.heap.size w1 (W.alloc (.cells #[.string ⟨#[]⟩, .string ⟨#[99, 97, 109, 101]⟩, .string ⟨#[103, 111, 110, 101]⟩, .string ⟨#[116, 111, 108, 100]⟩] 9)) ∧ ((W.alloc (.cells #[.string ⟨#[]⟩, .string ⟨#[99, 97, 109, 101]⟩, .string ⟨#[103, 111, 110, 101]⟩, .string ⟨#[116, 111, 108, 100]⟩] 9))).heap[eb]? = some (.cells #[.int .i64 x1, .int .i64 (j : Nat), .int .i64 x3, .int .i64 x4] 62 (0, 0))) ∧ (((W.alloc (.cells #[.string ⟨#[]⟩, .string ⟨#[99, 97, 109, 101]⟩, .string ⟨#[103, 111, 110, 101]⟩, .string ⟨#[116, 111, 108, 100]⟩] 9))).cell? ⟨eb, 0, none⟩ = some (.int .i64 x1) ∧ ((W.alloc (.cells #[.string ⟨#[]⟩, .string ⟨#[99, 97, 109, 101]⟩, .string ⟨#[103, 111, 110, 101]⟩, .string ⟨#[116, 111, 108, 100]⟩] 9))).cell? ⟨eb, 1, none⟩ = some (.int .i64 (j : Nat)) ∧ ((W.alloc (.cells #[.string ⟨#[]⟩, .string ⟨#[99, 97, 109, 101]⟩, .string ⟨#[103, 111, 110, 101]⟩, .string ⟨#[116, 111, 108, 100]⟩] 9))).cell? ⟨eb, 2, none⟩ = some (.int .i64 x3) ∧ ((W.alloc (.cells #[.string ⟨#[]⟩, .string ⟨#[99, 97, 109, 101]⟩, .string ⟨#[103, 111, 110, 101]⟩, .string ⟨#[116, 111, 108, 100]⟩] 9))).cell? ⟨eb, 3, none⟩ = some (.int .i64 x4)))) ∧ (W.alloc (.cells #[.string ⟨#[]⟩, .string ⟨#[99, 97, 109, 101]⟩, .string ⟨#[103, 111, 110, 101]⟩, .string ⟨#[116, 111, 108, 100]⟩] 9)).cell? ⟨W.heap.size, j, none⟩ = some (.string WB) from fun W h => ⟨HOLD.out _ _ h ((Below.refl W.heap.size W).alloc (Nat.le_refl _) _), HNEW0.out W⟩)
      have HCAT := Lib.hid hcat
      clear hcat e1 e2 e3 e4 e5 hl1 hl2 hl3 hlw hls HNEW0
      --M0
      go_wp2
      --M1
      refine region_heldH (S := (fun u => u.cell? ⟨eb, 0, none⟩ = some (.int .i64 x1) ∧ u.cell? ⟨eb, 1, none⟩ = some (.int .i64 (j : Nat)) ∧ u.cell? ⟨eb, 2, none⟩ = some (.int .i64 x3) ∧ u.cell? ⟨eb, 3, none⟩ = some (.int .i64 x4))) 24 rfl (by kernel_rfl) HW4.out.2 (fun hHeld => ?_)
      generalize wa.drew = w4 at *
      refine heldH_take (n := 23) (i := 0) (oi := _) (v := ?vk1_0) (dst := some 16) rfl rfl rfl (by kernel_rfl) (by kernel_rfl) (by kernel_rfl) (fun _ _ _ h => h) (Or.inl ⟨by rfl, ?hyk1_0⟩) (by assumption) ?restk1_0
      case hyk1_0 => intro u hSu; (try dsimp only at hSu); go_simp; try (with_reducible rfl)
      simp only [Act.put, List.setIfInBounds_toArray, List.set_cons_zero, List.set_cons_succ]
      refine heldH_take (n := 22) (i := 1) (oi := _) (v := ?vk2_1) (dst := some 17) rfl rfl rfl (by kernel_rfl) (by kernel_rfl) (by kernel_rfl) (fun _ _ _ h => h) (Or.inl ⟨by rfl, ?hyk2_1⟩) (by assumption) ?restk2_1
      case hyk2_1 => intro u hSu; (try dsimp only at hSu); go_simp; try (with_reducible rfl)
      simp only [Act.put, List.setIfInBounds_toArray, List.set_cons_zero, List.set_cons_succ]
      refine heldH_take (n := 21) (i := 2) (oi := _) (v := ?vk3_2) (dst := some 18) rfl rfl rfl (by kernel_rfl) (by kernel_rfl) (by kernel_rfl) (fun _ _ _ h => h) (Or.inl ⟨by rfl, ?hyk3_2⟩) (by assumption) ?restk3_2
      case hyk3_2 => intro u hSu; (try dsimp only at hSu); go_simp; try (with_reducible rfl)
      simp only [Act.put, List.setIfInBounds_toArray, List.set_cons_zero, List.set_cons_succ]
      refine heldH_take (n := 20) (i := 6) (oi := _) (v := ?vk4_6) (dst := some 22) rfl rfl rfl (by kernel_rfl) (by kernel_rfl) (by kernel_rfl) (fun _ _ _ h => h) (Or.inl ⟨by rfl, ?hyk4_6⟩) (by assumption) ?restk4_6
      case hyk4_6 => intro u hSu; (try dsimp only at hSu); go_simp; try (with_reducible rfl)
      simp only [Act.put, List.setIfInBounds_toArray, List.set_cons_zero, List.set_cons_succ]
      refine heldH_take (n := 19) (i := 7) (oi := _) (v := ?vk5_7) (dst := some 23) rfl rfl rfl (by kernel_rfl) (by kernel_rfl) (by kernel_rfl) (fun _ _ _ h => h) (Or.inl ⟨by rfl, ?hyk5_7⟩) (by assumption) ?restk5_7
      case hyk5_7 => intro u hSu; (try dsimp only at hSu); go_simp; try (with_reducible rfl)
      simp only [Act.put, List.setIfInBounds_toArray, List.set_cons_zero, List.set_cons_succ]
      refine heldH_take (n := 18) (i := 12) (oi := _) (v := ?vk6_12) (dst := some 28) rfl rfl rfl (by kernel_rfl) (by kernel_rfl) (by kernel_rfl) (fun _ _ _ h => h) (Or.inl ⟨by rfl, ?hyk6_12⟩) (by assumption) ?restk6_12
      case hyk6_12 => intro u hSu; (try dsimp only at hSu); go_simp; try (with_reducible rfl)
      simp only [Act.put, List.setIfInBounds_toArray, List.set_cons_zero, List.set_cons_succ]
      refine heldH_take (n := 17) (i := 13) (oi := _) (v := ?vk7_13) (dst := some 29) rfl rfl rfl (by kernel_rfl) (by kernel_rfl) (by kernel_rfl) (fun _ _ _ h => h) (Or.inl ⟨by rfl, ?hyk7_13⟩) (by assumption) ?restk7_13
      case hyk7_13 => intro u hSu; (try dsimp only at hSu); go_simp; try (with_reducible rfl)
      simp only [Act.put, List.setIfInBounds_toArray, List.set_cons_zero, List.set_cons_succ]
      refine heldH_take (n := 16) (i := 17) (oi := _) (v := ?vk8_17) (dst := some 33) rfl rfl rfl (by kernel_rfl) (by kernel_rfl) (by kernel_rfl) (fun _ _ _ h => h) (Or.inl ⟨by rfl, ?hyk8_17⟩) (by assumption) ?restk8_17
      case hyk8_17 => intro u hSu; (try dsimp only at hSu); go_simp; try (with_reducible rfl)
      simp only [Act.put, List.setIfInBounds_toArray, List.set_cons_zero, List.set_cons_succ]
      refine heldH_take (n := 15) (i := 18) (oi := _) (v := ?vk9_18) (dst := some 34) rfl rfl rfl (by kernel_rfl) (by kernel_rfl) (by kernel_rfl) (fun _ _ _ h => h) (Or.inl ⟨by rfl, ?hyk9_18⟩) (by assumption) ?restk9_18
      case hyk9_18 => intro u hSu; (try dsimp only at hSu); go_simp; try (with_reducible rfl)
      simp only [Act.put, List.setIfInBounds_toArray, List.set_cons_zero, List.set_cons_succ]
      refine heldH_two (n := 14) (i := 3) (j := 5) (o := _) (p := _) rfl (by kernel_rfl) rfl rfl (fun K hK => ?_) (fun K hK => ?_)
      · have HK2 := Lib.hid hK
        clear hK
        go_simp
        refine (HI1.out _ HW4.out.1).mono ?_
        rintro e w5 ⟨rfl, hb5⟩
        have HW5 := Lib.hid (HOLD.out _ _ HW4.out hb5)
        clear hb5
        go_simp
        refine HK2.out _ _ HW5.out.2 (fun hHeld => ?_)
        clear HK2 K
        refine heldH_take (n := 13) (i := 4) (oi := _) (v := ?vk10_4) (dst := some 20) rfl rfl rfl (by kernel_rfl) (by kernel_rfl) (by kernel_rfl) (fun _ _ _ h => h) (Or.inl ⟨by rfl, ?hyk10_4⟩) (by assumption) ?restk10_4
        case hyk10_4 => intro u hSu; (try dsimp only at hSu); go_simp; try (with_reducible rfl)
        simp only [Act.put, List.setIfInBounds_toArray, List.set_cons_zero, List.set_cons_succ]
        refine heldH_two (n := 12) (i := 5) (j := 14) (o := _) (p := _) rfl (by kernel_rfl) rfl rfl (fun K hK => ?_) (fun K hK => ?_)
        · have HK2 := Lib.hid hK
          clear hK
          go_simp
          obtain ⟨w6, hw6⟩ : ∃ w6, w5.alloc (.cells #[.string ⟨#[]⟩, .string ⟨#[99, 97, 109, 101]⟩, .string ⟨#[103, 111, 110, 101]⟩, .string ⟨#[116, 111, 108, 100]⟩] 9) = w6 := ⟨_, rfl⟩
          have HN6 := HNEW.out _ HW5.out
          rw [hw6] at HN6
          (try rw [hw6])
          have HW6 := Lib.hid HN6.1
          have HG6 := Lib.hid HN6.2
          refine HK2.out _ _ HW6.out.2 (fun hHeld => ?_)
          clear HK2 K
          clear HN6
          obtain ⟨gb, hgb⟩ : ∃ gb, w5.heap.size = gb := ⟨_, rfl⟩
          rw [hgb] at HG6 ⊢
          refine heldH_more (S' := (fun u => (u.cell? ⟨eb, 0, none⟩ = some (.int .i64 x1) ∧ u.cell? ⟨eb, 1, none⟩ = some (.int .i64 (j : Nat)) ∧ u.cell? ⟨eb, 2, none⟩ = some (.int .i64 x3) ∧ u.cell? ⟨eb, 3, none⟩ = some (.int .i64 x4)) ∧ u.cell? ⟨gb, j, none⟩ = some (.string WB))) (fun u h => h.1) _ _ _ _ ?_
          have hHeldG := And.intro HW6.out.2 HG6.out
          refine heldH_take (n := 11) (i := 8) (oi := _) (v := ?vk11_8) (dst := some 24) rfl rfl rfl (by kernel_rfl) (by kernel_rfl) (by kernel_rfl) (fun _ _ _ h => h) (Or.inl ⟨by rfl, ?hyk11_8⟩) (by assumption) ?restk11_8
          case hyk11_8 => intro u hSu; (try dsimp only at hSu); go_simp; try (with_reducible rfl)
          simp only [Act.put, List.setIfInBounds_toArray, List.set_cons_zero, List.set_cons_succ]
          refine heldH_take (n := 10) (i := 9) (oi := _) (v := ?vk12_9) (dst := some 25) rfl rfl rfl (by kernel_rfl) (by kernel_rfl) (by kernel_rfl) (fun _ _ _ h => h) (Or.inl ⟨by rfl, ?hyk12_9⟩) (by assumption) ?restk12_9
          case hyk12_9 => intro u hSu; (try dsimp only at hSu); go_simp; try (with_reducible rfl)
          simp only [Act.put, List.setIfInBounds_toArray, List.set_cons_zero, List.set_cons_succ]
          refine heldH_take (n := 9) (i := 10) (oi := _) (v := ?vk13_10) (dst := some 26) rfl rfl rfl (by kernel_rfl) (by kernel_rfl) (by kernel_rfl) (fun _ _ _ h => h) (Or.inl ⟨by rfl, ?hyk13_10⟩) (by assumption) ?restk13_10
          case hyk13_10 => intro u hSu; (try dsimp only at hSu); go_simp; try (with_reducible rfl)
          simp only [Act.put, List.setIfInBounds_toArray, List.set_cons_zero, List.set_cons_succ]
          refine heldH_take (n := 8) (i := 11) (oi := _) (v := ?vk14_11) (dst := some 27) rfl rfl rfl (by kernel_rfl) (by kernel_rfl) (by kernel_rfl) (fun _ _ _ h => h) (Or.inl ⟨by rfl, ?hyk14_11⟩) (by assumption) ?restk14_11
          case hyk14_11 => intro u hSu; (try dsimp only at hSu); go_simp; try (with_reducible rfl)
          simp only [Act.put, List.setIfInBounds_toArray, List.set_cons_zero, List.set_cons_succ]
          refine heldH_step (n := 7) (i := 14) (o := _) rfl (by kernel_rfl) rfl (fun K hK => ?_)
          have HK2 := Lib.hid hK
          clear hK
          go_simp
          refine (HI2.out _ HW6.out.1).mono ?_
          rintro e w7 ⟨rfl, hb7⟩
          have HW7 := Lib.hid (HOLD.out _ _ HW6.out hb7)
          have HG7 := Lib.hid ((hb7.cell (p := ⟨gb, j, none⟩) (World.block_lt_of_cell? w6 _ HG6.out)).trans HG6.out)
          clear hb7
          go_simp
          refine HK2.out _ _ (And.intro HW7.out.2 HG7.out) (fun hHeld => ?_)
          clear HK2 K
          refine heldH_take (n := 6) (i := 15) (oi := _) (v := ?vk15_15) (dst := some 31) rfl rfl rfl (by kernel_rfl) (by kernel_rfl) (by kernel_rfl) (fun _ _ _ h => h) (Or.inl ⟨by rfl, ?hyk15_15⟩) (by assumption) ?restk15_15
          case hyk15_15 => intro u hSu; (try dsimp only at hSu); go_simp; try (with_reducible rfl)
          simp only [Act.put, List.setIfInBounds_toArray, List.set_cons_zero, List.set_cons_succ]
          refine heldH_take (n := 5) (i := 16) (oi := _) (v := ?vk16_16) (dst := some 32) rfl rfl rfl (by kernel_rfl) (by kernel_rfl) (by kernel_rfl) (fun _ _ _ h => h) (Or.inl ⟨by rfl, ?hyk16_16⟩) (by assumption) ?restk16_16
          case hyk16_16 => intro u hSu; (try dsimp only at hSu); go_simp; try (with_reducible rfl)
          simp only [Act.put, List.setIfInBounds_toArray, List.set_cons_zero, List.set_cons_succ]
          refine heldH_step (n := 4) (i := 19) (o := _) rfl (by kernel_rfl) rfl (fun K hK => ?_)
          have HK2 := Lib.hid hK
          clear hK
          go_simp
          refine (HI3.out _ HW7.out.1).mono ?_
          rintro e w8 ⟨rfl, hb8⟩
          have HW8 := Lib.hid (HOLD.out _ _ HW7.out hb8)
          have HG8 := Lib.hid ((hb8.cell (p := ⟨gb, j, none⟩) (World.block_lt_of_cell? w7 _ HG7.out)).trans HG7.out)
          clear hb8
          go_simp
          refine HK2.out _ _ (And.intro HW8.out.2 HG8.out) (fun hHeld => ?_)
          clear HK2 K
          refine heldH_take (n := 3) (i := 20) (oi := _) (v := ?vk17_20) (dst := some 36) rfl rfl rfl (by kernel_rfl) (by kernel_rfl) (by kernel_rfl) (fun _ _ _ h => h) (Or.inl ⟨by rfl, ?hyk17_20⟩) (by assumption) ?restk17_20
          case hyk17_20 => intro u hSu; (try dsimp only at hSu); go_simp; try (with_reducible rfl)
          simp only [Act.put, List.setIfInBounds_toArray, List.set_cons_zero, List.set_cons_succ]
          refine heldH_take (n := 2) (i := 21) (oi := _) (v := ?vk18_21) (dst := some 37) rfl rfl rfl (by kernel_rfl) (by kernel_rfl) (by kernel_rfl) (fun _ _ _ h => h) (Or.inl ⟨by rfl, ?hyk18_21⟩) (by assumption) ?restk18_21
          case hyk18_21 => intro u hSu; (try dsimp only at hSu); go_simp; try (with_reducible rfl)
          simp only [Act.put, List.setIfInBounds_toArray, List.set_cons_zero, List.set_cons_succ]
          refine heldH_take (n := 1) (i := 22) (oi := _) (v := ?vk19_22) (dst := some 38) rfl rfl rfl (by kernel_rfl) (by kernel_rfl) (by kernel_rfl) (fun _ _ _ h => h) (Or.inl ⟨by rfl, ?hyk19_22⟩) (by assumption) ?restk19_22
          case hyk19_22 => intro u hSu; (try dsimp only at hSu); go_simp; try (with_reducible rfl)
          simp only [Act.put, List.setIfInBounds_toArray, List.set_cons_zero, List.set_cons_succ]
          refine heldH_take (n := 0) (i := 23) (oi := _) (v := ?vk20_23) (dst := some 4) rfl rfl rfl (by kernel_rfl) (by kernel_rfl) (by kernel_rfl) (fun _ _ _ h => h) (Or.inl ⟨by rfl, ?hyk20_23⟩) (by assumption) ?restk20_23
          case hyk20_23 => intro u hSu; (try dsimp only at hSu); go_simp; try (with_reducible rfl)
          simp only [Act.put, List.setIfInBounds_toArray, List.set_cons_zero, List.set_cons_succ]
          refine wpAnyH_done (by kernel_rfl) ?_ _
          --MZ
          go_wp2
          go_roundw
          case rel => exact ⟨i + 1, by omega, by go_num, by rw [HCAT.out, ← HSN.out], HW8.out.1.1⟩
          case measure => simp [intOf]; omega
        · have HK2 := Lib.hid hK
          clear hK
          go_simp
          refine (HI2.out _ HW5.out.1).mono ?_
          rintro e w6 ⟨rfl, hb6⟩
          have HW6 := Lib.hid (HOLD.out _ _ HW5.out hb6)
          clear hb6
          go_simp
          refine HK2.out _ _ HW6.out.2 (fun hHeld => ?_)
          clear HK2 K
          refine heldH_two (n := 11) (i := 5) (j := 19) (o := _) (p := _) rfl (by kernel_rfl) rfl rfl (fun K hK => ?_) (fun K hK => ?_)
          · have HK2 := Lib.hid hK
            clear hK
            go_simp
            obtain ⟨w7, hw7⟩ : ∃ w7, w6.alloc (.cells #[.string ⟨#[]⟩, .string ⟨#[99, 97, 109, 101]⟩, .string ⟨#[103, 111, 110, 101]⟩, .string ⟨#[116, 111, 108, 100]⟩] 9) = w7 := ⟨_, rfl⟩
            have HN7 := HNEW.out _ HW6.out
            rw [hw7] at HN7
            (try rw [hw7])
            have HW7 := Lib.hid HN7.1
            have HG7 := Lib.hid HN7.2
            refine HK2.out _ _ HW7.out.2 (fun hHeld => ?_)
            clear HK2 K
            clear HN7
            obtain ⟨gb, hgb⟩ : ∃ gb, w6.heap.size = gb := ⟨_, rfl⟩
            rw [hgb] at HG7 ⊢
            refine heldH_more (S' := (fun u => (u.cell? ⟨eb, 0, none⟩ = some (.int .i64 x1) ∧ u.cell? ⟨eb, 1, none⟩ = some (.int .i64 (j : Nat)) ∧ u.cell? ⟨eb, 2, none⟩ = some (.int .i64 x3) ∧ u.cell? ⟨eb, 3, none⟩ = some (.int .i64 x4)) ∧ u.cell? ⟨gb, j, none⟩ = some (.string WB))) (fun u h => h.1) _ _ _ _ ?_
            have hHeldG := And.intro HW7.out.2 HG7.out
            refine heldH_take (n := 10) (i := 8) (oi := _) (v := ?vk21_8) (dst := some 24) rfl rfl rfl (by kernel_rfl) (by kernel_rfl) (by kernel_rfl) (fun _ _ _ h => h) (Or.inl ⟨by rfl, ?hyk21_8⟩) (by assumption) ?restk21_8
            case hyk21_8 => intro u hSu; (try dsimp only at hSu); go_simp; try (with_reducible rfl)
            simp only [Act.put, List.setIfInBounds_toArray, List.set_cons_zero, List.set_cons_succ]
            refine heldH_take (n := 9) (i := 9) (oi := _) (v := ?vk22_9) (dst := some 25) rfl rfl rfl (by kernel_rfl) (by kernel_rfl) (by kernel_rfl) (fun _ _ _ h => h) (Or.inl ⟨by rfl, ?hyk22_9⟩) (by assumption) ?restk22_9
            case hyk22_9 => intro u hSu; (try dsimp only at hSu); go_simp; try (with_reducible rfl)
            simp only [Act.put, List.setIfInBounds_toArray, List.set_cons_zero, List.set_cons_succ]
            refine heldH_take (n := 8) (i := 10) (oi := _) (v := ?vk23_10) (dst := some 26) rfl rfl rfl (by kernel_rfl) (by kernel_rfl) (by kernel_rfl) (fun _ _ _ h => h) (Or.inl ⟨by rfl, ?hyk23_10⟩) (by assumption) ?restk23_10
            case hyk23_10 => intro u hSu; (try dsimp only at hSu); go_simp; try (with_reducible rfl)
            simp only [Act.put, List.setIfInBounds_toArray, List.set_cons_zero, List.set_cons_succ]
            refine heldH_take (n := 7) (i := 11) (oi := _) (v := ?vk24_11) (dst := some 27) rfl rfl rfl (by kernel_rfl) (by kernel_rfl) (by kernel_rfl) (fun _ _ _ h => h) (Or.inl ⟨by rfl, ?hyk24_11⟩) (by assumption) ?restk24_11
            case hyk24_11 => intro u hSu; (try dsimp only at hSu); go_simp; try (with_reducible rfl)
            simp only [Act.put, List.setIfInBounds_toArray, List.set_cons_zero, List.set_cons_succ]
            refine heldH_take (n := 6) (i := 15) (oi := _) (v := ?vk25_15) (dst := some 31) rfl rfl rfl (by kernel_rfl) (by kernel_rfl) (by kernel_rfl) (fun _ _ _ h => h) (Or.inl ⟨by rfl, ?hyk25_15⟩) (by assumption) ?restk25_15
            case hyk25_15 => intro u hSu; (try dsimp only at hSu); go_simp; try (with_reducible rfl)
            simp only [Act.put, List.setIfInBounds_toArray, List.set_cons_zero, List.set_cons_succ]
            refine heldH_take (n := 5) (i := 16) (oi := _) (v := ?vk26_16) (dst := some 32) rfl rfl rfl (by kernel_rfl) (by kernel_rfl) (by kernel_rfl) (fun _ _ _ h => h) (Or.inl ⟨by rfl, ?hyk26_16⟩) (by assumption) ?restk26_16
            case hyk26_16 => intro u hSu; (try dsimp only at hSu); go_simp; try (with_reducible rfl)
            simp only [Act.put, List.setIfInBounds_toArray, List.set_cons_zero, List.set_cons_succ]
            refine heldH_step (n := 4) (i := 19) (o := _) rfl (by kernel_rfl) rfl (fun K hK => ?_)
            have HK2 := Lib.hid hK
            clear hK
            go_simp
            refine (HI3.out _ HW7.out.1).mono ?_
            rintro e w8 ⟨rfl, hb8⟩
            have HW8 := Lib.hid (HOLD.out _ _ HW7.out hb8)
            have HG8 := Lib.hid ((hb8.cell (p := ⟨gb, j, none⟩) (World.block_lt_of_cell? w7 _ HG7.out)).trans HG7.out)
            clear hb8
            go_simp
            refine HK2.out _ _ (And.intro HW8.out.2 HG8.out) (fun hHeld => ?_)
            clear HK2 K
            refine heldH_take (n := 3) (i := 20) (oi := _) (v := ?vk27_20) (dst := some 36) rfl rfl rfl (by kernel_rfl) (by kernel_rfl) (by kernel_rfl) (fun _ _ _ h => h) (Or.inl ⟨by rfl, ?hyk27_20⟩) (by assumption) ?restk27_20
            case hyk27_20 => intro u hSu; (try dsimp only at hSu); go_simp; try (with_reducible rfl)
            simp only [Act.put, List.setIfInBounds_toArray, List.set_cons_zero, List.set_cons_succ]
            refine heldH_take (n := 2) (i := 21) (oi := _) (v := ?vk28_21) (dst := some 37) rfl rfl rfl (by kernel_rfl) (by kernel_rfl) (by kernel_rfl) (fun _ _ _ h => h) (Or.inl ⟨by rfl, ?hyk28_21⟩) (by assumption) ?restk28_21
            case hyk28_21 => intro u hSu; (try dsimp only at hSu); go_simp; try (with_reducible rfl)
            simp only [Act.put, List.setIfInBounds_toArray, List.set_cons_zero, List.set_cons_succ]
            refine heldH_take (n := 1) (i := 22) (oi := _) (v := ?vk29_22) (dst := some 38) rfl rfl rfl (by kernel_rfl) (by kernel_rfl) (by kernel_rfl) (fun _ _ _ h => h) (Or.inl ⟨by rfl, ?hyk29_22⟩) (by assumption) ?restk29_22
            case hyk29_22 => intro u hSu; (try dsimp only at hSu); go_simp; try (with_reducible rfl)
            simp only [Act.put, List.setIfInBounds_toArray, List.set_cons_zero, List.set_cons_succ]
            refine heldH_take (n := 0) (i := 23) (oi := _) (v := ?vk30_23) (dst := some 4) rfl rfl rfl (by kernel_rfl) (by kernel_rfl) (by kernel_rfl) (fun _ _ _ h => h) (Or.inl ⟨by rfl, ?hyk30_23⟩) (by assumption) ?restk30_23
            case hyk30_23 => intro u hSu; (try dsimp only at hSu); go_simp; try (with_reducible rfl)
            simp only [Act.put, List.setIfInBounds_toArray, List.set_cons_zero, List.set_cons_succ]
            refine wpAnyH_done (by kernel_rfl) ?_ _
            --MZ
            go_wp2
            go_roundw
            case rel => exact ⟨i + 1, by omega, by go_num, by rw [HCAT.out, ← HSN.out], HW8.out.1.1⟩
            case measure => simp [intOf]; omega
          · have HK2 := Lib.hid hK
            clear hK
            go_simp
            refine (HI3.out _ HW6.out.1).mono ?_
            rintro e w7 ⟨rfl, hb7⟩
            have HW7 := Lib.hid (HOLD.out _ _ HW6.out hb7)
            clear hb7
            go_simp
            refine HK2.out _ _ HW7.out.2 (fun hHeld => ?_)
            clear HK2 K
            refine heldH_step (n := 10) (i := 5) (o := _) rfl (by kernel_rfl) rfl (fun K hK => ?_)
            have HK2 := Lib.hid hK
            clear hK
            go_simp
            obtain ⟨w8, hw8⟩ : ∃ w8, w7.alloc (.cells #[.string ⟨#[]⟩, .string ⟨#[99, 97, 109, 101]⟩, .string ⟨#[103, 111, 110, 101]⟩, .string ⟨#[116, 111, 108, 100]⟩] 9) = w8 := ⟨_, rfl⟩
            have HN8 := HNEW.out _ HW7.out
            rw [hw8] at HN8
            (try rw [hw8])
            have HW8 := Lib.hid HN8.1
            have HG8 := Lib.hid HN8.2
            refine HK2.out _ _ HW8.out.2 (fun hHeld => ?_)
            clear HK2 K
            clear HN8
            obtain ⟨gb, hgb⟩ : ∃ gb, w7.heap.size = gb := ⟨_, rfl⟩
            rw [hgb] at HG8 ⊢
            refine heldH_more (S' := (fun u => (u.cell? ⟨eb, 0, none⟩ = some (.int .i64 x1) ∧ u.cell? ⟨eb, 1, none⟩ = some (.int .i64 (j : Nat)) ∧ u.cell? ⟨eb, 2, none⟩ = some (.int .i64 x3) ∧ u.cell? ⟨eb, 3, none⟩ = some (.int .i64 x4)) ∧ u.cell? ⟨gb, j, none⟩ = some (.string WB))) (fun u h => h.1) _ _ _ _ ?_
            have hHeldG := And.intro HW8.out.2 HG8.out
            refine heldH_take (n := 9) (i := 8) (oi := _) (v := ?vk31_8) (dst := some 24) rfl rfl rfl (by kernel_rfl) (by kernel_rfl) (by kernel_rfl) (fun _ _ _ h => h) (Or.inl ⟨by rfl, ?hyk31_8⟩) (by assumption) ?restk31_8
            case hyk31_8 => intro u hSu; (try dsimp only at hSu); go_simp; try (with_reducible rfl)
            simp only [Act.put, List.setIfInBounds_toArray, List.set_cons_zero, List.set_cons_succ]
            refine heldH_take (n := 8) (i := 9) (oi := _) (v := ?vk32_9) (dst := some 25) rfl rfl rfl (by kernel_rfl) (by kernel_rfl) (by kernel_rfl) (fun _ _ _ h => h) (Or.inl ⟨by rfl, ?hyk32_9⟩) (by assumption) ?restk32_9
            case hyk32_9 => intro u hSu; (try dsimp only at hSu); go_simp; try (with_reducible rfl)
            simp only [Act.put, List.setIfInBounds_toArray, List.set_cons_zero, List.set_cons_succ]
            refine heldH_take (n := 7) (i := 10) (oi := _) (v := ?vk33_10) (dst := some 26) rfl rfl rfl (by kernel_rfl) (by kernel_rfl) (by kernel_rfl) (fun _ _ _ h => h) (Or.inl ⟨by rfl, ?hyk33_10⟩) (by assumption) ?restk33_10
            case hyk33_10 => intro u hSu; (try dsimp only at hSu); go_simp; try (with_reducible rfl)
            simp only [Act.put, List.setIfInBounds_toArray, List.set_cons_zero, List.set_cons_succ]
            refine heldH_take (n := 6) (i := 11) (oi := _) (v := ?vk34_11) (dst := some 27) rfl rfl rfl (by kernel_rfl) (by kernel_rfl) (by kernel_rfl) (fun _ _ _ h => h) (Or.inl ⟨by rfl, ?hyk34_11⟩) (by assumption) ?restk34_11
            case hyk34_11 => intro u hSu; (try dsimp only at hSu); go_simp; try (with_reducible rfl)
            simp only [Act.put, List.setIfInBounds_toArray, List.set_cons_zero, List.set_cons_succ]
            refine heldH_take (n := 5) (i := 15) (oi := _) (v := ?vk35_15) (dst := some 31) rfl rfl rfl (by kernel_rfl) (by kernel_rfl) (by kernel_rfl) (fun _ _ _ h => h) (Or.inl ⟨by rfl, ?hyk35_15⟩) (by assumption) ?restk35_15
            case hyk35_15 => intro u hSu; (try dsimp only at hSu); go_simp; try (with_reducible rfl)
            simp only [Act.put, List.setIfInBounds_toArray, List.set_cons_zero, List.set_cons_succ]
            refine heldH_take (n := 4) (i := 16) (oi := _) (v := ?vk36_16) (dst := some 32) rfl rfl rfl (by kernel_rfl) (by kernel_rfl) (by kernel_rfl) (fun _ _ _ h => h) (Or.inl ⟨by rfl, ?hyk36_16⟩) (by assumption) ?restk36_16
            case hyk36_16 => intro u hSu; (try dsimp only at hSu); go_simp; try (with_reducible rfl)
            simp only [Act.put, List.setIfInBounds_toArray, List.set_cons_zero, List.set_cons_succ]
            refine heldH_take (n := 3) (i := 20) (oi := _) (v := ?vk37_20) (dst := some 36) rfl rfl rfl (by kernel_rfl) (by kernel_rfl) (by kernel_rfl) (fun _ _ _ h => h) (Or.inl ⟨by rfl, ?hyk37_20⟩) (by assumption) ?restk37_20
            case hyk37_20 => intro u hSu; (try dsimp only at hSu); go_simp; try (with_reducible rfl)
            simp only [Act.put, List.setIfInBounds_toArray, List.set_cons_zero, List.set_cons_succ]
            refine heldH_take (n := 2) (i := 21) (oi := _) (v := ?vk38_21) (dst := some 37) rfl rfl rfl (by kernel_rfl) (by kernel_rfl) (by kernel_rfl) (fun _ _ _ h => h) (Or.inl ⟨by rfl, ?hyk38_21⟩) (by assumption) ?restk38_21
            case hyk38_21 => intro u hSu; (try dsimp only at hSu); go_simp; try (with_reducible rfl)
            simp only [Act.put, List.setIfInBounds_toArray, List.set_cons_zero, List.set_cons_succ]
            refine heldH_take (n := 1) (i := 22) (oi := _) (v := ?vk39_22) (dst := some 38) rfl rfl rfl (by kernel_rfl) (by kernel_rfl) (by kernel_rfl) (fun _ _ _ h => h) (Or.inl ⟨by rfl, ?hyk39_22⟩) (by assumption) ?restk39_22
            case hyk39_22 => intro u hSu; (try dsimp only at hSu); go_simp; try (with_reducible rfl)
            simp only [Act.put, List.setIfInBounds_toArray, List.set_cons_zero, List.set_cons_succ]
            refine heldH_take (n := 0) (i := 23) (oi := _) (v := ?vk40_23) (dst := some 4) rfl rfl rfl (by kernel_rfl) (by kernel_rfl) (by kernel_rfl) (fun _ _ _ h => h) (Or.inl ⟨by rfl, ?hyk40_23⟩) (by assumption) ?restk40_23
            case hyk40_23 => intro u hSu; (try dsimp only at hSu); go_simp; try (with_reducible rfl)
            simp only [Act.put, List.setIfInBounds_toArray, List.set_cons_zero, List.set_cons_succ]
            refine wpAnyH_done (by kernel_rfl) ?_ _
            --MZ
            go_wp2
            go_roundw
            case rel => exact ⟨i + 1, by omega, by go_num, by rw [HCAT.out, ← HSN.out], HW8.out.1.1⟩
            case measure => simp [intOf]; omega
      · have HK2 := Lib.hid hK
        clear hK
        go_simp
        obtain ⟨w5, hw5⟩ : ∃ w5, w4.alloc (.cells #[.string ⟨#[]⟩, .string ⟨#[99, 97, 109, 101]⟩, .string ⟨#[103, 111, 110, 101]⟩, .string ⟨#[116, 111, 108, 100]⟩] 9) = w5 := ⟨_, rfl⟩
        have HN5 := HNEW.out _ HW4.out
        rw [hw5] at HN5
        (try rw [hw5])
        have HW5 := Lib.hid HN5.1
        have HG5 := Lib.hid HN5.2
        refine HK2.out _ _ HW5.out.2 (fun hHeld => ?_)
        clear HK2 K
        clear HN5
        obtain ⟨gb, hgb⟩ : ∃ gb, w4.heap.size = gb := ⟨_, rfl⟩
        rw [hgb] at HG5 ⊢
        refine heldH_more (S' := (fun u => (u.cell? ⟨eb, 0, none⟩ = some (.int .i64 x1) ∧ u.cell? ⟨eb, 1, none⟩ = some (.int .i64 (j : Nat)) ∧ u.cell? ⟨eb, 2, none⟩ = some (.int .i64 x3) ∧ u.cell? ⟨eb, 3, none⟩ = some (.int .i64 x4)) ∧ u.cell? ⟨gb, j, none⟩ = some (.string WB))) (fun u h => h.1) _ _ _ _ ?_
        have hHeldG := And.intro HW5.out.2 HG5.out
        refine heldH_take (n := 13) (i := 8) (oi := _) (v := ?vk41_8) (dst := some 24) rfl rfl rfl (by kernel_rfl) (by kernel_rfl) (by kernel_rfl) (fun _ _ _ h => h) (Or.inl ⟨by rfl, ?hyk41_8⟩) (by assumption) ?restk41_8
        case hyk41_8 => intro u hSu; (try dsimp only at hSu); go_simp; try (with_reducible rfl)
        simp only [Act.put, List.setIfInBounds_toArray, List.set_cons_zero, List.set_cons_succ]
        refine heldH_take (n := 12) (i := 9) (oi := _) (v := ?vk42_9) (dst := some 25) rfl rfl rfl (by kernel_rfl) (by kernel_rfl) (by kernel_rfl) (fun _ _ _ h => h) (Or.inl ⟨by rfl, ?hyk42_9⟩) (by assumption) ?restk42_9
        case hyk42_9 => intro u hSu; (try dsimp only at hSu); go_simp; try (with_reducible rfl)
        simp only [Act.put, List.setIfInBounds_toArray, List.set_cons_zero, List.set_cons_succ]
        refine heldH_step (n := 11) (i := 3) (o := _) rfl (by kernel_rfl) rfl (fun K hK => ?_)
        have HK2 := Lib.hid hK
        clear hK
        go_simp
        refine (HI1.out _ HW5.out.1).mono ?_
        rintro e w6 ⟨rfl, hb6⟩
        have HW6 := Lib.hid (HOLD.out _ _ HW5.out hb6)
        have HG6 := Lib.hid ((hb6.cell (p := ⟨gb, j, none⟩) (World.block_lt_of_cell? w5 _ HG5.out)).trans HG5.out)
        clear hb6
        go_simp
        refine HK2.out _ _ (And.intro HW6.out.2 HG6.out) (fun hHeld => ?_)
        clear HK2 K
        refine heldH_take (n := 10) (i := 4) (oi := _) (v := ?vk43_4) (dst := some 20) rfl rfl rfl (by kernel_rfl) (by kernel_rfl) (by kernel_rfl) (fun _ _ _ h => h) (Or.inl ⟨by rfl, ?hyk43_4⟩) (by assumption) ?restk43_4
        case hyk43_4 => intro u hSu; (try dsimp only at hSu); go_simp; try (with_reducible rfl)
        simp only [Act.put, List.setIfInBounds_toArray, List.set_cons_zero, List.set_cons_succ]
        refine heldH_take (n := 9) (i := 10) (oi := _) (v := ?vk44_10) (dst := some 26) rfl rfl rfl (by kernel_rfl) (by kernel_rfl) (by kernel_rfl) (fun _ _ _ h => h) (Or.inl ⟨by rfl, ?hyk44_10⟩) (by assumption) ?restk44_10
        case hyk44_10 => intro u hSu; (try dsimp only at hSu); go_simp; try (with_reducible rfl)
        simp only [Act.put, List.setIfInBounds_toArray, List.set_cons_zero, List.set_cons_succ]
        refine heldH_take (n := 8) (i := 11) (oi := _) (v := ?vk45_11) (dst := some 27) rfl rfl rfl (by kernel_rfl) (by kernel_rfl) (by kernel_rfl) (fun _ _ _ h => h) (Or.inl ⟨by rfl, ?hyk45_11⟩) (by assumption) ?restk45_11
        case hyk45_11 => intro u hSu; (try dsimp only at hSu); go_simp; try (with_reducible rfl)
        simp only [Act.put, List.setIfInBounds_toArray, List.set_cons_zero, List.set_cons_succ]
        refine heldH_step (n := 7) (i := 14) (o := _) rfl (by kernel_rfl) rfl (fun K hK => ?_)
        have HK2 := Lib.hid hK
        clear hK
        go_simp
        refine (HI2.out _ HW6.out.1).mono ?_
        rintro e w7 ⟨rfl, hb7⟩
        have HW7 := Lib.hid (HOLD.out _ _ HW6.out hb7)
        have HG7 := Lib.hid ((hb7.cell (p := ⟨gb, j, none⟩) (World.block_lt_of_cell? w6 _ HG6.out)).trans HG6.out)
        clear hb7
        go_simp
        refine HK2.out _ _ (And.intro HW7.out.2 HG7.out) (fun hHeld => ?_)
        clear HK2 K
        refine heldH_take (n := 6) (i := 15) (oi := _) (v := ?vk46_15) (dst := some 31) rfl rfl rfl (by kernel_rfl) (by kernel_rfl) (by kernel_rfl) (fun _ _ _ h => h) (Or.inl ⟨by rfl, ?hyk46_15⟩) (by assumption) ?restk46_15
        case hyk46_15 => intro u hSu; (try dsimp only at hSu); go_simp; try (with_reducible rfl)
        simp only [Act.put, List.setIfInBounds_toArray, List.set_cons_zero, List.set_cons_succ]
        refine heldH_take (n := 5) (i := 16) (oi := _) (v := ?vk47_16) (dst := some 32) rfl rfl rfl (by kernel_rfl) (by kernel_rfl) (by kernel_rfl) (fun _ _ _ h => h) (Or.inl ⟨by rfl, ?hyk47_16⟩) (by assumption) ?restk47_16
        case hyk47_16 => intro u hSu; (try dsimp only at hSu); go_simp; try (with_reducible rfl)
        simp only [Act.put, List.setIfInBounds_toArray, List.set_cons_zero, List.set_cons_succ]
        refine heldH_step (n := 4) (i := 19) (o := _) rfl (by kernel_rfl) rfl (fun K hK => ?_)
        have HK2 := Lib.hid hK
        clear hK
        go_simp
        refine (HI3.out _ HW7.out.1).mono ?_
        rintro e w8 ⟨rfl, hb8⟩
        have HW8 := Lib.hid (HOLD.out _ _ HW7.out hb8)
        have HG8 := Lib.hid ((hb8.cell (p := ⟨gb, j, none⟩) (World.block_lt_of_cell? w7 _ HG7.out)).trans HG7.out)
        clear hb8
        go_simp
        refine HK2.out _ _ (And.intro HW8.out.2 HG8.out) (fun hHeld => ?_)
        clear HK2 K
        refine heldH_take (n := 3) (i := 20) (oi := _) (v := ?vk48_20) (dst := some 36) rfl rfl rfl (by kernel_rfl) (by kernel_rfl) (by kernel_rfl) (fun _ _ _ h => h) (Or.inl ⟨by rfl, ?hyk48_20⟩) (by assumption) ?restk48_20
        case hyk48_20 => intro u hSu; (try dsimp only at hSu); go_simp; try (with_reducible rfl)
        simp only [Act.put, List.setIfInBounds_toArray, List.set_cons_zero, List.set_cons_succ]
        refine heldH_take (n := 2) (i := 21) (oi := _) (v := ?vk49_21) (dst := some 37) rfl rfl rfl (by kernel_rfl) (by kernel_rfl) (by kernel_rfl) (fun _ _ _ h => h) (Or.inl ⟨by rfl, ?hyk49_21⟩) (by assumption) ?restk49_21
        case hyk49_21 => intro u hSu; (try dsimp only at hSu); go_simp; try (with_reducible rfl)
        simp only [Act.put, List.setIfInBounds_toArray, List.set_cons_zero, List.set_cons_succ]
        refine heldH_take (n := 1) (i := 22) (oi := _) (v := ?vk50_22) (dst := some 38) rfl rfl rfl (by kernel_rfl) (by kernel_rfl) (by kernel_rfl) (fun _ _ _ h => h) (Or.inl ⟨by rfl, ?hyk50_22⟩) (by assumption) ?restk50_22
        case hyk50_22 => intro u hSu; (try dsimp only at hSu); go_simp; try (with_reducible rfl)
        simp only [Act.put, List.setIfInBounds_toArray, List.set_cons_zero, List.set_cons_succ]
        refine heldH_take (n := 0) (i := 23) (oi := _) (v := ?vk51_23) (dst := some 4) rfl rfl rfl (by kernel_rfl) (by kernel_rfl) (by kernel_rfl) (fun _ _ _ h => h) (Or.inl ⟨by rfl, ?hyk51_23⟩) (by assumption) ?restk51_23
        case hyk51_23 => intro u hSu; (try dsimp only at hSu); go_simp; try (with_reducible rfl)
        simp only [Act.put, List.setIfInBounds_toArray, List.set_cons_zero, List.set_cons_succ]
        refine wpAnyH_done (by kernel_rfl) ?_ _
        --MZ
        go_wp2
        go_roundw
        case rel => exact ⟨i + 1, by omega, by go_num, by rw [HCAT.out, ← HSN.out], HW8.out.1.1⟩
        case measure => simp [intOf]; omega
    · obtain rfl : i = n := by omega
      rw [List.take_of_length_le (by omega)]
      have hii : ¬ (i : Int) < (i : Int) := by omega
      go_wp2
      go_ret2
      exact ⟨HB1.out.trans (hb.mono HB1.out.size), .inl ⟨rfl, HRR.out⟩⟩
end Go.Proofs.YtlikbmbcjipolaaDoor
