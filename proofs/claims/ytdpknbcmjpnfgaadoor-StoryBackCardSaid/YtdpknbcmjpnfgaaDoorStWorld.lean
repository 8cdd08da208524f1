/-
  The worlds in which package story runs: its names, and the library's variables that Itoa and Atoi read; what is carried on. What a word is as a number.
-/
import Derived.Test.YtdpknbcmjpnfgaaDoorStA
import Derived.Test.YtdpknbcmjpnfgaaDoorCStr
namespace Go.Proofs.YtdpknbcmjpnfgaaDoor
set_option maxRecDepth 100000
open Go.RowKit Go.Sort
set_option linter.unusedVariables false
set_option linter.unusedSimpArgs false

theorem g_sayn : Tryd.prog.globalNamed "quadrille/story.names" = some 0 := by kernel_rfl
theorem g_spow : Tryd.prog.globalNamed "internal/strconv.uint64pow10" = some 3 := by kernel_rfl

def sayCells : Array Value := #[.string ⟨#[99, 97, 109, 101]⟩, .string ⟨#[103, 111, 110, 101]⟩, .string ⟨#[116, 111, 108, 100]⟩]

/-- What is wanted to print. -/
structure SP (w : World) : Prop where
  names : w.var? Tryd.prog "quadrille/story.names" = some sayCells
  pow : Lib.TabIs Tryd.prog w "internal/strconv.uint64pow10" .u64 Lib.pow10Tab
  big : 4 ≤ w.heap.size

theorem SP.below {w w' : World} {B : Nat} (h : SP w) (hb : Below B w w') (hB : 4 ≤ B) : SP w' :=
  ⟨var?_below hb g_sayn (by omega) h.names, var?_below hb g_spow (by omega) h.pow, Nat.le_trans h.big hb.size⟩
theorem SP.old {w w' : World} (h : SP w) (hb : Below w.heap.size w w') : SP w' := h.below hb h.big

/-- What is wanted to parse. -/
structure SR (w : World) : Prop where
  sp : SP w
  es : ∃ te pe, w.cell? ⟨4, 0, none⟩ = some (.iface te pe)
  er : ∃ te pe, w.cell? ⟨5, 0, none⟩ = some (.iface te pe)

theorem SR.old {w w' : World} (h : SR w) (hb : Below w.heap.size w w') : SR w' := by
  refine ⟨h.sp.old hb, ?_, ?_⟩
  · obtain ⟨te, pe, he⟩ := h.es
    exact ⟨te, pe, (hb.cell (p := ⟨4, 0, none⟩) (World.block_lt_of_cell? w ⟨4, 0, none⟩ he)).trans he⟩
  · obtain ⟨te, pe, he⟩ := h.er
    exact ⟨te, pe, (hb.cell (p := ⟨5, 0, none⟩) (World.block_lt_of_cell? w ⟨5, 0, none⟩ he)).trans he⟩

theorem SP.name {w : World} (h : SP w) : ∀ j, j < 3 → w.cell? ⟨0, j, none⟩ = some (strV (sayW ((j : Nat) + 1 : Int)))
  | 0, _ => by rw [World.var?_cell g_sayn h.names]; rfl
  | 1, _ => by rw [World.var?_cell g_sayn h.names]; rfl
  | 2, _ => by rw [World.var?_cell g_sayn h.names]; rfl
  | n + 3, h => absurd h (by omega)

theorem st_itoa (n : Int) (hn : isInt n) (w : World) (h : SP w) : Calls Tryd.prog 35 #[.int .i64 n] w fun e w' => e = .returned (strV (Lib.itoa n)) ∧ Below w.heap.size w w' :=
  (Tryd.strconv_Itoa n hn.1 hn.2 w h.pow).mono fun _ _ ⟨he, hg⟩ => ⟨he, old_grow hg⟩

/-- What Atoi tells: a number and no error, or an error. -/
def StNum (s : List UInt8) (w : World) (e : Ending) (w' : World) : Prop := Below w.heap.size w w' ∧
  ((∃ n, Lib.atoiAll s = .ok n ∧ e = .returned (.tuple #[.int .i64 n, .nilIface])) ∨ ((∀ n, Lib.atoiAll s ≠ .ok n) ∧ ∃ n N, e = .returned (.tuple #[.int .i64 n, .iface 166 (.pointer (some ⟨N, 0, none⟩))])))

theorem st_atoi (s : List UInt8) (hs : s.length ≤ 4294967280) (w : World) (h : SR w) : Calls Tryd.prog 58 #[strV s] w (StNum s w) := by
  have hd : (⟨s.toArray⟩ : ByteArray).data.toList = s := by simp
  have hz : (⟨s.toArray⟩ : ByteArray).size = s.length := by simp [ByteArray.size]
  obtain ⟨t1, p1, hes⟩ := h.es
  obtain ⟨t2, p2, her⟩ := h.er
  rcases hr : Lib.atoiAll s with v | _ | _
  · exact (Tryd.strconv_Atoi_ok ⟨s.toArray⟩ (by omega) v (by rw [hd]; exact hr) w).mono fun _ _ ⟨he, hw⟩ => ⟨old_bytes hw, .inl ⟨v, hr, he⟩⟩
  · exact (Tryd.strconv_Atoi_syntax ⟨s.toArray⟩ (by omega) (by rw [hd, hr]; intro v hv; cases hv) (by rw [hd, hr]; intro hv; cases hv) _ w hes (.inr ⟨_, _, rfl⟩)).mono fun _ _ ⟨N, he, _, _, hb⟩ => ⟨hb, .inr ⟨(fun n hn => by rw [hr] at hn; cases hn), _, N, he⟩⟩
  · exact (Tryd.strconv_Atoi_range ⟨s.toArray⟩ (by omega) (by rw [hd]; exact hr) _ w her (.inr ⟨_, _, rfl⟩)).mono fun _ _ ⟨N, he, _, _, hb⟩ => ⟨hb, .inr ⟨(fun n hn => by rw [hr] at hn; cases hn), _, N, he⟩⟩

/-- What a word is told to be. -/
def StWord (s : List UInt8) (w : World) (e : Ending) (w' : World) : Prop := Below w.heap.size w w' ∧ ∃ m b, e = .returned (.tuple #[.int .i64 m, .bool b]) ∧ ((b = true ∧ numL s = some m) ∨ (b = false ∧ numL s = none))

set_option maxHeartbeats 1000000 in
theorem st_number (s : List UInt8) (hs : s.length ≤ 4294967280) (w : World) (h : SR w) : Calls Tryd.prog 50 #[strV s] w (StWord s w) := by
  have HA := Lib.hid (st_atoi s hs w h)
  have HC := Lib.hid h
  clear h
  unfold strV at HA ⊢
  go_enter Tryd.func50, Tryd.ntmps50
  go_wp2_with fail
  refine HA.out.mono ?_
  rintro e w1 ⟨hb, ⟨n, hn, rfl⟩ | ⟨hn, n, N, rfl⟩⟩
  · have HI := Lib.hid (st_itoa n (atoiAll_int hn) w1 (HC.out.old hb).sp)
    by_cases he : Lib.itoa n = s
    · have hN : numL s = some n := by unfold numL; rw [hn]; simp [he]
      go_wp2_with fail
      refine HI.out.mono ?_
      rintro e w2 ⟨rfl, hb2⟩
      unfold strV
      rw [he]
      go_wp2
      go_ret2
      exact ⟨hb.trans (hb2.mono hb.size), n, true, rfl, .inl ⟨rfl, hN⟩⟩
    · have hN : numL s = none := by unfold numL; rw [hn]; simp [he]
      have hnb : ((⟨(Lib.itoa n).toArray⟩ : ByteArray).toList == (⟨s.toArray⟩ : ByteArray).toList) = false := by
        rw [Lib.toList_data, Lib.toList_data]
        simpa using he
      go_wp2_with fail
      refine HI.out.mono ?_
      rintro e w2 ⟨rfl, hb2⟩
      unfold strV
      generalize (⟨(Lib.itoa n).toArray⟩ : ByteArray) = S at *
      generalize (⟨s.toArray⟩ : ByteArray) = T at *
      go_wp2
      go_ret2
      exact ⟨hb.trans (hb2.mono hb.size), 0, false, rfl, .inr ⟨rfl, hN⟩⟩
  · have hN : numL s = none := by
      unfold numL
      rcases hr : Lib.atoiAll s with v | _ | _
      · exact absurd hr (hn v)
      all_goals rfl
    go_wp2
    go_ret2
    exact ⟨hb, 0, false, rfl, .inr ⟨rfl, hN⟩⟩
end Go.Proofs.YtdpknbcmjpnfgaaDoor
