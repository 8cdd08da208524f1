/-
  Lots: who sleeps at a cell (At), and falling asleep (Sleep).
-/
import Derived.Test.YtnooegfhkeddnaaDoorLotA
namespace Go.Proofs.YtnooegfhkeddnaaDoor
set_option maxRecDepth 100000
open Go.RowKit Go.Shelf

theorem infoInt : (Tryd.prog.info? 3).map (fun i => (i.zero, i.size, i.bytes)) = some (some (.int .i64 0), 1, 8) := by kernel_rfl

theorem news_one {w : World} {x : Value} {t : TypeId} {n : Nat} (hn : n = w.heap.size) : ∀ j u, [x][j]? = some u → (w.alloc (.cells #[x] t)).cell? ((⟨n, 0, none⟩ : Addr).add j) = some u := by
  subst hn
  exact cell_one_new w x t

/-- The threads of those that sleep at cell c, in order. -/
def threadsAt (l : List (Int × Int)) (c : Int) : List Int := (l.filter (fun s => s.2 == c)).map (·.1)

theorem threadsAt_length (l : List (Int × Int)) (c : Int) : (threadsAt l c).length ≤ l.length := by
  unfold threadsAt
  rw [List.length_map]
  exact List.length_filter_le _ _

theorem threadsAt_take (l : List (Int × Int)) (c : Int) (k : Nat) (hk : k < l.length) :
    threadsAt (l.take (k + 1)) c = threadsAt (l.take k) c ++ (if (l.getD k default).2 == c then [(l.getD k default).1] else []) := by
  unfold threadsAt
  rw [List.take_succ_eq_append_getElem hk, List.filter_append, List.map_append, List.getD_eq_getElem?_getD, List.getElem?_eq_getElem hk]
  congr 1
  simp only [List.filter_cons, List.filter_nil, Option.getD_some]
  split <;> rfl

/-- What a call that tells threads comes to: a row of the call's own. -/
def ToldInts (xs : List Int) (w : World) (e : Ending) (w' : World) : Prop :=
  ∃ v, e = .returned v ∧ w'.ownsRow w.heap.size 3 1 v xs.length (xs.map (Value.int .i64)) ∧ w.grownBy w' none

set_option maxHeartbeats 1000000 in
theorem at_any {w : World} {B p : Nat} {nt : Int} {v : Value} {l : List (Int × Int)} (h : Lot w B p nt v l) (hsmall : l.length ≤ 1000) (c : Int) :
    Calls Tryd.prog 29 #[.pointer (some ⟨p, 0, none⟩), .int .i64 c] w (ToldInts (threadsAt l c) w) := by
  obtain ⟨⟨A, cap, rfl, hr⟩, _⟩ := h.row2
  obtain ⟨_, hc1, _⟩ := h.cells
  obtain ⟨n, hn⟩ : ∃ n, l.length = n := ⟨_, rfl⟩
  rw [hn] at hr hc1 hsmall
  obtain ⟨i0, hi, hz0, hz1, hz2⟩ := info_parts infoInt
  have HN := Lib.hid hn
  clear h hn
  go_enter Tryd.func29, Tryd.ntmps29
  go_wp2
  clear hc1
  go_loopw [5, 13] (fun v j wr => ∃ k : Nat, k ≤ n ∧ j = .int .i64 k ∧ w.grownBy wr none ∧ wr.ownsRow w.heap.size 3 1 v (threadsAt (l.take k) c).length ((threadsAt (l.take k) c).map (Value.int .i64))) (fun _ j _ => n - (intOf j).toNat)
  case atStart => exact ⟨0, Nat.zero_le _, rfl, World.grownBy.refl w _, World.ownsRow_nil _ _ _ _⟩
  case round =>
    obtain ⟨k, hk, rfl, hg, hown⟩ := hrel
    by_cases hlt : k < n
    · have hkn : (k : Int) < (n : Int) := by omega
      obtain ⟨b, rfl, hb, hc⟩ := hr (by omega)
      obtain ⟨c1, c2⟩ := hc k hlt
      have hbl := hg.block b hb (by simp)
      have d1 := (World.cell?_of_block (a := ⟨b, k * 2, none⟩) hbl).trans c1
      have d2 := (World.cell?_of_block (a := ⟨b, k * 2 + 1, none⟩) hbl).trans c2
      have hstep := threadsAt_take l c k (by rw [HN.out]; exact hlt)
      have hbw : b < wr.heap.size := Nat.lt_of_lt_of_le hb hg.size
      have hbne : b ≠ wr.heap.size := by omega
      have hTl : (threadsAt (l.take k) c).length ≤ 1000 := by
        have h1 := threadsAt_length (l.take k) c
        rw [List.length_take] at h1
        omega
      obtain ⟨s, hs⟩ : ∃ s, l.getD k default = s := ⟨_, rfl⟩
      rw [hs] at d1 d2 hstep
      obtain ⟨T, hT⟩ : ∃ T, threadsAt (l.take k) c = T := ⟨_, rfl⟩
      rw [hT] at hstep hTl hown
      rcases s with ⟨s1, s2⟩
      dsimp only at d1 d2 hstep
      have HST := Lib.hid hstep
      have HG := Lib.hid hg
      have HO := Lib.hid hown
      clear hc c1 c2 hbl hr hs hg hT hstep hown
      cases hq : s2 == c with
      | true =>
        have hst := HST.out
        rw [hq, if_pos rfl] at hst
        clear HST
        have HST := Lib.hid hst
        clear hst
        have h1c : ∀ u ∈ [Value.int .i64 s1], u.oneCell' = true := by intro u hu; rw [List.mem_singleton.1 hu]; rfl
        have H1C := Lib.hid h1c
        clear h1c
        go_wp2_with (at_builtin; refine wpList_append_own _ rfl (.tmp 21) (.tmp 24) 61 rfl w.heap.size 3 i0 (.int .i64 0) 1 8 Tryd.underlying61 hi hz0 hz1 hz2 rfl (by decide) _ T.length (T.map (Value.int .i64)) rfl ?hown ⟨wr.heap.size + 1, 0, none⟩ 1 1 [.int .i64 s1] rfl rfl ?c1 H1C.out ?c3 ?c4 ?c5 ?_)
        case hown => exact (HO.out.alloc _).alloc _
        case c1 => exact news_one (by simp)
        case c3 => unfold maxLen; omega
        case c4 => omega
        case c5 => have := HG.out.size; simp; omega
        intro v' w1 hown1 hg1 _
        have hgw : w.grownBy w1 none := (HG.out.andThen ((World.grownBy_alloc _ _ none).andThen (World.grownBy_alloc _ _ none) (by intro j hj; cases hj)) (by intro j hj; cases hj)).andThen hg1 (fun j hj => .inl (HO.out.lt j hj).1)
        have hown2 : w1.ownsRow w.heap.size 3 1 v' (threadsAt (l.take (k + 1)) c).length ((threadsAt (l.take (k + 1)) c).map (Value.int .i64)) := by
          rw [HST.out, List.length_append, List.map_append]
          exact hown1
        have H1 := Lib.hid hgw
        have H2 := Lib.hid hown2
        clear hown1 hg1 hgw hown2 d1 d2
        go_wp2
        go_roundw
        case rel => exact ⟨k + 1, by omega, by go_num, H1.out, H2.out⟩
        case measure => simp [intOf]; omega
      | false =>
        have hst := HST.out
        rw [hq, if_neg (by simp), List.append_nil] at hst
        clear HST
        have HST := Lib.hid hst
        clear hst
        go_wp2
        go_roundw
        case rel =>
          refine ⟨k + 1, by omega, by go_num, HG.out.andThen (World.grownBy_alloc _ _ none) (by intro j hj; cases hj), ?_⟩
          rw [HST.out]
          exact HO.out.alloc _
        case measure => simp [intOf]; omega
    · have hkn : ¬ (k : Int) < (n : Int) := by omega
      have e : l.take k = l := List.take_of_length_le (by rw [HN.out]; omega)
      rw [e] at hown
      have HO := Lib.hid hown
      have HG := Lib.hid hg
      clear hown hg
      go_wp2
      go_ret
      exact ⟨_, rfl, HO.out, HG.out⟩
end Go.Proofs.YtnooegfhkeddnaaDoor
