/-
  slices.Clone and slices.DeleteFunc at []int.
-/
import Derived.Test.YtpomjobgodfjmaaDelI
namespace Go.Proofs.Ytpomjobgodfjmaa
open Go.RowKit Go.Shelf

theorem news_of_intsI {k : IntKind} {w : World} {B : Nat} {ad : Addr} {n : Nat} {xs : List Int} (h : Ints k w B (some ad) n xs) : ∀ j u, (xs.map (Value.int k))[j]? = some u → w.cell? (ad.add j) = some u := by
  intro j u hu
  rw [List.getElem?_map] at hu
  obtain ⟨x, hx, rfl⟩ := Option.map_eq_some_iff.1 hu
  have hj : j < xs.length := (List.getElem?_eq_some_iff.1 hx).1
  have hl := h.len
  obtain ⟨b, off, e, _, hc⟩ := h.row (by omega)
  obtain rfl : ad = ⟨b, off, none⟩ := by injection e
  have h1 := hc j (by omega)
  rw [List.getD_eq_getElem?_getD, hx] at h1
  have ha : (⟨b, off, none⟩ : Addr).add j = ⟨b, off + j, none⟩ := by unfold Addr.add; split <;> simp_all
  rw [ha]
  exact h1

set_option maxHeartbeats 400000 in
theorem cloneI_any {w : World} {B : Nat} (A : Option Addr) (n c : Nat) (xs : List Int) (h : Ints .i64 w B A n xs) (hn : n ≤ 17592186044416) :
    Calls Try.prog 8 #[.slice A n c] w fun e w' => ∃ v, e = .returned v ∧ w'.ownsRow w.heap.size 3 1 v n (xs.map (Value.int .i64)) ∧ w.grownBy w' none := by
  rcases A with _ | ad
  · have h0 : n = 0 := by
      rcases Nat.eq_zero_or_pos n with h0 | h0
      · exact h0
      · obtain ⟨_, _, e, _⟩ := h.row h0
        cases e
    subst h0
    have hx : xs = [] := List.eq_nil_of_length_eq_zero h.len
    subst hx
    have hq := fun (w : World) => Lib.run_eql_slice_nil (P := Try.prog) w 22 3 none 0 c 0 0 Try.underlying22
    clear h
    go_enter Try.func8, Try.ntmps8
    go_wp2
    go_ret
    exact ⟨_, rfl, World.ownsRow_nil _ _ _ _, World.grownBy.refl w _⟩
  · have hq := fun (w : World) => Lib.run_eql_slice_nil (P := Try.prog) w 22 3 (some ad) n c 0 0 Try.underlying22
    have hnews := news_of_intsI h
    have hl := h.len
    obtain ⟨i0, hi, hz0, hz1, hz2⟩ := info_parts infoInt
    clear h
    go_enter Try.func8, Try.ntmps8
    have hown0 := World.ownsRow_made (base := w.heap.size) (e := 3) (size := 1) w #[] 0 (Nat.le_refl _) (by decide) rfl
    have hnews' : ∀ j u, (xs.map (Value.int .i64))[j]? = some u → (w.alloc (.cells #[] 3)).cell? (ad.add j) = some u := fun j u hu => Lib.cell?_alloc_some _ (hnews j u hu)
    have H0 := Lib.hid hown0
    have H1 := Lib.hid hnews'
    have H2 := Lib.hid hl
    clear hown0 hnews' hl hnews
    go_wp2_with (at_builtin; refine wpList_append_own _ rfl (.tmp 5) (.tmp 6) 22 rfl w.heap.size 3 i0 (.int .i64 0) 1 8 Try.underlying22 hi hz0 hz1 hz2 rfl (by decide) _ 0 [] rfl H0.out ad n c (xs.map (Value.int .i64)) rfl ?c1 H1.out ?c2 ?c3 ?c4 ?c5 ?_)
    case c1 => rw [List.length_map, H2.out, Nat.mul_one]
    case c2 => intro u hu; obtain ⟨x, _, rfl⟩ := List.mem_map.1 hu; rfl
    case c3 => unfold maxLen; omega
    case c4 => omega
    case c5 => simp
    intro v' w1 hown1 hg1 _
    have hg := (World.grownBy_alloc w (.cells #[] 3) none).andThen hg1 (by intro j hj; simp only [Value.ownBlock, Option.some.injEq] at hj; omega)
    have H3 := Lib.hid hown1
    have H4 := Lib.hid hg1
    clear hown1 hg1 H0 H1
    go_wp2
    go_ret
    exact ⟨v', rfl, by simpa using H3.out, hg⟩


set_option maxHeartbeats 1000000 in
theorem deleteFuncI_any {w : World} {B g cap : Nat} {l : List Int} (hown : w.ownsRow B 3 1 (.slice (some ⟨g, 0, none⟩) l.length cap) l.length (l.map (Value.int .i64))) (p : Int → Bool) (f : Nat) (lb : Array Value) (eg : ∀ args w, (callFunc f args).run Try.prog w = .ok (.enter f args) w) (hp : PredI f lb p w (some g)) :
    Calls Try.prog 7 #[.slice (some ⟨g, 0, none⟩) l.length cap, .func (.func f) #[] lb] w (CutI B g cap (keepI p l) w) := by
  obtain ⟨cur, hh, hb, hlc, hcm, hcs, hat⟩ := ownI_parts hown
  unfold maxLen at hcm
  have hf := indexFuncI_any _ _ cap l (Ints.of_own hown) (by omega) p f lb eg (some g) hp
  rcases firstI_cases p l with ⟨e1, hall⟩ | ⟨k0, hk0, e1, hpk, hpj⟩
  · rw [e1] at hf
    rw [keepI_all p l hall]
    have HF := Lib.hid hf
    have HO := Lib.hid hown
    clear hf hown hall e1 hat hh hp
    go_enter Try.func7, Try.ntmps7
    go_wp2_with fail
    refine HF.out.mono ?_
    rintro e w' ⟨rfl, hg⟩
    have ho := HO.out.kept hg (.inr (by simp [Value.ownBlock]))
    have HO2 := Lib.hid ho
    have HG := Lib.hid (hg.but (some g))
    clear ho hg HF HO
    go_wp2
    go_ret
    exact ⟨rfl, HO2.out, HG.out⟩
  · rw [e1] at hf
    have hne : ((k0 : Int) == -1) = false := beq_eq_false_iff_ne.2 (by omega)
    have hs0 : ∀ W, w.grownBy W none → SieveI w W g cap cur l p k0 (k0 + 1) := fun W hg => by
      have e : keepI p (l.take (k0 + 1)) = l.take k0 := by
        rw [keepI_step p l k0 hk0, hpk, if_pos rfl, List.append_nil, keepI_all]
        intro s hs
        obtain ⟨j, hj, rfl⟩ := List.mem_iff_getElem.1 hs
        have hj2 : j < k0 := by rw [List.length_take] at hj; omega
        have := hpj j hj2
        rw [List.getD_eq_getElem?_getD, List.getElem?_eq_getElem (by omega)] at this
        rw [List.getElem_take]
        exact this
      refine ⟨hk0, by omega, ⟨cur, (hg.block g (lt_of_block hh) (by simp)).trans hh, hcs, fun x hx => ?_, fun x _ => rfl⟩, by rw [e, List.length_take]; omega, hg.but _⟩
      rw [e, hat x (by omega), List.getElem?_map, List.getElem?_map, List.getElem?_take, if_pos hx]
    have S0 := Lib.hid hs0
    have HF := Lib.hid hf
    have HP := Lib.hid hp
    have HAT := Lib.hid hat
    have hlen9 : l.length ≤ 9223372036854775807 := by omega
    clear hs0 hf hp hat hown hpk hpj e1 hh
    go_enter Try.func7, Try.ntmps7
    go_wp2_with fail
    refine HF.out.mono ?_
    rintro e w' ⟨rfl, hg⟩
    have S1 := Lib.hid (S0.out w' hg)
    clear HF S0 hg
    go_wp2
    go_loopw [5, 6] (fun s5 s6 wr => ∃ i j : Nat, s5 = .int .i64 i ∧ s6 = .int .i64 j ∧ Hid (SieveI w wr g cap cur l p i j)) (fun _ s6 _ => l.length - (intOf s6).toNat)
    case atStart => exact ⟨k0, k0 + 1, rfl, by go_num, S1⟩
    case round =>
      obtain ⟨i, j, rfl, rfl, hS⟩ := hrel
      have hij := hS.out.hij
      have hjn := hS.out.hj
      obtain ⟨cu, hh, hcs2, _, hhi⟩ := hS.out.row
      by_cases hlt : j < l.length
      · have hjl : (j : Int) < (l.length : Int) := by omega
        have c1 : wr.cell? ⟨g, j, none⟩ = some (.int .i64 (l.getD j 0)) := by
          rw [cell_of_row wr g _ _ _ _ hh, hhi _ (by omega), HAT.out _ hlt, List.getElem?_map, List.getD_eq_getElem?_getD, List.getElem?_eq_getElem hlt]
          rfl
        obtain ⟨s, hs⟩ : ∃ s, l.getD j 0 = s := ⟨_, rfl⟩
        rw [hs] at c1
        have HS := Lib.hid hs
        have hglt : g < wr.heap.size := lt_of_block hh
        have hcall := HP.out wr s hS.out.grow
        have HC := Lib.hid hcall
        have HH := Lib.hid hh
        clear hs hhi hcall hh
        cases hq : p s with
        | true =>
          have hc := HC.out
          rw [hq] at hc
          have HC2 := Lib.hid hc
          have HQ := Lib.hid hq
          clear hc HC hq
          go_wp2_with fail
          refine HC2.out.mono ?_
          rintro e w1 ⟨rfl, hg1⟩
          have HS2 := Lib.hid (hS.out.drop hlt (by rw [HS.out]; exact HQ.out) hg1)
          clear hg1 HC2
          go_wp2
          go_roundw
          case rel => exact ⟨i, j + 1, rfl, by go_num, HS2⟩
          case measure => simp [intOf]; omega
        | false =>
          have hc := HC.out
          rw [hq] at hc
          have HC2 := Lib.hid hc
          have HQ := Lib.hid hq
          clear hc HC hq
          go_wp2_with fail
          refine HC2.out.mono ?_
          rintro e w1 ⟨rfl, hg1⟩
          have hS2 := hS.out.keep (w1 := w1) hlt hlc (by rw [HS.out]; exact HQ.out) hg1
          rw [HS.out] at hS2
          have hh1 : w1.heap[g]? = some (.cells cu 3 (0, 0)) := (hg1.block g hglt (by simp)).trans HH.out
          obtain ⟨o1, e3⟩ : ∃ o, w1.cell? ⟨g, i, none⟩ = some o := ⟨cu[i]'(by omega), by rw [cell_of_row w1 g _ _ _ _ hh1, Array.getElem?_eq_getElem (by omega)]⟩
          have e5 : w1.frozen? ⟨g, i, none⟩ = false := frozen_of_row w1 g _ _ _ hh1
          have hil : (i : Int) < (l.length : Int) := by omega
          have HS2 := Lib.hid hS2
          clear hS2 hg1 HC2 hh1 c1
          go_wp2
          go_roundw
          case rel => exact ⟨i + 1, j + 1, by go_num, by go_num, HS2⟩
          case measure => simp [intOf]; omega
      · obtain rfl : j = l.length := by omega
        have hjl : ¬ (l.length : Int) < (l.length : Int) := by omega
        have hz : ∀ w, (zeroValue 3).run Try.prog w = .ok (.int .i64 0) w := fun w => by kernel_rfl
        have hcl := fun ty => Lib.run_clear_slice (P := Try.prog) wr 22 3 ty (.int .i64 0) Try.underlying22 hz rfl rfl g i (l.length - i) (cap - i) (by omega) (fun x hx => by
          rw [cell_of_row wr g _ _ _ _ hh, Array.getElem?_eq_getElem (by omega)]
          rfl) (fun x _ => frozen_of_row wr g _ _ _ hh)
        have hset := heap_setCells g 3 (List.replicate (l.length - i) (.int .i64 0)) i wr cu hh
        have hlen := hS.out.len
        rw [List.take_length] at hlen
        have hend : (wr.setCells g i (List.replicate (l.length - i) (.int .i64 0))).ownsRow B 3 1 (.slice (some ⟨g, 0, none⟩) i cap) i ((keepI p l).map (Value.int .i64)) := by
          refine ownI_of_parts hlen hset.1 hb (by omega) (by unfold maxLen; omega) (by rw [laid_size, hcs2]) (fun x hx => ?_)
          rw [laid_at _ _ _ _ (by rw [List.length_replicate, hcs2]; omega), if_neg (by omega)]
          obtain ⟨cu', hh', _, h3, _⟩ := hS.out.row
          rw [hh] at hh'
          injection hh' with hh'
          injection hh' with hh'
          subst hh'
          rw [List.take_length] at h3
          exact h3 x (by omega)
        have hgrow := hS.out.grow.andThen hset.2 (fun k hk => .inr hk)
        have X := Lib.hid hend
        have Y := Lib.hid hgrow
        have Z := Lib.hid hlen
        have hic : i ≤ cap := by omega
        have hil : i ≤ l.length := by omega
        have hne2 : ¬ cap = i := by omega
        have hi0 : (0 : Int) ≤ (i : Int) := by omega
        clear hend hgrow hset hh hhi hlen hS HP hz
        go_wp2
        go_ret
        unfold CutI
        have x := X.out
        rw [Z.out]
        exact ⟨rfl, x, Y.out⟩
end Go.Proofs.Ytpomjobgodfjmaa
