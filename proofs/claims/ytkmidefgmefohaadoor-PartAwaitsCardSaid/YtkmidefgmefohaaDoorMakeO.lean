/-
  How memories come to be: slices.Clone, Words, mem.Of, mem.New; the laws' own 'memory' and 'pick'.
-/
import Derived.Test.YtkmidefgmefohaaDoorMem
import Derived.Test.YtkmidefgmefohaaDoorEqU
namespace Go.Proofs.YtkmidefgmefohaaDoor
set_option maxRecDepth 100000
open Go.RowKit

theorem infoU64 : (Tryd.prog.info? 50).map (fun i => (i.zero, i.size, i.bytes)) = some (some (.int .u64 0), 1, 8) := by kernel_rfl

theorem news_of_ints {k : IntKind} {w : World} {B : Nat} {ad : Addr} {n : Nat} {xs : List Int} (h : Ints k w B (some ad) n xs) : ∀ j u, (xs.map (Value.int k))[j]? = some u → w.cell? (ad.add j) = some u := by
  intro j u hu
  rw [List.getElem?_map] at hu
  obtain ⟨x, hx, rfl⟩ := Option.map_eq_some_iff.1 hu
  have hj : j < xs.length := (List.getElem?_eq_some_iff.1 hx).1
  have hl := h.len
  obtain ⟨b, off, e, _, hc⟩ := h.row (by omega)
  obtain rfl : ad = ⟨b, off, none⟩ := by injection e
  have h1 := hc j (by omega)
  rw [List.getD_eq_getElem?_getD, hx] at h1
  have ha : (⟨b, off, none⟩ : Addr).add j = ⟨b, off + j, none⟩ := by unfold Addr.add; split <;> simp_all
  rw [ha]
  exact h1

set_option maxHeartbeats 400000 in
theorem cloneU_any {w : World} {B : Nat} (A : Option Addr) (n c : Nat) (xs : List Int) (h : Ints .u64 w B A n xs) (hn : n ≤ 17592186044416) :
    Calls Tryd.prog 46 #[.slice A n c] w fun e w' => ∃ v, e = .returned v ∧ w'.ownsRow w.heap.size 50 1 v n (xs.map (Value.int .u64)) ∧ w.grownBy w' none := by
  rcases A with _ | ad
  · have h0 : n = 0 := by
      rcases Nat.eq_zero_or_pos n with h0 | h0
      · exact h0
      · obtain ⟨_, _, e, _⟩ := h.row h0
        cases e
    subst h0
    have hx : xs = [] := List.eq_nil_of_length_eq_zero h.len
    subst hx
    have hq := fun (w : World) => Lib.run_eql_slice_nil (P := Tryd.prog) w 51 50 none 0 c 0 0 Tryd.underlying51
    clear h
    go_enter Tryd.func46, Tryd.ntmps46
    go_wp2
    go_ret
    exact ⟨_, rfl, World.ownsRow_nil _ _ _ _, World.grownBy.refl w _⟩
  · have hq := fun (w : World) => Lib.run_eql_slice_nil (P := Tryd.prog) w 51 50 (some ad) n c 0 0 Tryd.underlying51
    have hnews := news_of_ints h
    have hl := h.len
    obtain ⟨i0, hi, hz0, hz1, hz2⟩ := info_parts infoU64
    clear h
    go_enter Tryd.func46, Tryd.ntmps46
    have hown0 := World.ownsRow_made (base := w.heap.size) (e := 50) (size := 1) w #[] 0 (Nat.le_refl _) (by decide) rfl
    have hnews' : ∀ j u, (xs.map (Value.int .u64))[j]? = some u → (w.alloc (.cells #[] 50)).cell? (ad.add j) = some u := fun j u hu => Lib.cell?_alloc_some _ (hnews j u hu)
    have H0 := Lib.hid hown0
    have H1 := Lib.hid hnews'
    have H2 := Lib.hid hl
    clear hown0 hnews' hl hnews
    go_wp2_with (at_builtin; refine wpList_append_own _ rfl (.tmp 5) (.tmp 6) 51 rfl w.heap.size 50 i0 (.int .u64 0) 1 8 Tryd.underlying51 hi hz0 hz1 hz2 rfl (by decide) _ 0 [] rfl H0.out ad n c (xs.map (Value.int .u64)) rfl ?c1 H1.out ?c2 ?c3 ?c4 ?c5 ?_)
    case c1 => rw [List.length_map, H2.out, Nat.mul_one]
    case c2 => intro u hu; obtain ⟨x, _, rfl⟩ := List.mem_map.1 hu; rfl
    case c3 => unfold maxLen; omega
    case c4 => omega
    case c5 => simp
    intro v' w1 hown1 hg1 _
    have hg := (World.grownBy_alloc w (.cells #[] 50) none).andThen hg1 (by intro j hj; simp only [Value.ownBlock, Option.some.injEq] at hj; omega)
    have H3 := Lib.hid hown1
    have H4 := Lib.hid hg1
    clear hown1 hg1 H0 H1
    go_wp2
    go_ret
    exact ⟨v', rfl, by simpa using H3.out, hg⟩

theorem mem_made {w : World} {B0 : Nat} {v : Value} {n : Nat} {xs : List Int} (hl : xs.length = n) (hB : B0 ≤ w.heap.size) (hown : w.ownsRow B0 50 1 v n (xs.map (Value.int .u64))) :
    Mem (w.alloc (.cells #[v] 94)) B0 w.heap.size v xs :=
  ⟨heap_alloc_new w _, by rw [hl]; exact hown.alloc _, hB⟩

theorem slice_of_own {w : World} {B e sz : Nat} {v : Value} {n : Nat} {xs : List Value} (h : w.ownsRow B e sz v n xs) : ∃ A c, v = .slice A n c := by
  rcases h.2 with ⟨rfl, e⟩ | ⟨g, cap, cur, rfl, _⟩
  · exact ⟨none, 0, by rw [e]⟩
  · exact ⟨_, _, rfl⟩

/-- What a call that makes a memory of the cells xs comes to. -/
def MadeMem (w : World) (xs : List Int) (e : Ending) (w' : World) : Prop :=
  ∃ m v, e = .returned (.tuple #[.pointer (some ⟨m, 0, none⟩), .nilIface]) ∧ Mem w' w.heap.size m v xs ∧ w.grownBy w' none

set_option maxHeartbeats 400000 in
theorem of_ok {w : World} {B : Nat} (A : Option Addr) (n c : Nat) (xs : List Int) (h : Ints .u64 w B A n xs) (hn : n ≤ 300) :
    Calls Tryd.prog 32 #[.slice A n c] w (MadeMem w xs) := by
  have hl := h.len
  have hcl := cloneU_any A n c xs h (by omega)
  have hn' : ¬ (300 : Int) < (n : Int) := by omega
  have H := Lib.hid hcl
  have H2 := Lib.hid hl
  clear h hcl hl
  go_enter Tryd.func32, Tryd.ntmps32
  go_wp2_with fail
  refine H.out.mono ?_
  rintro e w1 ⟨v, rfl, hown, hg⟩
  obtain ⟨A', c', rfl⟩ := slice_of_own hown
  have H3 := Lib.hid hown
  have H4 := Lib.hid hg
  clear hown hg H
  go_wp2
  go_ret2
  exact ⟨w1.heap.size, _, rfl, mem_made H2.out H4.out.size H3.out, H4.out.andThen (World.grownBy_alloc _ _ none) (by intro j hj; cases hj)⟩

set_option maxHeartbeats 400000 in
theorem words_any {w : World} {B m : Nat} {v : Value} {xs : List Int} (h : Mem w B m v xs) (hn : xs.length ≤ 17592186044416) :
    Calls Tryd.prog 41 #[.pointer (some ⟨m, 0, none⟩)] w fun e w' => ∃ v', e = .returned v' ∧ w'.ownsRow w.heap.size 50 1 v' xs.length (xs.map (Value.int .u64)) ∧ w.grownBy w' none := by
  obtain ⟨A, c, rfl⟩ := slice_of_own h.own
  have hI : Ints .u64 w w.heap.size A xs.length xs := Ints.of_own h.own
  have hm := h.cell
  have H := Lib.hid (cloneU_any A xs.length c xs hI hn)
  clear h hI
  generalize xs.length = n at *
  go_enter Tryd.func41, Tryd.ntmps41
  go_wp2_with fail
  refine H.out.mono ?_
  rintro e w1 ⟨v', rfl, hown, hg⟩
  have H3 := Lib.hid hown
  have H4 := Lib.hid hg
  clear hown hg H hm
  go_wp2
  go_ret
  exact ⟨v', rfl, H3.out, H4.out⟩
end Go.Proofs.YtkmidefgmefohaaDoor
