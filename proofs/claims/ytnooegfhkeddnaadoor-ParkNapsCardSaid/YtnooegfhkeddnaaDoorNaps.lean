/-
  Both lots: Wake, Cell, At; a slice of naps.
-/
import Derived.Test.YtnooegfhkeddnaaDoorBoth
import Derived.Test.YtnooegfhkeddnaaDoorEqI
import Derived.Test.YtnooegfhkeddnaaDoorOpenS
namespace Go.Proofs.YtnooegfhkeddnaaDoor
set_option maxRecDepth 100000
open Go.RowKit Go.Shelf
open Go.ChangeShapes Go.WideShapes Go.Deep

def WokeTwo (w0 w1 : World) (p r bs bw m : Nat) (nt : Int) (A : Option Addr) (out : List Int) (e : Ending) (w2 : World) : Prop :=
  ∃ A2 c2, e = .returned (.slice A2 out.length c2) ∧ Ints .i64 w2 w2.heap.size A out.length out ∧ Ints .i64 w2 w2.heap.size A2 out.length out ∧ NapKept w1 w2 ∧ Both w0 w2 p r bs bw m nt
def WokeOne (w0 w : World) (p r bs bw m : Nat) (nt c n : Int) (out : List Int) (e : Ending) (w1 : World) : Prop :=
  ∃ A cc, e = .returned (.slice A out.length cc) ∧ NapKept w w1 ∧ Calls Tryd.prog 24 #[.pointer (some ⟨r, 0, none⟩), .int .i64 c, .int .i64 n] w1 (WokeTwo w0 w1 p r bs bw m nt A out)

theorem Same.upTo_wf {L : List (Int × Int × Nat)} {f g : Int → Option Int} {clock : Nat} (h : Same L f g clock) (c : Int) : ∀ t ∈ threadsAt (L.map pr) c, (Lit.int .i64 t).wf = true := by
  intro t ht
  unfold threadsAt at ht
  obtain ⟨s, hs, rfl⟩ := List.mem_map.1 ht
  obtain ⟨x, hx, rfl⟩ := List.mem_map.1 (List.mem_filter.1 hs).1
  have := h.ok x hx
  exact wf_small _ (by show _ ≤ x.1; omega) (by show x.1 ≤ _; omega)

theorem wake_both {w0 w : World} {p r bs bw m : Nat} {nt : Int} (h : Both w0 w p r bs bw m nt) (hm : m ≤ 900) (c n : Int) :
    ∃ out : List Int, out.length ≤ 1000 ∧ Calls Tryd.prog 23 #[.pointer (some ⟨p, 0, none⟩), .int .i64 c, .int .i64 n] w (WokeOne w0 w p r bs bw m nt c n out) := by
  obtain ⟨L, v, f, g, clock, hL, hR, hS, hk1, hk2, hb⟩ := h
  have hlen : (L.map pr).length ≤ 1000 := by rw [List.length_map]; omega
  have hTl := threadsAt_length (L.map pr) c
  obtain ⟨out, ho⟩ : ∃ out, (threadsAt (L.map pr) c).take (wakeN n (threadsAt (L.map pr) c)) = out := ⟨_, rfl⟩
  have hw := wake_any hL hlen c n
  rw [ho] at hw
  refine ⟨out, by rw [← ho, List.length_take]; omega, hw.mono ?_⟩
  rintro e w1 ⟨v', A, cc, rfl, hI, hL1, hk, _, hfr⟩
  have hR1 : RLot w1 w0.heap.size r nt (clock : Int) bs bw m f g := hR.beside hL fun k hk1 hk2 hk3 => hk.block k hk1 (by
    rintro (h | h)
    · exact hk2 h
    · exact hk3 h)
  have hb1 : Below w0.heap.size w0 w1 := hb.trans (hk.below hb.size fun k hk => by
    rcases hk with rfl | hk
    · exact hL.lo
    · exact (hL.own.lt k hk.symm).1)
  refine ⟨A, cc, rfl, NapKept.lot hL (fun k hk1 hk2 hk3 => hk.block k hk1 (by
    rintro (h | h)
    · exact hk2 h
    · exact hk3 h)), ?_⟩
  have hrat := rat_any hR1 c (hitOf L c) clock rfl (by omega) (hS.hit_wf c) (fun k t _ => hS.hit c k t)
  rw [← hS.at_ c] at hrat
  have hrw := rwake_any hR1 c n _ hrat (by omega) (hS.upTo_wf c)
  rw [ho] at hrw
  refine hrw.mono ?_
  rintro e w2 ⟨A2, c2, rfl, hI2, hR2, hg2⟩
  have hkp : Keeps (fun k => k = r ∨ k = bs ∨ k = bw) w1 w2 := Keeps.of_grown hg2 (fun k e => .inr (.inl (by injection e with e; exact e.symm)))
  have hlt := hR.since.lt
  refine ⟨A2, c2, rfl, hI.keeps2 (S := fun k => k = bs) (Keeps.of_grown hg2 (fun k e => by injection e with e; exact e.symm)) (Nat.le_refl _) (fun h0 => by
    obtain ⟨b, off, e, hb⟩ := hfr h0
    exact ⟨b, off, e, by omega⟩), hI2, NapKept.rlot hR1 hkp, ?_⟩
  refine ⟨_, v', _, _, clock, ?_, hR2, hS.drop out, hk1, Nat.le_trans (List.length_filter_le _ _) hk2, hR1.below hb1 hb1.size hkp⟩
  rw [drop_rest]
  exact hL1.beside hR1 hkp

theorem cell_both {w0 w : World} {p r bs bw m : Nat} {nt : Int} (h : Both w0 w p r bs bw m nt) (t : Int) (ht : (Lit.int .i64 t).wf = true) :
    ∃ k : Int, Calls Tryd.prog 27 #[.pointer (some ⟨p, 0, none⟩), .int .i64 t] w (Told1 k w) ∧
      ∀ w', w.grownBy w' none → Calls Tryd.prog 28 #[.pointer (some ⟨r, 0, none⟩), .int .i64 t] w' (fun e w2 => e = .returned (.int .i64 k) ∧ w' = w2) := by
  obtain ⟨L, v, f, g, clock, hL, hR, hS, hk1, hk2, hb⟩ := h
  refine ⟨rcell f g t, ?_, fun w' hg => rcell_any (hR.grown hg (by simp) (by simp) (by simp)) t ht⟩
  rw [← hS.cell t]
  exact cell_any hL t

theorem at_both {w0 w : World} {p r bs bw m : Nat} {nt : Int} (h : Both w0 w p r bs bw m nt) (hm : m ≤ 900) (c : Int) :
    ∃ T : List Int, T.length ≤ 1000 ∧ (∀ w', w.grownBy w' none → Calls Tryd.prog 29 #[.pointer (some ⟨p, 0, none⟩), .int .i64 c] w' (ToldInts T w')) ∧
      ∀ w', w.grownBy w' none → Calls Tryd.prog 30 #[.pointer (some ⟨r, 0, none⟩), .int .i64 c] w' (ToldInts T w') := by
  obtain ⟨L, v, f, g, clock, hL, hR, hS, hk1, hk2, hb⟩ := h
  have hlen : (L.map pr).length ≤ 1000 := by rw [List.length_map]; omega
  refine ⟨threadsAt (L.map pr) c, Nat.le_trans (threadsAt_length _ _) hlen, fun w' hg => at_any (hL.grow hg) hlen c, fun w' hg => ?_⟩
  rw [hS.at_ c]
  exact rat_any (hR.grown hg (by simp) (by simp) (by simp)) c (hitOf L c) clock rfl (by omega) (hS.hit_wf c) (fun k t _ => hS.hit c k t)

/-- A slice of naps. -/
structure Naps (w : World) (B : Nat) (A : Option Addr) (n : Nat) (xs : List (Int × Int × Int)) : Prop where
  len : xs.length = n
  row : 0 < n → ∃ b off, A = some ⟨b, off, none⟩ ∧ b < B ∧ ∀ i, i < n → w.cell? ⟨b, off + i * 3, none⟩ = some (.int .i64 (xs.getD i default).1) ∧ w.cell? ⟨b, off + i * 3 + 1, none⟩ = some (.int .i64 (xs.getD i default).2.1) ∧ w.cell? ⟨b, off + i * 3 + 2, none⟩ = some (.int .i64 (xs.getD i default).2.2) ∧ (Lit.int .i64 (xs.getD i default).2.1).wf = true

theorem Naps.below {w w' : World} {B n : Nat} {A : Option Addr} {xs : List (Int × Int × Int)} (h : Naps w B A n xs) (hb : Below B w w') : Naps w' B A n xs :=
  ⟨h.len, fun h0 => by
    obtain ⟨b, off, e, hlt, hc⟩ := h.row h0
    refine ⟨b, off, e, hlt, fun i hi => ?_⟩
    obtain ⟨h1, h2, h3, h4⟩ := hc i hi
    exact ⟨(hb.cell (p := ⟨b, _, none⟩) hlt).trans h1, (hb.cell (p := ⟨b, _, none⟩) hlt).trans h2, (hb.cell (p := ⟨b, _, none⟩) hlt).trans h3, h4⟩⟩

theorem naps_of {H : Type} {enc : TypeId × Value → H} {w : World} {base : Nat} {spare : Nat → Bool} {held : Bool} {fuel : Nat} {a : Option Addr} {len cap : Nat} {x : DataW H × List MemPlace}
    (h : DataW.trod enc Tryd.prog w base spare held fuel 50 [.slice a len cap] = some x) : ∃ naps, Naps w w.heap.size a len naps := by
  rcases open_structs Tryd.underlying50 Tryd.underlying57 (by kernel_rfl) (by kernel_rfl) h with h0 | ⟨ad, l, c, hcs, _, _, hi⟩
  · simp only [List.cons.injEq, Value.slice.injEq, and_true] at h0
    obtain ⟨rfl, rfl, _⟩ := h0
    exact ⟨[], rfl, fun h => absurd h (Nat.lt_irrefl 0)⟩
  · simp only [List.cons.injEq, Value.slice.injEq, and_true] at hcs
    obtain ⟨rfl, rfl, _⟩ := hcs
    have hall : ∀ i, i < len → ∃ s : Int × Int × Int, w.cell? ((ad.add (i * 3)).add 0) = some (.int .i64 s.1) ∧ w.cell? ((ad.add (i * 3)).add 1) = some (.int .i64 s.2.1) ∧ w.cell? ((ad.add (i * 3)).add 2) = some (.int .i64 s.2.2) ∧ (Lit.int .i64 s.2.1).wf = true := by
      intro i hlt
      obtain ⟨v0, y0, n0, c0, t0⟩ := hi i hlt 0 _ rfl
      obtain ⟨v1, y1, n1, c1, t1⟩ := hi i hlt 1 _ rfl
      obtain ⟨v2, y2, n2, c2, t2⟩ := hi i hlt 2 _ rfl
      obtain ⟨z0, e0, _, _⟩ := DataW.trod_int Tryd.underlying3 t0
      obtain ⟨z1, e1, _, hwf⟩ := DataW.trod_int Tryd.underlying3 t1
      obtain ⟨z2, e2, _, _⟩ := DataW.trod_int Tryd.underlying3 t2
      simp only [List.cons.injEq, and_true] at e0 e1 e2
      subst e0 e1 e2
      exact ⟨(z0, z1, z2), c0, c1, c2, hwf⟩
    obtain ⟨xs, hl, hx⟩ := choose_list len hall
    refine ⟨xs, hl, fun h0 => ?_⟩
    obtain ⟨b, off, spot⟩ := ad
    have c0 := (hx 0 h0).1
    have hspot : spot = none := by simpa [Addr.add] using World.cell?_spot c0
    subst hspot
    have hlt : b < w.heap.size := by
      have := World.block_lt_of_cell? w _ c0
      simpa [Addr.add] using this
    have ha : ∀ i j, ((⟨b, off, none⟩ : Addr).add i).add j = ⟨b, off + i + j, none⟩ := by
      intro i j
      unfold Addr.add
      by_cases hi0 : i = 0 <;> by_cases hj0 : j = 0 <;> simp [hi0, hj0]
    refine ⟨b, off, rfl, hlt, fun i hi2 => ?_⟩
    obtain ⟨h1, h2, h3, h4⟩ := hx i hi2
    rw [ha] at h1 h2 h3
    exact ⟨h1, h2, h3, h4⟩
end Go.Proofs.YtnooegfhkeddnaaDoor
