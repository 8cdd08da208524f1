/-
  A script that came in by value.
-/
import Derived.Test.YtlikbmbcjipolaaDoorOpenS
import Derived.Test.YtlikbmbcjipolaaDoorMvRow
import Derived.ProofKit
import Derived.OpenShut
import Derived.ChangeOld
import Derived.Lib.SmallJoins
import Derived.SizedLaws
namespace Go.Proofs.YtlikbmbcjipolaaDoor
set_option maxRecDepth 100000
open Go.ChangeShapes Go.WideShapes Go.Deep Go.RowKit Go.Joins

section
variable {H : Type} {enc : TypeId × Value → H} {w : World} {base : Nat} {spare : Nat → Bool} {held : Bool}

theorem script_of {r : Reach} {b0 : Nat} {v : Value} {d : DataW H} {p : List MemPlace} (hv : Value.okWide Tryd.prog w r b0 24 v) (h : DataW.Trod enc Tryd.prog w base spare held 24 v d p) :
    ∃ (x y z : Int) (A : Option Addr) (len cap : Nat) (l : List (Int × Bool)), v = .agg #[.int .i64 x, .int .i64 y, .int .i64 z, .slice A len cap] ∧ Moves w w.heap.size A len l ∧ ((d.weights Tryd.prog 24).all (· ≤ reachBytes) = true → len ≤ 17592186044416) := by
  obtain ⟨v0, v1, v2, v3, y0, y1, y2, y3, n, rfl, rfl, _, t0, t1, t2, t3⟩ := open_agg4 Tryd.underlying24 (by kernel_rfl) (by kernel_rfl) hv h
  obtain ⟨x, e0, _, _⟩ := DataW.trod_int Tryd.underlying3 t0
  obtain ⟨y, e1, _, _⟩ := DataW.trod_int Tryd.underlying3 t1
  obtain ⟨z, e2, _, _⟩ := DataW.trod_int Tryd.underlying3 t2
  simp only [List.cons.injEq, and_true] at e0 e1 e2
  subst e0 e1 e2
  obtain ⟨A, len, cap, hv3, hw⟩ : ∃ (A : Option Addr) (len cap : Nat), v3 = .slice A len cap ∧ (len = 0 ∨ ∃ es sp, y3.1 = .slice es sp ∧ es.length = len) := by
    rcases open_slice Tryd.underlying22 t3 with ⟨h0, _⟩ | ⟨a', l, c, m, n, D, Pl, hcs, _, _, _, _, hx, _⟩
    · simp only [List.cons.injEq, and_true] at h0
      exact ⟨none, 0, 0, h0, .inl rfl⟩
    · simp only [List.cons.injEq, and_true] at hcs
      exact ⟨some a', l, c, hcs, .inr ⟨_, _, by rw [hx], by simp⟩⟩
  subst hv3
  obtain ⟨l, hl⟩ := moves_of t3
  refine ⟨x, y, z, A, len, cap, l, rfl, hl, fun hs => ?_⟩
  rcases hw with h0 | ⟨es, sp, hd, hlen⟩
  · omega
  · have hs' : (DataW.weightsEach Tryd.prog [3, 3, 3, 22] [y0.1, y1.1, y2.1, y3.1]).all (· ≤ reachBytes) = true := by
      refine List.all_eq_true.2 fun n hn => List.all_eq_true.1 hs n ?_
      rw [DataW.weights, Tryd.underlying24]
      exact hn
    have hr := sized_slice hs' (j := 3) (t := 22) (e := 40) rfl (by rw [← hd]; rfl) Tryd.underlying22
    rw [show Tryd.prog.bytesOf 40 = 16 from by kernel_rfl] at hr
    simp only [reachBytes] at hr
    omega
end
end Go.Proofs.YtlikbmbcjipolaaDoor
