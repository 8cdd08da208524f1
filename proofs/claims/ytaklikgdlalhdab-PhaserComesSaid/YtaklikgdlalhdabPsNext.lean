/-
  Package phaser: next at any call, Do at any state.
-/
import Derived.Test.YtaklikgdlalhdabPsCode
import Derived.Deep.RegionWith
namespace Go.Proofs.Ytaklikgdlalhdab
open Go.RowKit
set_option linter.unusedVariables false
set_option linter.unusedSimpArgs false

set_option maxHeartbeats 8000000 in
theorem next_watch (f p q n : Int) (w : World) : Calls Try.prog 16 #[.agg #[.bool false, .int .i64 f, .int .i64 p, .int .i64 q], .agg #[.int .i64 10, .int .i64 n]] w fun e w' => e = .returned (.tuple #[.agg #[.bool false, .int .i64 f, .int .i64 p, .int .i64 q], .int .i64 (if f = n then -4 else f)]) ∧ Below w.heap.size w w' := by
  obtain ⟨k, hk⟩ : ∃ k, (if f = n then -4 else f) = k := ⟨_, rfl⟩
  have HC := Lib.hid (fun W => watch_any false f p q n W)
  rw [hk] at HC ⊢
  have HN := Lib.hid (nextW_facts w false f p q 10 n)
  clear hk
  go_enter Try.func16, Try.ntmps16
  go_wp2
  --MO
  go_region_with (go_at_call 19; refine (HC.out _).mono ?_; rintro e w1 ⟨rfl, hb⟩; have hb2 : Below (nextW w false f p q 10 n).heap.size (nextW w false f p q 10 n) w1 := ⟨hb.os, hb.tape, hb.output, hb.size, hb.block⟩; have HB := Lib.hid (HN.out.1.trans (hb2.mono HN.out.1.size)); have HR := Lib.hid (HN.out.2.2.2.1.below hb2 HN.out.2.2.2.1.lt); have HP := Lib.hid (HN.out.2.1.below hb2 HN.out.2.1.lt); obtain ⟨d0, d1, d2, d3⟩ := HR.out.cells; have df := HR.out.frozen; obtain ⟨c0, c1, c2, c3⟩ := HP.out.cells; clear hb hb2)
  all_goals
    go_wp2
    exact bodyPost_ret ((HR.out.set4 false f p q).res2 (fn := Try.f16) (p0 := 4) (u := 5) (v := .int .i64 k) (by kernel_rfl) _ (by rfl) (by rfl)) rfl ⟨rfl, below4 HB.out (by omega) false f p q⟩
theorem next_any (o : Bool) (f p q a n : Int) (w : World) (h : PhS.ok ⟨o, f, p, q⟩) (hc : fitsC a n) (ha : a ≠ 9) {o' : Bool} {f' p' q' k : Int} (hx : phNext ⟨o, f, p, q⟩ a n = (⟨o', f', p', q'⟩, k)) :
    Calls Try.prog 16 #[.agg #[.bool o, .int .i64 f, .int .i64 p, .int .i64 q], .agg #[.int .i64 a, .int .i64 n]] w fun e w' => e = .returned (.tuple #[.agg #[.bool o', .int .i64 f', .int .i64 p', .int .i64 q'], .int .i64 k]) ∧ Below w.heap.size w w' := by
  have h2 : 0 ≤ p ∧ p ≤ 65535 := h.2.1
  have h3 : 0 ≤ q ∧ q ≤ p := h.2.2
  cases o with
  | true =>
    rw [phNext_over (x := ⟨true, f, p, q⟩) rfl] at hx
    simp only [Prod.mk.injEq, PhS.mk.injEq] at hx
    obtain ⟨⟨rfl, rfl, rfl, rfl⟩, rfl⟩ := hx
    exact next_over f p q a n w
  | false =>
    rcases hc with ⟨rfl, h1, h2'⟩ | ⟨rfl, h1, h2'⟩ | ⟨e | e | e | e, rfl⟩
    · by_cases g : 65535 < p + n
      · rw [phNext_full (x := ⟨false, f, p, q⟩) rfl g] at hx
        simp only [Prod.mk.injEq, PhS.mk.injEq] at hx
        obtain ⟨⟨rfl, rfl, rfl, rfl⟩, rfl⟩ := hx
        exact next_full f p q n w g h2.2 h2'
      · rw [phNext_reg (x := ⟨false, f, p, q⟩) rfl g] at hx
        simp only [Prod.mk.injEq, PhS.mk.injEq] at hx
        obtain ⟨⟨rfl, rfl, rfl, rfl⟩, rfl⟩ := hx
        exact next_in f p q n w (by omega) h3.1 h3.2 (by omega)
    · rw [phNext_watch (x := ⟨false, f, p, q⟩) rfl] at hx
      simp only [Prod.mk.injEq, PhS.mk.injEq] at hx
      obtain ⟨⟨rfl, rfl, rfl, rfl⟩, rfl⟩ := hx
      exact next_watch f p q n w
    · subst e
      rw [phNext_arrive (x := ⟨false, f, p, q⟩) rfl] at hx
      exact next_arrive f p q w h hx
    · subst e
      rw [phNext_leave (x := ⟨false, f, p, q⟩) rfl] at hx
      exact next_leave f p q w h hx
    · exact absurd e ha
    · subst e
      rw [phNext_close (x := ⟨false, f, p, q⟩) rfl] at hx
      simp only [Prod.mk.injEq, PhS.mk.injEq] at hx
      obtain ⟨⟨rfl, rfl, rfl, rfl⟩, rfl⟩ := hx
      exact next_close f p q 0 w

end Go.Proofs.Ytaklikgdlalhdab
