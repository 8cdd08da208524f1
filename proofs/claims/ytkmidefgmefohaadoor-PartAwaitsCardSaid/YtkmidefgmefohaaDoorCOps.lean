/-
  Programs in memory: what a row of them reads as; slices.Equal, slices.Clone; one more behind a program.
-/
import Derived.Test.YtkmidefgmefohaaDoorCRight
import Derived.LaidEql
namespace Go.Proofs.YtkmidefgmefohaaDoor
set_option maxRecDepth 100000
open Go.RowKit Go.Sort

theorem cells5_len (l : List In5) : (cells5 l).length = l.length * 5 := by
  induction l with
  | nil => rfl
  | cons x l ih => rw [show x :: l = [x] ++ l from rfl, cells5_append, cells5_one, List.length_append, ih]; simp; omega

theorem cells5_at : ∀ (l : List In5) (i : Nat), i < l.length → (cells5 l)[i * 5]? = some (.int .i64 (l.getD i default).1) ∧ (cells5 l)[i * 5 + 1]? = some (.int .i64 (l.getD i default).2.1) ∧ (cells5 l)[i * 5 + 2]? = some (.int .i64 (l.getD i default).2.2.1) ∧ (cells5 l)[i * 5 + 3]? = some (.int .i64 (l.getD i default).2.2.2.1) ∧ (cells5 l)[i * 5 + 4]? = some (.int .i64 (l.getD i default).2.2.2.2)
  | [], i, h => absurd h (Nat.not_lt_zero _)
  | x :: l, 0, _ => ⟨rfl, rfl, rfl, rfl, rfl⟩
  | x :: l, i + 1, h => by
    have := cells5_at l i (by simpa using h)
    have e : ∀ j, (cells5 (x :: l))[(i + 1) * 5 + j]? = (cells5 l)[i * 5 + j]? := fun j => by
      rw [show x :: l = [x] ++ l from rfl, cells5_append, cells5_one, List.getElem?_append_right (by simp; omega)]
      congr 1
      simp
      omega
    have e0 := e 0
    simp only [Nat.add_zero] at e0
    rw [e0, e 1, e 2, e 3, e 4]
    exact this

theorem Inss.of_own {w : World} {B n : Nat} {A : Option Addr} {c : Nat} {l : List In5} (h : w.ownsRow B 48 5 (.slice A n c) n (cells5 l)) (hl : l.length = n) : Inss w w.heap.size A n l := by
  refine ⟨hl, fun hn => ?_⟩
  obtain ⟨g, cap, hv, hb, hlt⟩ := h.form hn
  obtain ⟨rfl, rfl⟩ : A = some ⟨g, 0, none⟩ ∧ c = cap := by injection hv with h1 _ h3; exact ⟨h1, h3⟩
  refine ⟨g, 0, rfl, hlt, fun i hi => ?_⟩
  obtain ⟨h1, h2, h3, h4, h5⟩ := cells5_at l i (by omega)
  have hl5 := cells5_len l
  simp only [Nat.zero_add]
  exact ⟨(h.cellAt _ (by omega)).trans h1, (h.cellAt _ (by omega)).trans h2, (h.cellAt _ (by omega)).trans h3, (h.cellAt _ (by omega)).trans h4, (h.cellAt _ (by omega)).trans h5⟩

theorem news_of_inss {w : World} {B : Nat} {ad : Addr} {n : Nat} {l : List In5} (h : Inss w B (some ad) n l) : ∀ j u, (cells5 l)[j]? = some u → w.cell? (ad.add j) = some u := by
  intro j u hu
  have hl := h.len
  have hj : j < (cells5 l).length := (List.getElem?_eq_some_iff.1 hu).1
  rw [cells5_len] at hj
  obtain ⟨b, off, e, _, hc⟩ := h.row (by omega)
  obtain rfl : ad = ⟨b, off, none⟩ := by injection e
  obtain ⟨c1, c2, c3, c4, c5⟩ := hc (j / 5) (by omega)
  obtain ⟨h1, h2, h3, h4, h5⟩ := cells5_at l (j / 5) (by omega)
  have ha : (⟨b, off, none⟩ : Addr).add j = ⟨b, off + j, none⟩ := by unfold Addr.add; split <;> simp_all
  rw [ha]
  have hr : j % 5 = 0 ∨ j % 5 = 1 ∨ j % 5 = 2 ∨ j % 5 = 3 ∨ j % 5 = 4 := by omega
  rcases hr with hr | hr | hr | hr | hr
  · rw [show off + j = off + j / 5 * 5 by omega, c1, ← h1, show j / 5 * 5 = j by omega, hu]
  · rw [show off + j = off + j / 5 * 5 + 1 by omega, c2, ← h2, show j / 5 * 5 + 1 = j by omega, hu]
  · rw [show off + j = off + j / 5 * 5 + 2 by omega, c3, ← h3, show j / 5 * 5 + 2 = j by omega, hu]
  · rw [show off + j = off + j / 5 * 5 + 3 by omega, c4, ← h4, show j / 5 * 5 + 3 = j by omega, hu]
  · rw [show off + j = off + j / 5 * 5 + 4 by omega, c5, ← h5, show j / 5 * 5 + 4 = j by omega, hu]

theorem oneCell5 {l : List In5} : ∀ u ∈ cells5 l, u.oneCell' = true := by
  intro u hu
  unfold cells5 at hu
  obtain ⟨x, _, hx⟩ := List.mem_flatMap.1 hu
  simp at hx
  rcases hx with rfl | rfl | rfl | rfl | rfl <;> rfl

set_option maxHeartbeats 1000000 in
theorem equalN_same (A C : Option Addr) (n c d : Nat) (l : List In5) (w : World) (hn : n ≤ 9223372036854775807) (B B' : Nat) (ha : Inss w B A n l) (hc : Inss w B' C n l) :
    Calls Tryd.prog 26 #[.slice A n c, .slice C n d] w fun e w' => e = .returned (.bool true) ∧ ∃ q, w' = w.drewN q := by
  have hne : ((n : Int) != (n : Int)) = false := by simp
  go_enter Tryd.func26, Tryd.ntmps26
  go_wp2
  go_loopw [5, 13] (fun i j wr => ∃ k : Nat, k ≤ n ∧ j = .int .i64 k ∧ ∃ q, wr = w.drewN q) (fun _ j _ => n - (intOf j).toNat)
  case atStart => exact ⟨0, Nat.zero_le _, rfl, 0, rfl⟩
  case round =>
    obtain ⟨k, hk, rfl, q, rfl⟩ := hrel
    by_cases hlt : k < n
    · obtain ⟨b, off, rfl, _, hx⟩ := ha.row (by omega)
      obtain ⟨b', off', rfl, _, hy⟩ := hc.row (by omega)
      obtain ⟨x1, x2, x3, x4, x5⟩ := hx k hlt
      obtain ⟨y1, y2, y3, y4, y5⟩ := hy k hlt
      have hkn : (k : Int) < (n : Int) := by omega
      clear hx hy ha hc
      generalize (l.getD k default).1 = z1 at *
      generalize (l.getD k default).2.1 = z2 at *
      generalize (l.getD k default).2.2.1 = z3 at *
      generalize (l.getD k default).2.2.2.1 = z4 at *
      generalize (l.getD k default).2.2.2.2 = z5 at *
      have h1 : (z1 == z1) = true := by simp
      have h2 : (z2 == z2) = true := by simp
      have h3 : (z3 == z3) = true := by simp
      have h4 : (z4 == z4) = true := by simp
      have h5 : (z5 == z5) = true := by simp
      go_wp2
      go_quiet (fail)
      go_wp2
      go_roundw
      case rel => exact ⟨k + 1, by omega, by go_num, q + nq, by simp⟩
      case measure => simp [intOf]; omega
    · have hkn : ¬ (k : Int) < (n : Int) := by omega
      go_wp2
      go_ret
      exact ⟨rfl, q, rfl⟩

/-- append onto a row of the call's own, where the operation bears a guard that says yes. -/
theorem wpList_append_own_g {P : Program} {w : World} {ops : Array Oper} {rest : List Oper} {o : Oper} {a : Act} {Q : Exit → Act → World → Prop} (hgd : Region.wanted o (yielded ops a.tmps) = true) (s x : Operand) (t : TypeId)
    (ho : o.op = .call { callee := .builtin .append, args := #[s, x], argTypes := #[t, t] })
    (base : Nat) (e : TypeId) (i : TypeInfo) (z : Value) (size bytes : Nat) (ht : P.underlying t = some (.slice e)) (hi : P.info? e = some i) (hz : i.zero = some z)
    (hsize : i.size = size) (hby : i.bytes = bytes) (hzs : z.cells.size = size) (hsz : 0 < size)
    (v : Value) (n : Nat) (xs : List Value) (hs : a.eval s = v) (hown : w.ownsRow base e size v n xs)
    (ad : Addr) (m c : Nat) (news : List Value) (hx : a.eval x = .slice (some ad) m c) (hl : news.length = m * size) (hnews : ∀ j u, news[j]? = some u → w.cell? (ad.add j) = some u) (h1 : ∀ u ∈ news, u.oneCell' = true)
    (h63 : n + m ≤ maxLen) (hbytes : (n + m) * bytes ≤ 140737488355328) (hbase : base ≤ w.heap.size)
    (h : ∀ v' w', w'.ownsRow base e size v' (n + m) (xs ++ news) → w.grownBy w' v.ownBlock → (v' = .slice none 0 0 ↔ v = .slice none 0 0 ∧ m = 0) → wpList P ops Q rest (a.put o.dst v') w') : wpList P ops Q (o :: rest) a w :=
  wpList_step fun K hK => by
    rw [if_pos hgd]
    exact wp_append_own w s x t ho base e i z size bytes ht hi hz hsize hby hzs hsz v n xs hs hown ad m c news hx hl hnews h1 h63 hbytes hbase fun v' w' h2 h3 h4 => hK _ _ (h v' w' h2 h3 h4)
end Go.Proofs.YtkmidefgmefohaaDoor
