/-
  Two at a cell: where what one knows is spread nobody but the one whose it is, and one that tells it, comes to a cell. No conditions.
-/
import Derived.Test.YtaagdmompaphiaaGreatDoorQN2
import Derived.Test.YtaagdmompaphiaaGreatDoorQO
import Derived.Maps.Views
import Derived.Maps.OwnSet
import Derived.Test.YtaagdmompaphiaaGreatDoorRows
import Derived.Test.YtaagdmompaphiaaGreatDoorCards
import Derived.Test.YtaagdmompaphiaaGreatDoorTie
import Derived.WalkKit
import Derived.ProofKit
import Derived.OpenShut
import Derived.ChangeOld
import Derived.Below
import Derived.ChangeSame
import Derived.ChangeVars
import Derived.JoinedOf
import Derived.RowKitTokens
import Derived.LaidLaws
import Derived.LaidHandle
import Derived.Stop.Joined
import Derived.SevenTiedAt
import Derived.Lib.LaidTab
import Derived.Lib.LaidIn
import Derived.Test.YtaagdmompaphiaaGreatDoorQA
import Derived.ChangeMaps5
import Derived.Test.YtaagdmompaphiaaGreatDoorQM2
import Derived.Test.YtaagdmompaphiaaGreatDoorQE
import Derived.Test.YtaagdmompaphiaaGreatDoorQN
import Derived.Test.YtaagdmompaphiaaGreatDoorQE3
namespace Go.Proofs.YtaagdmompaphiaaGreatDoor
set_option maxRecDepth 100000
open Go.RowKit Go.Shelf Go.Sort Go.WideShapes
set_option linter.unusedVariables false
set_option linter.unusedSimpArgs false

theorem hist_threads {n rounds : Nat} {m m' : Mach} (d : Dims 4 n rounds) (h : Hist 4 n rounds 0 m) (hf : Fin m m') : ∀ a ∈ m'.acts, ∃ t : Nat, t < n ∧ a.2.1 = t := by
  have one := one_chk 4 n (.inl rfl) d.n1 d.n16
  obtain ⟨S, hR, hD⟩ := hist_fx ((acts_keep (ta_mono (ta_of (spread_chk n d.n1 d.n16)))).and (thin_keep (ta_of (spread_chk n d.n1 d.n16)) (fun t i i' c ht hi hi' e e' => (awaits_one one t i t i' c ht hi ht hi' e e').2))) (kok4 d.n1 d.n16) d h (by omega) (.inl rfl) hf
  intro a ha
  obtain ⟨t, i, c, ht, _, e, _⟩ := hR.x.2.form a ha
  exact ⟨t, ht, e⟩

/-! Maps that tell how many entries they have. -/
theorem IM.lookOkS {q : IntKind} {te : TypeId} {w : World} {b m : Nat} {f : Int → Option Int} (h : IM q te w b m f) {t : TypeId} (ht : Tryz.prog.underlying t = some (.map 3 te)) (he : Tryz.prog.underlying te = some (.int q)) (hz : (zeroValue te).run Tryz.prog w = .ok (.int q 0) w) (hz0 : (Lit.int q 0).wf = true) (a : Int) (ha : (Lit.int .i64 a).wf = true) :
    (Instr.lookup t (.map (some b)) (.int .i64 a) true).run Tryz.prog w = .ok (.tuple #[.int q ((f a).getD 0), .bool (f a).isSome]) w := by
  obtain ⟨D, hD, hf⟩ := h
  obtain ⟨v, ps, hrun, hv⟩ := hD.look_ok keyedInt ht hz (plainElem_int he hz0) (Maps.keyOf_int_mk Tryz.underlying3 ha)
  obtain ⟨c, rfl, hc, _⟩ := plainElem_int_inv he hv
  obtain ⟨h1, h2⟩ := hf a ha
  rw [hrun, h1]
  cases hfa : f a with
  | some c' =>
    have h3 := h2 c' hfa (.lit (.int q 0))
    have hc1 : D.atKey (.int .i64 a) (.lit (.int q 0)) = .lit (.int q c) := by injection hc
    rw [h3] at hc1
    injection hc1 with hc1
    injection hc1 with _ hc1
    rw [hc1]
    rfl
  | none =>
    rw [hfa] at h1
    have hc1 : D.atKey (.int .i64 a) (.lit (.int q 0)) = .lit (.int q c) := by injection hc
    rw [Maps.atKey_of_not_has (by simpa using h1)] at hc1
    injection hc1 with hc1
    injection hc1 with _ hc1
    rw [← hc1]
    rfl
/-- Block b is a map of just m entries; it holds what f says. -/
def EI (te : TypeId) (w : World) (b m : Nat) (f : Int → Option Int) : Prop :=
  ∃ D : DataW Unit, w.ownsMap Tryz.prog 3 (plainElem Tryz.prog te) b m D ∧ Maps.Tidy D ∧ Maps.size D = m ∧ ∀ a : Int, (Lit.int .i64 a).wf = true → Maps.has D (.int .i64 a) = (f a).isSome ∧ ∀ c, f a = some c → ∀ z, D.atKey (.int .i64 a) z = .lit (.int .i64 c)
theorem own_tightS {w : World} {k : TypeId} {R : Value → Option (DataW Unit × List MemPlace)} {b n : Nat} {D : DataW Unit} (h : w.ownsMap Tryz.prog k R b n D) : w.ownsMap Tryz.prog k R b (Maps.size D) D := by
  obtain ⟨es, clock, hb, F, hle, rfl⟩ := h
  exact ⟨es, clock, hb, F, by simp [Maps.size, length_sorted], rfl⟩
section
variable {te : TypeId} {w w' : World} {b m : Nat} {f : Int → Option Int}
theorem EI.im (h : EI te w b m f) : IM .i64 te w b m f := by
  obtain ⟨D, h1, _, _, h2⟩ := h
  exact ⟨D, h1, h2⟩
theorem EI.made (te : TypeId) (w : World) : EI te (w.alloc (.map #[] 0)) w.heap.size 0 fun _ => none :=
  ⟨_, World.ownsMap_made w Tryz.prog 3 _, Maps.tidy_empty, rfl, fun a _ => ⟨rfl, fun c h => by cases h⟩⟩
theorem EI.kept (h : EI te w b m f) {row : Option Nat} (hg : w.grownBy w' row) (hne : some b ≠ row) : EI te w' b m f := by
  obtain ⟨D, hD, hf⟩ := h
  exact ⟨D, hD.kept hg hne, hf⟩
theorem EI.lt (h : EI te w b m f) : b < w.heap.size := h.im.lt
theorem EI.len (h : EI te w b m f) {t : TypeId} (ht : Tryz.prog.underlying t = some (.map 3 te)) (ty : TypeId) : (Builtin.len_ #[t] ty #[.map (some b)]).run Tryz.prog w = .ok (.int .i64 (m : Nat)) w := by
  obtain ⟨D, hD, _, hs, _⟩ := h
  have := hD.len ht ty
  rw [hs] at this
  exact this
theorem EI.put (h : EI te w b m f) {t : TypeId} (ht : Tryz.prog.underlying t = some (.map 3 te)) (he : Tryz.prog.underlying te = some (.int .i64)) (hm : m < maxLen) (a c : Int) (ha : (Lit.int .i64 a).wf = true) (hc : (Lit.int .i64 c).wf = true) :
    ∃ w', (Instr.mapUpdate t (.map (some b)) (.int .i64 a) (.int .i64 c)).run Tryz.prog w = .ok () w' ∧ EI te w' b (m + if (f a).isSome then 0 else 1) (putAt f a c) ∧ w.grownBy w' (some b) := by
  obtain ⟨D, hD, hT, hs, hf⟩ := h
  have hK := Maps.keyOf_int_mk Tryz.underlying3 ha
  obtain ⟨w', hrun, hD', hg⟩ := hD.update keyedInt ht hm hK (plainElem_int he hc)
  have hk := keyedInt.key hK
  have hsz : Maps.size (D.put (.int .i64 a) (.lit (.int .i64 c))) = m + if (f a).isSome then 0 else 1 := by
    rw [Maps.size_put hT, (hf a ha).1, hs]
    cases (f a).isSome <;> rfl
  refine ⟨w', hrun, ⟨_, ?_, hT.put hk _, hsz, fun x hx => ?_⟩, hg⟩
  · have := own_tightS hD'
    rw [hsz] at this
    exact this
  · by_cases e : x = a
    · subst e
      refine ⟨?_, fun c' hc' z => ?_⟩
      · rw [Maps.has_put_same hD.isMap hk]
        simp [putAt]
      · simp only [putAt, if_true, Option.some.injEq] at hc'
        rw [Maps.atKey_put_same hD.isMap hk, hc']
    · obtain ⟨h1, h2⟩ := hf x hx
      refine ⟨?_, fun c' hc' z => ?_⟩
      · rw [Maps.has_put_other (lit_ne e), h1]
        simp [putAt, e]
      · simp only [putAt, if_neg e] at hc'
        rw [Maps.atKey_put_other (lit_ne e)]
        exact h2 c' hc' z
end

/-! Who was where. -/
def cntK (f : Int → Option Int) : Nat := (List.range 400).countP fun (c : Nat) => (f (c : Int)).isSome
theorem countP_pointS {p q : Nat → Bool} {u : Nat} (hpq : ∀ t, t ≠ u → q t = p t) (hp : p u = false) (hq : q u = true) : ∀ n, (List.range n).countP q = (List.range n).countP p + if u < n then 1 else 0
  | 0 => by simp
  | n + 1 => by
    rw [List.range_succ, List.countP_append, List.countP_append, countP_pointS hpq hp hq n]
    by_cases e : n = u
    · subst e
      simp [hp, hq]
    · have h1 := hpq n e
      have h3 : [n].countP q = [n].countP p := by simp [h1]
      rw [h3]
      by_cases h2 : u < n
      · rw [if_pos h2, if_pos (by omega)]; omega
      · rw [if_neg h2, if_neg (by omega)]; omega
theorem cntK_put (f : Int → Option Int) {c : Nat} (hc : c < 400) (v : Int) : cntK (putAt f (c : Int) v) = cntK f + if (f (c : Int)).isSome then 0 else 1 := by
  unfold cntK
  cases hs : (f (c : Int)).isSome with
  | true =>
    rw [if_pos rfl, Nat.add_zero]
    refine List.countP_congr fun u _ => ?_
    unfold putAt
    by_cases e : (u : Int) = (c : Int)
    · rw [if_pos e, e, hs]; simp
    · rw [if_neg e]
  | false =>
    have h := countP_pointS (p := fun (u : Nat) => (f (u : Int)).isSome) (q := fun (u : Nat) => (putAt f (c : Int) v (u : Int)).isSome) (u := c) (fun t ht => by
      unfold putAt
      rw [if_neg (by omega)]) hs (by unfold putAt; rw [if_pos rfl]; rfl) 400
    rw [if_pos hc] at h
    rw [h]
    rfl
theorem cntK_le (f : Int → Option Int) : cntK f ≤ 400 := by
  have := @List.countP_le_length _ (fun (c : Nat) => (f (c : Int)).isSome) (List.range 400)
  rwa [List.length_range] at this
/-- Who did so at which cell, of the first i acts. -/
structure SI (L : List Act6) (op : Int) (i : Nat) (f : Int → Option Int) : Prop where
  src : ∀ c v, f c = some v → ∃ a ∈ L.take i, a.2.2.1 = op ∧ a.2.2.2.1 = c ∧ a.2.1 = v
  all : ∀ a ∈ L.take i, a.2.2.1 = op → (f a.2.2.2.1).isSome = true
theorem SI.nil (L : List Act6) (op : Int) : SI L op 0 fun _ => none := ⟨fun c v h => (by cases h), fun a ha => absurd ha (by simp)⟩
theorem SI.miss {L : List Act6} {op : Int} {i : Nat} {f : Int → Option Int} (h : SI L op i f) (hi : i < L.length) (ho : (L.getD i default).2.2.1 ≠ op) : SI L op (i + 1) f := by
  refine ⟨fun c v hc => ?_, fun a ha hop => ?_⟩
  · obtain ⟨a, ha, r⟩ := h.src c v hc
    exact ⟨a, by rw [take_more hi]; exact List.mem_append_left _ ha, r⟩
  · rw [take_more hi] at ha
    rcases List.mem_append.1 ha with ha | ha
    · exact h.all a ha hop
    · rw [List.mem_singleton.1 ha] at hop
      exact absurd hop ho
theorem SI.hit {L : List Act6} {op : Int} {i : Nat} {f : Int → Option Int} (h : SI L op i f) (hi : i < L.length) (ho : (L.getD i default).2.2.1 = op) : SI L op (i + 1) (putAt f (L.getD i default).2.2.2.1 (L.getD i default).2.1) := by
  refine ⟨fun c v hc => ?_, fun a ha hop => ?_⟩
  · unfold putAt at hc
    by_cases e : c = (L.getD i default).2.2.2.1
    · rw [if_pos e] at hc
      injection hc with hc
      exact ⟨_, by rw [take_more hi]; exact List.mem_append_right _ (List.mem_singleton.2 rfl), ho, e.symm, hc⟩
    · rw [if_neg e] at hc
      obtain ⟨a, ha, r⟩ := h.src c v hc
      exact ⟨a, by rw [take_more hi]; exact List.mem_append_left _ ha, r⟩
  · unfold putAt
    by_cases e : a.2.2.2.1 = (L.getD i default).2.2.2.1
    · rw [if_pos e]; rfl
    · rw [if_neg e]
      rw [take_more hi] at ha
      rcases List.mem_append.1 ha with ha | ha
      · exact h.all a ha hop
      · rw [List.mem_singleton.1 ha] at e
        exact absurd rfl e
theorem SI.who {L : List Act6} {op : Int} {i : Nat} {f : Int → Option Int} (h : SI L op i f) (hi : i < L.length) (hU : ∀ a ∈ L, ∀ b ∈ L, a.2.2.2.1 = b.2.2.2.1 → a.2.2.1 = b.2.2.1 → a.2.1 = b.2.1) (ho : (L.getD i default).2.2.1 = op) {v : Int} (hv : f (L.getD i default).2.2.2.1 = some v) : v = (L.getD i default).2.1 := by
  obtain ⟨a, ha, h1, h2, h3⟩ := h.src _ _ hv
  have hm : L.getD i default ∈ L := by
    rw [List.getD_eq_getElem?_getD, List.getElem?_eq_getElem hi]
    exact List.getElem_mem _
  rw [← h3]
  exact hU a (List.mem_of_mem_take ha) _ hm h2 (h1.trans ho.symm)
theorem si_end {L : List Act6} {f g : Int → Option Int} (h1 : SI L 6 L.length f) (h2 : SI L 7 L.length g) (hI : ∀ c : Int, (∃ a ∈ L, a.2.2.1 = 6 ∧ a.2.2.2.1 = c) ↔ ∃ a ∈ L, a.2.2.1 = 7 ∧ a.2.2.2.1 = c) : cntK f = cntK g := by
  have key : ∀ (op : Int) (f : Int → Option Int), SI L op L.length f → ∀ c, (f c).isSome = true ↔ ∃ a ∈ L, a.2.2.1 = op ∧ a.2.2.2.1 = c := fun op f h c => by
    have ht : L.take L.length = L := List.take_length
    constructor
    · intro hs
      obtain ⟨v, hv⟩ := Option.isSome_iff_exists.1 hs
      obtain ⟨a, ha, r1, r2, _⟩ := h.src c v hv
      rw [ht] at ha
      exact ⟨a, ha, r1, r2⟩
    · rintro ⟨a, ha, r1, rfl⟩
      exact h.all a (by rw [ht]; exact ha) r1
  unfold cntK
  refine List.countP_congr fun c _ => ?_
  exact (key 6 f h1 c).trans ((hI c).trans (key 7 g h2 c).symm)
theorem nat_wfS {n : Nat} (h : n ≤ 100000) : (Lit.int .i64 (n : Int)).wf = true := by
  simp [Lit.wf, IntKind.min, IntKind.max, IntKind.signed, IntKind.bits]
  omega
/-- A row of acts elsewhere. -/
theorem ActRow.apartS {w w' : World} {A : Option Addr} {n g : Nat} {l : List Act6} (h : ActRow w A n l) (hg : w.grownBy w' (some g)) (hA : ∀ b off, A = some ⟨b, off, none⟩ → b ≠ g) : ActRow w' A n l := fun i hi => by
  obtain ⟨b, off, e, x1, x2, x3, x4, x5, x6⟩ := h i hi
  have hlt := World.block_lt_of_cell? w ⟨b, off + i * 6, none⟩ x1
  have k := fun j => World.cell?_of_block (a := ⟨b, j, none⟩) (hg.block b hlt (by intro e2; injection e2 with e2; exact hA b off e e2))
  exact ⟨b, off, e, (k _).trans x1, (k _).trans x2, (k _).trans x3, (k _).trans x4, (k _).trans x5, (k _).trans x6⟩
theorem next_lessS {q n : Nat} (h : q < n) : n - (intOf (Value.int IntKind.i64 ((q + 1 : Nat) : Int))).toNat < n - (intOf (Value.int IntKind.i64 (q : Int))).toNat := by
  show n - (((q + 1 : Nat) : Int)).toNat < n - ((q : Int)).toNat
  rw [Int.toNat_natCast, Int.toNat_natCast]
  omega
/-! The law. -/
theorem spread_words {k n rounds p : Nat} {m m' : Mach} (d : Dims k n rounds) (h : Hist k n rounds p m) (hf : Fin m m') (hp : p ≤ 900) : ∀ a ∈ m'.acts, ∃ c : Nat, a.2.2.2.1 = c ∧ c < kCells k n := by
  obtain ⟨K, hK, hM⟩ := kind_all (rounds := rounds) d.k1 d.k6 d.n1 d.n16
  obtain ⟨S, hR, hD⟩ := hist_fx (acts_keep hM.mono) hK d h hp (.inr (acts_poke _)) hf
  exact hR.x.rng
/-- What is known of the acts in the end. -/
structure SpEnd (r1 : Nat) (L : List Act6) : Prop where
  few : L.length ≤ 20000
  ops : ∀ a ∈ L, a.2.2.1 = 7 ∨ a.2.2.1 = 6
  one : ∀ a ∈ L, ∀ b ∈ L, a.2.2.2.1 = b.2.2.2.1 → a.2.2.1 = b.2.2.1 → a.2.1 = b.2.1
  iff : 1 ≤ r1 → ∀ c : Int, (∃ a ∈ L, a.2.2.1 = 6 ∧ a.2.2.2.1 = c) ↔ ∃ a ∈ L, a.2.2.1 = 7 ∧ a.2.2.2.1 = c
  thr : ∀ a ∈ L, ∃ t : Nat, t < 16 ∧ a.2.1 = t
  wrd : ∀ a ∈ L, ∃ c : Nat, a.2.2.2.1 = c ∧ c < 400
structure SpL (w : World) (b q : Nat) (A1 : Option Addr) (L : List Act6) (fl fs : Int → Option Int) (wr : World) : Prop where
  el : EI 3 wr b (cntK fl) fl
  es : EI 3 wr (b + 1) (cntK fs) fs
  sl : SI L 6 q fl
  ss : SI L 7 q fs
  row : ActRow wr A1 L.length L
  bel : Below w.heap.size w wr
set_option maxHeartbeats 4000000 in
theorem spreadThin_any {w : World} (H : DanceOK) (hw : DW w) (n rounds : Int) (D : Option Addr) (nm cm : Nat) (l : List Int) (hl : Ints .i64 w w.heap.size D nm l) :
    Calls Tryz.prog 3 #[.int .i64 n, .int .i64 rounds, .slice D nm cm] w fun e w' => e = .returned (.bool true) ∧ Below w.heap.size w w' := by
  have HDn := Lib.hid (danced_any H hw)
  have HBall := Lib.hid (fun w => ball_is 0 n rounds w)
  have d0 := ball_dims 0 n rounds
  generalize ballK 0 = k0 at *
  generalize ballN n = n1 at *
  generalize ballR rounds = r1 at *
  have d : Dims 4 n1 r1 := ⟨by omega, by omega, d0.n1, d0.n16, d0.r6⟩
  have HFl := Lib.hid (fun w1 (hb : Below w.heap.size w w1) => floor_nil H hw hb d)
  have HPk := Lib.hid (fun a => pick_nat a n1 (by have := d.n1; omega) (by have := d.n16; omega))
  have HI := Lib.hid (fun w1 (hb : Below w.heap.size w w1) => hl.old hb)
  have HD := Lib.hid d
  have HKC := Lib.hid (kCells_le d.k1 d.k6 d.n1 d.n16)
  have hmk : ∀ W : World, (Instr.makeMap 33 none).run Tryz.prog W = .ok (.map (some W.heap.size)) (W.alloc (.map #[] 0)) := fun W => run_makeMap 33 W
  clear hl d d0
  go_enter Tryz.func3, Tryz.ntmps3
  go_wp2_with fail
  refine HDn.out.mono ?_
  rintro e w1 ⟨rfl, hb1⟩
  have HB1 := Lib.hid hb1
  clear hb1 HDn
  by_cases h9 : 600 < nm
  · have h9' : (600 : Int) < (nm : Int) := by omega
    go_wp2
    go_ret
    exact ⟨rfl, HB1.out⟩
  have h9' : ¬ (600 : Int) < (nm : Int) := by omega
  clear h9
  go_wp2_with fail
  refine (HBall.out _).mono ?_
  rintro e w2 ⟨rfl, rfl⟩
  go_wp2_with fail
  --ME
  refine (HFl.out _ HB1.out).mono ?_
  rintro e w3 ⟨c, m0, rfl, hF, hm0⟩
  have HF := Lib.hid hF
  have HH0 := Lib.hid (show Hist 4 n1 r1 0 m0 by rw [hm0]; exact hist_new)
  clear hF HB1 HFl HBall hm0 h9'
  go_wp2
  --MF
  go_loopw [36] (fun j wr => ∃ q : Nat, q ≤ nm ∧ j = .int .i64 q ∧ ∃ m, Hid (Flo w c 4 n1 r1 0 m wr ∧ Hist 4 n1 r1 0 m)) (fun j _ => nm - (intOf j).toNat)
  case atStart => exact ⟨0, Nat.zero_le _, rfl, m0, ⟨HF.out, HH0.out⟩⟩
  case round =>
    obtain ⟨q, hq, rfl, m, hF⟩ := hrel
    by_cases hlt : q < nm
    · have hkn : (q : Int) < (nm : Int) := by omega
      have HF4 := Lib.hid hF.out
      obtain ⟨b, off, rfl, _, hx⟩ := (HI.out _ HF4.out.1.bel).row (by omega)
      have hz := hx q hlt
      clear hx
      generalize l.getD q 0 = z at hz
      obtain ⟨v, hv, _, HPu⟩ := HPk.out z
      have HPu := Lib.hid HPu
      have HU := Lib.hid hv
      clear hF HF
      go_wp2_with fail
      refine (HPu.out _).mono ?_
      rintro e w5 ⟨rfl, rfl⟩
      go_wp2_with fail
      refine (flo_step HD.out HF4.out.1 (by decide) hv).mono ?_
      rintro e w5 ⟨rfl, hF5⟩
      have HF5 := Lib.hid (And.intro hF5 (hist_step HF4.out.2 HU.out))
      generalize errV (stepM 20000 m (v : Int)).1 = RV
      clear hF5 HF4
      go_wp2
      go_roundw
      case rel => exact ⟨q + 1, by omega, by go_num, _, HF5⟩
      case measure => simp [intOf]; omega
    · have hkn : ¬ (q : Int) < (nm : Int) := by omega
      have HF4 := Lib.hid hF.out.1
      have HH := Lib.hid hF.out.2
      clear hF HF HI
      go_wp2_with fail
      refine (flo_fin H HD.out HF4.out (by decide)).mono ?_
      rintro e w5 ⟨m', rfl, hF5, hE, hfin⟩
      have hap := hist_apart HD.out HH.out hfin
      have hth := hist_threads HD.out HH.out hfin
      have hwd := spread_words HD.out HH.out hfin (by decide)
      have HE := Lib.hid (show SpEnd r1 m'.acts from ⟨hF5.few.2, hap.1, hap.2.1, hap.2.2, fun a ha => by
        obtain ⟨t, h1, h2⟩ := hth a ha
        exact ⟨t, by have := HD.out.n16; omega, h2⟩, fun a ha => by
        obtain ⟨t, h1, h2⟩ := hwd a ha
        exact ⟨t, h1, by have := HKC.out; omega⟩⟩)
      have hal : Flo w c 4 n1 r1 0 m' ((w5.alloc (.map #[] 0)).alloc (.map #[] 0)) := (hF5.grow (grown_a (World.grownBy.refl _ none) _)).grow (grown_a (World.grownBy.refl _ none) _)
      have HA := Lib.hid (at_acts hal.at_ hal.few.2)
      have HBel := Lib.hid hal.bel
      have HE1 := Lib.hid ((EI.made 3 w5).kept (World.grownBy_alloc (w5.alloc (.map #[] 0)) (.map #[] 0) none) (by simp))
      have HE2 := Lib.hid (show EI 3 ((w5.alloc (.map #[] 0)).alloc (.map #[] 0)) (w5.heap.size + 1) 0 (fun _ => none) by
        have h := EI.made 3 (w5.alloc (.map #[] 0))
        rwa [World.size_alloc] at h)
      have HW5 := Lib.hid (show w.heap.size ≤ w5.heap.size from hF5.bel.size)
      have HSz := Lib.hid (show ((w5.alloc (.map #[] 0)).alloc (.map #[] 0)).heap.size = w5.heap.size + 2 by rw [World.size_alloc, World.size_alloc])
      clear hF5 hE hfin HF4 hap hth hwd hal
      generalize ((m'.steps : Int) - (m.steps : Int)) = dd at *
      generalize m'.acts = L at *
      go_wp2_with fail
      --MG
      refine HA.out.mono ?_
      rintro e w7 ⟨A1, c1, rfl, hr, hg7⟩
      have HL0 := Lib.hid (show SpL w w5.heap.size 0 A1 L (fun _ => none) (fun _ => none) w7 from ⟨HE1.out.kept hg7 (by simp), HE2.out.kept hg7 (by simp), SI.nil L 6, SI.nil L 7, actRow_own hr rfl, HBel.out.grown hg7 HBel.out.size (by intro k hk; cases hk)⟩)
      have HAp := Lib.hid (fun (b off : Nat) (e : A1 = some ⟨b, off, none⟩) => (show b ≠ w5.heap.size ∧ b ≠ w5.heap.size + 1 by
        have h1 := (hr.lt b (by rw [e]; rfl)).1
        rw [HSz.out] at h1
        omega))
      clear hr hg7 HA HE1 HE2 HSz HBel hmk
      generalize w5.heap.size = b0 at *
      go_wp2
      --MH
      go_loopw [53] (fun j wr => ∃ (q : Nat) (fl fs : Int → Option Int), q ≤ L.length ∧ j = .int .i64 q ∧ Hid (SpL w b0 q A1 L fl fs wr)) (fun j _ => L.length - (intOf j).toNat)
      case atStart => exact ⟨0, _, _, Nat.zero_le _, rfl, HL0.out⟩
      case round =>
        obtain ⟨q, fl, fs, hq, rfl, hx⟩ := hrel
        by_cases hlt : q < L.length
        · have hkn2 : (q : Int) < (L.length : Int) := Int.ofNat_lt.2 hlt
          have HX := Lib.hid hx.out
          obtain ⟨b, off, rfl, x1, x2, x3, x4, x5, x6⟩ := hx.out.row q hlt
          have hm : L.getD q default ∈ L := by rw [List.getD_eq_getElem?_getD, List.getElem?_eq_getElem hlt]; exact List.getElem_mem _
          obtain ⟨t, ht16, ht⟩ := HE.out.thr _ hm
          obtain ⟨y, hy, hy4⟩ := HE.out.wrd _ hm
          have hop := HE.out.ops _ hm
          have HW6 := Lib.hid (fun (v : Int) (h : (L.getD q default).2.2.1 = 6) (hv : fl (L.getD q default).2.2.2.1 = some v) => hx.out.sl.who hlt HE.out.one h hv)
          have HW7 := Lib.hid (fun (v : Int) (h : (L.getD q default).2.2.1 = 7) (hv : fs (L.getD q default).2.2.2.1 = some v) => hx.out.ss.who hlt HE.out.one h hv)
          have HT6 := Lib.hid (fun (h : (L.getD q default).2.2.1 = 6) => hx.out.sl.hit hlt h)
          have HT7 := Lib.hid (fun (h : (L.getD q default).2.2.1 = 7) => hx.out.ss.hit hlt h)
          have HM6 := Lib.hid (fun (h : (L.getD q default).2.2.1 ≠ 6) => hx.out.sl.miss hlt h)
          have HM7 := Lib.hid (fun (h : (L.getD q default).2.2.1 ≠ 7) => hx.out.ss.miss hlt h)
          have HQ := Lib.hid hlt
          have HQw := Lib.hid (show wrap64 ((q : Int) + 1) = ((q + 1 : Nat) : Int) from (wrap_small (by have := HE.out.few; omega) (by have := HE.out.few; omega)).trans (by omega))
          clear hm hx hq hlt
          generalize L.getD q default = a at *
          obtain ⟨a1, a2, a3, a4, a5, a6⟩ := a
          dsimp only at x1 x2 x3 x4 x5 x6 ht hy hop HW6 HW7 HT6 HT7 HM6 HM7
          subst ht hy
          have hwy : (Lit.int .i64 (y : Int)).wf = true := nat_wfS (by omega)
          have hwt : (Lit.int .i64 (t : Int)).wf = true := nat_wfS (by omega)
          have hz : ∀ W, (zeroValue 3).run Tryz.prog W = .ok (.int .i64 0) W := fun W => by kernel_rfl
          --MI
          rcases hop with rfl | rfl
          · have hga := World.grownBy_alloc wr (.cells #[.int .i64 a1, .int .i64 (t : Int), .int .i64 7, .int .i64 (y : Int), .int .u64 a5, .int .u64 a6] 38) none
            have hE6 := HX.out.es.kept hga (by simp)
            have hO6 := HX.out.el.kept hga (by simp)
            have hlk := hE6.im.lookOkS Tryz.underlying33 Tryz.underlying3 (hz _) (by decide) (y : Int) hwy
            have hcl := cntK_le fs
            obtain ⟨w3, hup, hE3, hg3⟩ := hE6.put Tryz.underlying33 Tryz.underlying3 (by unfold maxLen; omega) (y : Int) (t : Int) hwy hwt
            rw [← cntK_put fs hy4 (t : Int)] at hE3
            have hO3 := hO6.kept hg3 (by intro e; injection e with e; omega)
            have hR3 := ((HX.out.row.old ((Below.refl _ _).alloc (Nat.le_refl _) (.cells #[.int .i64 a1, .int .i64 (t : Int), .int .i64 7, .int .i64 (y : Int), .int .u64 a5, .int .u64 a6] 38))).apartS hg3 (fun b' off' e => by have := HAp.out b' off' e; omega))
            have hb3 : Below w.heap.size w w3 := (HX.out.bel.alloc HX.out.bel.size (.cells #[.int .i64 a1, .int .i64 (t : Int), .int .i64 7, .int .i64 (y : Int), .int .u64 a5, .int .u64 a6] 38)).grown hg3 (by rw [World.size_alloc]; have := HX.out.bel.size; omega) (fun k hk => by injection hk with hk; have := HW5.out; omega)
            have HN := Lib.hid (show SpL w b0 (q + 1) (some ⟨b, off, none⟩) L fl (putAt fs (y : Int) (t : Int)) w3 from ⟨hO3, hE3, HM6.out (by decide), HT7.out rfl, hR3, hb3⟩)
            have HWh := Lib.hid HW7.out
            clear hga hE6 hO6 hcl hE3 hg3 hO3 hR3 hb3 HW6 HW7 HT6 HT7 HM6 HM7 HX hwy hwt hz
            cases hf : fs (y : Int) with
            | none =>
              rw [hf] at hlk
              simp only [Option.getD_none, Option.isSome_none] at hlk
              clear HWh hf
              go_wp2
              --K7
              rw [HQw.out]
              exact ⟨⟨q + 1, _, _, HQ.out, rfl, HN.out⟩, next_lessS HQ.out⟩
            | some v =>
              obtain rfl : v = (t : Int) := HWh.out v rfl hf
              rw [hf] at hlk
              simp only [Option.getD_some, Option.isSome_some] at hlk
              clear HWh hf
              go_wp2
              rw [HQw.out]
              exact ⟨⟨q + 1, _, _, HQ.out, rfl, HN.out⟩, next_lessS HQ.out⟩
          · have hga := World.grownBy_alloc wr (.cells #[.int .i64 a1, .int .i64 (t : Int), .int .i64 6, .int .i64 (y : Int), .int .u64 a5, .int .u64 a6] 38) none
            have hE6 := HX.out.el.kept hga (by simp)
            have hO6 := HX.out.es.kept hga (by simp)
            have hlk := hE6.im.lookOkS Tryz.underlying33 Tryz.underlying3 (hz _) (by decide) (y : Int) hwy
            have hcl := cntK_le fl
            obtain ⟨w3, hup, hE3, hg3⟩ := hE6.put Tryz.underlying33 Tryz.underlying3 (by unfold maxLen; omega) (y : Int) (t : Int) hwy hwt
            rw [← cntK_put fl hy4 (t : Int)] at hE3
            have hO3 := hO6.kept hg3 (by intro e; injection e with e; omega)
            have hR3 := ((HX.out.row.old ((Below.refl _ _).alloc (Nat.le_refl _) (.cells #[.int .i64 a1, .int .i64 (t : Int), .int .i64 6, .int .i64 (y : Int), .int .u64 a5, .int .u64 a6] 38))).apartS hg3 (fun b' off' e => by have := HAp.out b' off' e; omega))
            have hb3 : Below w.heap.size w w3 := (HX.out.bel.alloc HX.out.bel.size (.cells #[.int .i64 a1, .int .i64 (t : Int), .int .i64 6, .int .i64 (y : Int), .int .u64 a5, .int .u64 a6] 38)).grown hg3 (by rw [World.size_alloc]; have := HX.out.bel.size; omega) (fun k hk => by injection hk with hk; have := HW5.out; omega)
            have HN := Lib.hid (show SpL w b0 (q + 1) (some ⟨b, off, none⟩) L (putAt fl (y : Int) (t : Int)) fs w3 from ⟨hE3, hO3, HT6.out rfl, HM7.out (by decide), hR3, hb3⟩)
            have HWh := Lib.hid HW6.out
            clear hga hE6 hO6 hcl hE3 hg3 hO3 hR3 hb3 HW6 HW7 HT6 HT7 HM6 HM7 HX hwy hwt hz
            cases hf : fl (y : Int) with
            | none =>
              rw [hf] at hlk
              simp only [Option.getD_none, Option.isSome_none] at hlk
              clear HWh hf
              go_wp2
              --K6
              rw [HQw.out]
              exact ⟨⟨q + 1, _, _, HQ.out, rfl, HN.out⟩, next_lessS HQ.out⟩
            | some v =>
              obtain rfl : v = (t : Int) := HWh.out v rfl hf
              rw [hf] at hlk
              simp only [Option.getD_some, Option.isSome_some] at hlk
              clear HWh hf
              go_wp2
              rw [HQw.out]
              exact ⟨⟨q + 1, _, _, HQ.out, rfl, HN.out⟩, next_lessS HQ.out⟩
        · have hkn2 : ¬ (q : Int) < (L.length : Int) := fun h => hlt (Int.ofNat_lt.1 h)
          obtain rfl : L.length = q := Nat.le_antisymm (Nat.le_of_not_lt hlt) hq
          have hl1 := hx.out.el.len Tryz.underlying33 3
          have hl2 := hx.out.es.len Tryz.underlying33 3
          have HFin := Lib.hid hx.out.bel
          by_cases hr : 1 ≤ r1
          · have he := si_end hx.out.sl hx.out.ss (HE.out.iff hr)
            rw [he] at hl1
            clear hx hq hlt he hr
            generalize cntK fs = cn at *
            go_wp2_with (at_builtin; skip)
            --MJ
            go_ret
            exact ⟨rfl, HFin.out⟩
          · obtain rfl : r1 = 0 := by omega
            have hc1 := cntK_le fl
            have hc2 := cntK_le fs
            clear hx hq hlt hr
            generalize cntK fs = cn at *
            generalize cntK fl = cn2 at *
            by_cases hc : cn2 = cn
            · subst hc
              go_wp2_with (at_builtin; skip)
              go_ret
              exact ⟨rfl, HFin.out⟩
            · have hc' : ¬ (cn2 : Int) = (cn : Int) := by omega
              clear hc hc1 hc2
              go_wp2_with (at_builtin; skip)
              --ML
              go_ret
              exact ⟨rfl, HFin.out⟩
end Go.Proofs.YtaagdmompaphiaaGreatDoor

namespace Go.Proofs.YtaagdmompaphiaaGreatDoor.spreadThin
open Go.ChangeShapes Go.WideShapes Go.ChangeAt Go.RowKit
set_option linter.unusedVariables false

theorem own : ownKnob Tryz.prog.godebug = none := by kernel_rfl
theorem laidOut : laidOutB Tryz.prog = true := by kernel_rfl
theorem tsize : Tryz.prog.types.size = 265 := by kernel_rfl

theorem et : Tryz.prog.globalNamed "errors.errorType" = some 1 := by kernel_rfl
theorem rt : (Tryz.prog.cutTypes.find? (·.1 == "internal/reflectlite.rtype")).map (·.2) = some 183 := by kernel_rfl
theorem oneRow : ((List.range 265).filter fun t => Tryz.prog.rowNamed t [101, 114, 114, 111, 114]) = [29] := by kernel_rfl

/-- What the listed variables give the walk. -/
theorem cw_of {W : World} (h : laidMetH Tryz.prog Rows.spreadThinRow.laid W) : CW W := by
  have h' : laidMet Tryz.prog (Rows.spreadThinRow.laid.filter fun x => x.2.handleName?.isNone) W ∧ handlesMet Tryz.prog (Rows.spreadThinRow.laid.filter fun x => x.2.handleName?.isSome) W := h
  exact cw_of_laid h'.1 (List.mem_filter.2 ⟨.tail _ (.tail _ (.tail _ (.head _))), rfl⟩)
theorem handle_of_laid {W : World} (h : laidMetH Tryz.prog Rows.spreadThinRow.laid W) : ErrVar W := by
  have h' : laidMet Tryz.prog (Rows.spreadThinRow.laid.filter fun x => x.2.handleName?.isNone) W ∧ handlesMet Tryz.prog (Rows.spreadThinRow.laid.filter fun x => x.2.handleName?.isSome) W := h
  obtain ⟨name, u, ty, e1, e2, e3, e4, e5⟩ := h'.2 ("errors.errorType", Rows.laid_errors_errorType) (List.mem_filter.2 ⟨.tail _ (.tail _ (.head _)), rfl⟩)
  have en : name = [101, 114, 114, 111, 114] := (Option.some.inj e1).symm
  subst en
  obtain rfl := Option.some.inj (rt.symm.trans e2)
  have hm : ty ∈ (List.range 265).filter fun t => Tryz.prog.rowNamed t [101, 114, 114, 111, 114] := List.mem_filter.2 ⟨List.mem_range.2 (by rw [← tsize]; exact e3), e4⟩
  rw [oneRow] at hm
  obtain rfl := List.mem_singleton.1 hm
  have hh : typeHandle Tryz.prog 29 = .pointer (some ⟨8, 29, none⟩) := by kernel_rfl
  rw [hh] at e5
  have := World.var?_cell et e5 0
  unfold ErrVar
  simpa using this
theorem tz_of {W : World} (h : laidMetH Tryz.prog Rows.spreadThinRow.laid W) : TzVar W := by
  have h' : laidMet Tryz.prog (Rows.spreadThinRow.laid.filter fun x => x.2.handleName?.isNone) W ∧ handlesMet Tryz.prog (Rows.spreadThinRow.laid.filter fun x => x.2.handleName?.isSome) W := h
  exact tz_of_laid h'.1 (List.mem_filter.2 ⟨.tail _ (.head _), rfl⟩)

/-- So many blocks has the settled world. -/
noncomputable def low : Nat := (World.holding Tryz.prog default ⟨#[], #[], []⟩).heap.size
def put (o : Obj) (cs : Array Value) : Obj := match o with
  | .cells _ t frozen => .cells cs t frozen
  | o => o
def tab (k : IntKind) (zs : List Int) : Array Value := (zs.map fun z => Value.int k z).toArray
/-- A world that meets the condition. -/
noncomputable def laidWorld (os : Os) : World :=
  let w0 := World.holding Tryz.prog os ⟨#[], #[], []⟩
  { w0 with heap := ((((w0.heap.modify 1 (put · #[.iface 183 (.agg #[.pointer (some ⟨8, 29, none⟩)])])).modify 0 (put · formCells)).modify 6 (put · (tab .u8 [0, 1, 28, 2, 29, 14, 24, 3, 30, 22, 20, 15, 25, 17, 4, 8, 31, 27, 13, 23, 21, 19, 16, 7, 26, 12, 18, 6, 11, 5, 10, 9]))).modify 7 (put · (tab .u8 [0, 1, 56, 2, 57, 49, 28, 3, 61, 58, 42, 50, 38, 29, 17, 4, 62, 47, 59, 36, 45, 43, 51, 22, 53, 39, 33, 30, 24, 18, 12, 5, 63, 55, 48, 27, 60, 41, 37, 16, 46, 35, 44, 21, 52, 32, 23, 11, 54, 26, 40, 15, 34, 20, 31, 10, 25, 14, 19, 9, 13, 8, 7, 6]))) }
theorem laidWorld_met (os : Os) (args : Array Value) : laidMetH Tryz.prog Rows.spreadThinRow.laid ((laidWorld os).forCall (fun _ _ => 0) ⟨#[], args, []⟩).memory :=
  laidMetH_of_parts (LaidIn.of_run [0, 6, 7] 8 (by kernel_rfl) (by kernel_rfl) (by kernel_rfl) (by kernel_rfl)).met (by kernel_rfl)

/-- The walk. -/
theorem walk (a0 : Int) (a1 : Int) (a2 : Option Addr) (len2 cap2 : Nat) (nods2 : List Int) (w : World) (hw : CW w) (hg : ErrVar w) (ht : TzVar w) (N2 : Ints .i64 w w.heap.size a2 len2 nods2) (I2 : len2 ≤ cap2) :
    Calls Tryz.prog 3 #[.int .i64 a0, .int .i64 a1, .slice a2 len2 cap2] w fun e w' => e = .returned (.bool true) ∧ Below w.heap.size w w' := by
  exact spreadThin_any danceOK ⟨hw, hg, ht⟩ a0 a1 a2 len2 cap2 nods2 N2

set_option maxRecDepth 100000 in
theorem lifted (os : Os) (started : os.Started) (H : Type) (enc : TypeId × Value → H) :
    ReturnsInHanded {} Tryz.checked os 3 .any (fun w args => (Rows.spreadThinSpec.pre enc Tryz.prog Tryz.f3 [] false w args ∧ laidMetH Tryz.prog Rows.spreadThinRow.laid w) ∧ sizedMet enc Tryz.prog Tryz.f3 (OpenSpec.ofChange Rows.spreadThinSpec) false w args)
      (Rows.spreadThinSpec.post enc Tryz.prog Tryz.f3 false true false false) := by
  refine returnsInHanded_of_change_and (C := Tryz.checked) (X := fun w _ => laidMetH Tryz.prog Rows.spreadThinRow.laid w) (fun _ _ _ hh h => h.of_heap hh) own started (by kernel_rfl) Tryz.func3
    (ChangeSpec.witness_at (enc := enc) (C := Tryz.checked) (os := os) (X := fun w _ => laidMetH Tryz.prog Rows.spreadThinRow.laid w) false (laidWorld os) #[.int .i64 0, .int .i64 0, .slice none 0 0] 8 rfl (by kernel_rfl) (by kernel_rfl) (by kernel_rfl) (by kernel_rfl) (by kernel_rfl) (laidWorld_met os _)) ?_
  intro W base args ds gs before hval0 hW _ _ hL _
  have hval : ∀ (j : Nat) t v, Tryz.f3.params[j]? = some t → args[j]? = some v → Value.okWide Tryz.prog W .any base t v := hval0
  have hW' := hW
  obtain ⟨p, q, hA0, hV0, rfl, hfz, hnd⟩ := hW
  have hA : DataW.TrodAll enc Tryz.prog W 0 (fun _ => true) true Tryz.f3.params.toList args.toList ds p := hA0
  have hV : DataW.TrodVars enc Tryz.prog W (fun _ => true) [] gs q := hV0
  rw [Tryz.params3] at hA hval
  obtain ⟨v0, vs0, d0, ds0, p0, q0, hargs, rfl, rfl, h0, r0⟩ := trodAll_cons hA
  obtain ⟨v1, vs1, d1, ds1, p1, q1, rfl, rfl, rfl, h1, r1⟩ := trodAll_cons r0
  obtain ⟨v2, vs2, d2, ds2, p2, q2, rfl, rfl, rfl, h2, r2⟩ := trodAll_cons r1
  obtain ⟨rfl, rfl, rfl⟩ := trodAll_nil r2
  obtain rfl : args = #[v0, v1, v2] := by cases args; simp_all
  obtain ⟨rfl, rfl⟩ : gs = [] ∧ q = [] := by
    cases gs with
    | nil => exact ⟨rfl, hV⟩
    | cons g r => exact absurd hV (by intro h; cases h)
  obtain ⟨a0, rfl, rfl, rfl, w0⟩ := open_int Tryz.underlying3 (hval 0 3 v0 rfl rfl) h0
  obtain ⟨a1, rfl, rfl, rfl, w1⟩ := open_int Tryz.underlying3 (hval 1 3 v1 rfl rfl) h1
  obtain ⟨a2, len2, cap2, rfl⟩ := okWide_slice Tryz.underlying22 (hval 2 22 v2 rfl rfl)
  have k2 := h2
  have lt2 : ∀ x ∈ p2, x.block < W.heap.size := by obtain ⟨m, hm⟩ := k2; exact DataW.trod_lt m _ _ _ hm
  obtain ⟨nods2, N2, I2⟩ : ∃ nods, Ints .i64 W W.heap.size a2 len2 nods ∧ len2 ≤ cap2 := by
    obtain ⟨fuel, hf⟩ := h2
    obtain ⟨xs, hx, _⟩ := ints_of (a := a2) (len := len2) (cap := cap2) hf; exact ⟨xs, hx, cap_slice Tryz.underlying22 hf⟩
  have hw := cw_of hL
  have hg := handle_of_laid hL
  have ht := tz_of hL
  clear hA0 hval0
  refine (walk a0 a1 a2 len2 cap2 nods2 W hw hg ht N2 I2).mono fun e W' ⟨he, bel⟩ => ?_
  subst he
  exact ⟨_, rfl, _, _, _, [], _, [], hW', trodAll_mk1 (shut_bool Tryz.underlying4 _), (trodAll_cons_mk (shut_int Tryz.underlying3 w0) (trodAll_cons_mk (shut_int Tryz.underlying3 w1) (trodAll_cons_mk (Below.trod laidOut (by kernel_rfl) (of_decide_eq_true (by kernel_rfl)) k2 bel lt2) trodAll_mk0))), rfl, bel.frame _, fun h => by cases h⟩

theorem over : Rows.SpreadThinSaid :=
  OpenClaim.holds_of_wide 3 Tryz.f3 rfl rfl rfl rfl rfl rfl rfl ⟨rfl, rfl, rfl, rfl, rfl⟩ rfl rfl rfl rfl rfl (by kernel_rfl) Tryz.func3 (by kernel_rfl)
    (of_decide_eq_true (by kernel_rfl)) (by unfold Func.isWrapper; first | (rw [if_pos (by decide +kernel)]; kernel_rfl) | (rw [if_neg (by decide +kernel)]; exact ⟨rfl, rfl⟩))
    (fun os started H enc _ => lifted os started H enc)

/-- The given statement: the tied card. -/
theorem proved : Rows.SpreadThinCardSaid :=
  Claim7.holds_tied_plain_at .later [] [.data, .data, .handle, .data] true (true, "f3e498f15f0599c51ef48d4ca70d22bb4f2448dde73826260ef777617b4d9a2b") true
    over (fun _ h => by cases h) (by kernel_rfl) (fun _ h => by cases h) spreadThin_row_tie rfl ⟨rfl, rfl⟩ (by kernel_rfl) rfl
    (fun f fn hf hfn => by
      obtain rfl : f = 3 := Option.some.inj ((show Tryz.prog.funcNamed "quadrille/quadrillekeep.SpreadThin" = some 3 by kernel_rfl).symm.trans hf) |>.symm
      obtain rfl : fn = Tryz.f3 := (Option.some.inj (Tryz.func3.symm.trans hfn)).symm
      refine ⟨by kernel_rfl, fun j t ht => ?_⟩
      rw [Tryz.params3] at ht
      have hm : t ∈ [3, 3, 22] := by
        have := Array.mem_of_getElem? ht
        simpa using this
      have hall : ([3, 3, 22].all fun u => !Tryz.prog.wantsStandIn u) = true := by kernel_rfl
      exact (show Tryz.prog.wantsStandIn t = false by simpa using List.all_eq_true.1 hall t hm))
    (by kernel_rfl)
#print axioms proved
end Go.Proofs.YtaagdmompaphiaaGreatDoor.spreadThin
