/-
  Whether any picks are fair, and picks that are, is the document's: the reference looks at each window.
-/
import Derived.Test.YtoljmleomkkchaaDoorOFair
import Derived.Test.YtoljmleomkkchaaDoorEMap
import Derived.Test.YtoljmleomkkchaaDoorBare
namespace Go.Proofs.YtoljmleomkkchaaDoor
set_option maxRecDepth 100000
open Go.RowKit Go.Shelf
open Go.WideShapes
set_option linter.unusedVariables false
set_option linter.unusedSimpArgs false

theorem fiwithin_any (x a b : Int) (w : World) : Calls Tryd.prog 21 #[.int .i64 x, .int .i64 a, .int .i64 b] w fun e w' => e = .returned (.bool (decide (a ≤ x ∧ x ≤ b))) ∧ w = w' := by
  by_cases h : a ≤ x
  · by_cases h2 : x ≤ b
    · have e : decide (a ≤ x ∧ x ≤ b) = true := decide_eq_true ⟨h, h2⟩
      rw [e]
      go_enter Tryd.func21, Tryd.ntmps21
      go_wp2
      go_ret
      exact ⟨rfl, rfl⟩
    · have e : decide (a ≤ x ∧ x ≤ b) = false := decide_eq_false fun h => h2 h.2
      rw [e]
      go_enter Tryd.func21, Tryd.ntmps21
      go_wp2
      go_ret
      exact ⟨rfl, rfl⟩
  · have e : decide (a ≤ x ∧ x ≤ b) = false := decide_eq_false fun h' => h h'.1
    rw [e]
    go_enter Tryd.func21, Tryd.ntmps21
    go_wp2
    go_ret
    exact ⟨rfl, rfl⟩

/-! Whom a window has seen. -/
def seenF (l : List Int) (n i q : Nat) (x : Int) : Bool := decide (0 ≤ x ∧ x < (n : Int) ∧ x ∈ (l.drop i).take q)
def cntF (l : List Int) (n i q : Nat) : Nat := (List.range n).countP fun (t : Nat) => seenF l n i q (t : Int)
theorem seenF_zero (l : List Int) (n i : Nat) : seenF l n i 0 = fun _ => false := by
  funext x
  simp [seenF]
theorem cntF_zero (l : List Int) (n i : Nat) : cntF l n i 0 = 0 := by
  unfold cntF
  rw [seenF_zero]
  simp
theorem take_next {l : List Int} {i q : Nat} (h : i + q < l.length) : (l.drop i).take (q + 1) = (l.drop i).take q ++ [l.getD (i + q) 0] := by
  rw [List.take_add_one, List.getElem?_drop, List.getD_eq_getElem?_getD, List.getElem?_eq_getElem h]
  rfl
theorem seenF_out {l : List Int} {n i q : Nat} (h : i + q < l.length) (hx : ¬ (0 ≤ l.getD (i + q) 0 ∧ l.getD (i + q) 0 < (n : Int))) : seenF l n i (q + 1) = seenF l n i q := by
  funext x
  unfold seenF
  rw [take_next h]
  congr 1
  apply propext
  constructor
  · rintro ⟨a, b, c⟩
    rcases List.mem_append.1 c with c | c
    · exact ⟨a, b, c⟩
    · rw [List.mem_singleton.1 c] at a b
      exact absurd ⟨a, b⟩ hx
  · rintro ⟨a, b, c⟩
    exact ⟨a, b, List.mem_append_left _ c⟩
theorem seenF_in {l : List Int} {n i q : Nat} (h : i + q < l.length) (hx : 0 ≤ l.getD (i + q) 0 ∧ l.getD (i + q) 0 < (n : Int)) : seenF l n i (q + 1) = setAt (seenF l n i q) (l.getD (i + q) 0) := by
  funext x
  unfold seenF setAt
  rw [take_next h]
  by_cases e : x = l.getD (i + q) 0
  · rw [if_pos e, e]
    exact decide_eq_true ⟨hx.1, hx.2, List.mem_append_right _ (List.mem_singleton.2 rfl)⟩
  · rw [if_neg e]
    congr 1
    apply propext
    constructor
    · rintro ⟨a, b, c⟩
      rcases List.mem_append.1 c with c | c
      · exact ⟨a, b, c⟩
      · exact absurd (List.mem_singleton.1 c) e
    · rintro ⟨a, b, c⟩
      exact ⟨a, b, List.mem_append_left _ c⟩
theorem countP_point {p q : Nat → Bool} {u : Nat} (hpq : ∀ t, t ≠ u → q t = p t) (hp : p u = false) (hq : q u = true) : ∀ n, (List.range n).countP q = (List.range n).countP p + if u < n then 1 else 0
  | 0 => by simp
  | n + 1 => by
    rw [List.range_succ, List.countP_append, List.countP_append, countP_point hpq hp hq n]
    by_cases e : n = u
    · subst e
      simp [hp, hq]
    · have h1 := hpq n e
      have h3 : [n].countP q = [n].countP p := by simp [h1]
      rw [h3]
      by_cases h2 : u < n
      · rw [if_pos h2, if_pos (by omega)]; omega
      · rw [if_neg h2, if_neg (by omega)]; omega
theorem cntF_in {l : List Int} {n i q : Nat} (h : i + q < l.length) (hx : 0 ≤ l.getD (i + q) 0 ∧ l.getD (i + q) 0 < (n : Int)) : cntF l n i (q + 1) = cntF l n i q + if seenF l n i q (l.getD (i + q) 0) then 0 else 1 := by
  unfold cntF
  rw [seenF_in h hx]
  obtain ⟨u, hu⟩ : ∃ u : Nat, l.getD (i + q) 0 = u := ⟨(l.getD (i + q) 0).toNat, by omega⟩
  rw [hu] at hx ⊢
  cases hs : seenF l n i q (u : Int) with
  | true =>
    rw [if_pos rfl, Nat.add_zero]
    congr 1
    funext t
    unfold setAt
    by_cases e : (t : Int) = (u : Int)
    · rw [if_pos e, e, hs]
    · rw [if_neg e]
  | false =>
    rw [if_neg (by decide)]
    have := countP_point (p := fun t => seenF l n i q (t : Int)) (q := fun t => setAt (seenF l n i q) (u : Int) (t : Int)) (u := u) (fun t ht => by show (if (t : Int) = (u : Int) then true else _) = _; rw [if_neg (by omega)]) hs (by show (if (u : Int) = (u : Int) then true else _) = _; rw [if_pos rfl]) n
    rw [if_pos (by omega)] at this
    exact this
theorem cntF_le (l : List Int) (n i q : Nat) : cntF l n i q ≤ n := by
  have := List.countP_le_length (p := fun (t : Nat) => seenF l n i q (t : Int)) (l := List.range n)
  rw [List.length_range] at this
  exact this
theorem cntF_full (l : List Int) (n i q : Nat) : cntF l n i q = n ↔ ∀ t : Nat, t < n → (t : Int) ∈ (l.drop i).take q := by
  unfold cntF
  have h := List.countP_eq_length (p := fun (t : Nat) => seenF l n i q (t : Int)) (l := List.range n)
  rw [List.length_range] at h
  rw [h]
  constructor
  · intro h t ht
    have := h t (List.mem_range.2 ht)
    unfold seenF at this
    exact (of_decide_eq_true this).2.2
  · intro h t ht
    have ht := List.mem_range.1 ht
    exact decide_eq_true ⟨by omega, by omega, h t ht⟩
theorem fair_full {l : List Int} {n W : Nat} : FairW l n W ↔ ∀ i, i + W ≤ l.length → cntF l n i W = n :=
  ⟨fun h i hi => (cntF_full l n i W).2 fun t ht => h i hi t ht, fun h i hi t ht => (cntF_full l n i W).1 (h i hi) t ht⟩

theorem own_tight {w : World} {k : TypeId} {R : Value → Option (DataW Unit × List MemPlace)} {b n : Nat} {D : DataW Unit} (h : w.ownsMap Tryd.prog k R b n D) : w.ownsMap Tryd.prog k R b (Maps.size D) D := by
  obtain ⟨es, clock, hb, F, hle, rfl⟩ := h
  exact ⟨es, clock, hb, F, by simp [Maps.size, length_sorted], rfl⟩
/-- Writing at a key, whether it is there or not. -/
theorem EM.set {te : TypeId} {w : World} {b m : Nat} {f : Int → Bool} (h : EM te w b m f) {t : TypeId} (ht : Tryd.prog.underlying t = some (.map 3 te)) (he : Tryd.prog.underlying te = some .bool) (hm : m < maxLen) (a : Int) (ha : (Lit.int .i64 a).wf = true) :
    ∃ w', (Instr.mapUpdate t (.map (some b)) (.int .i64 a) (.bool true)).run Tryd.prog w = .ok () w' ∧ EM te w' b (m + if f a then 0 else 1) (setAt f a) ∧ w.grownBy w' (some b) := by
  cases hn : f a with
  | false =>
    rw [if_neg (by decide)]
    exact h.put ht he hm a ha hn
  | true =>
    obtain ⟨D, hD, hT, hs, hf⟩ := h
    have hK := Maps.keyOf_int_mk Tryd.underlying3 ha
    obtain ⟨w', hrun, hD', hg⟩ := hD.update keyedInt ht hm hK (plainElem_bool he true)
    have hk := keyedInt.key hK
    have hsz : Maps.size (D.put (.int .i64 a) (.lit (.bool true))) = m := by
      rw [Maps.size_put hT, hf a ha, hn, hs]
      simp
    refine ⟨w', hrun, ⟨_, ?_, hT.put hk _, hsz, fun x hx => ?_⟩, hg⟩
    · have := own_tight hD'
      rw [hsz] at this
      exact this
    · by_cases e : x = a
      · subst e
        rw [Maps.has_put_same hD.isMap hk]
        simp [setAt]
      · rw [Maps.has_put_other (lit_ne e), hf x hx]
        simp [setAt, e]
theorem fint_wf {x : Int} (h0 : 0 ≤ x) (h1 : x < 100000) : (Lit.int .i64 x).wf = true := by
  simp [Lit.wf, IntKind.min, IntKind.max, IntKind.signed, IntKind.bits]
  omega

/-- It says whether this is so. -/
def SaysIf (q : Prop) (w : World) (e : Ending) (w' : World) : Prop := ∃ b, e = .returned (.bool b) ∧ (b = true ↔ q) ∧ Below w.heap.size w w'
set_option maxHeartbeats 4000000 in
theorem rfair_in {w : World} {A : Option Addr} {cap m k W : Nat} {l : List Int} (hI : Ints .i64 w w.heap.size A m l) (hc : m ≤ cap) (hm : m ≤ 150) (hk : k ≤ 16) (hW : 1 ≤ W) (hWb : (W : Int) ≤ 9223372036854775807) :
    Calls Tryd.prog 19 #[.slice A m cap, .int .i64 (k : Nat), .int .i64 (W : Nat)] w (SaysIf (FairW l k W) w) := by
  have HI := Lib.hid hI
  have hll := hI.len
  have HW1 := Lib.hid (fun w => by have := fiwithin_any (k : Nat) 0 16 w; rwa [decide_eq_true (by omega)] at this)
  have HWx := Lib.hid (fun x w => fiwithin_any x 0 ((k : Int) - 1) w)
  have HFF := Lib.hid (fair_full (l := l) (n := k) (W := W))
  have hw1 : ¬ (W : Int) < 1 := by omega
  have hk1 : wrap64 ((k : Int) - 1) = (k : Int) - 1 := by unfold wrap64; omega
  have HK1 := Lib.hid hk1
  clear hI hk1
  go_enter Tryd.func19, Tryd.ntmps19
  go_wp2_with fail
  refine (HW1.out _).mono ?_
  rintro e w1 ⟨rfl, rfl⟩
  clear HW1
  go_wp2
  --MA
  go_loopw [7] (fun v wr => ∃ i : Nat, v = .int .i64 i ∧ i ≤ m ∧ (i = 0 ∨ i + W ≤ m + 1) ∧ Hid ((∀ j, j < i → cntF l k j W = k) ∧ Below w.heap.size w wr)) (fun v _ => m + 1 - (intOf v).toNat)
  case atStart => exact ⟨0, rfl, Nat.zero_le _, .inl rfl, ⟨fun j h => absurd h (Nat.not_lt_zero _), Below.refl _ _⟩⟩
  case round =>
    obtain ⟨i, rfl, him, hi2, hX⟩ := hrel
    by_cases hin : i + W ≤ m
    · have h1 : (W : Int) ≤ (m : Int) := by omega
      obtain ⟨e1, he1⟩ : ∃ e1 : Nat, i + W = e1 := ⟨_, rfl⟩
      obtain ⟨d1, hd1⟩ : ∃ d1 : Nat, m - W = d1 := ⟨_, rfl⟩
      have h3 : (i : Int) ≤ (d1 : Int) := by omega
      have h5 : (e1 : Int) ≤ (cap : Int) := by omega
      have h6 : (i : Int) ≤ (e1 : Int) := by omega
      have hne : ¬ cap = i := by omega
      have HH2 := Lib.hid (show wrap64 ((m : Int) - (W : Int)) = (d1 : Int) by unfold wrap64; omega)
      have HH4 := Lib.hid (show wrap64 ((i : Int) + (W : Int)) = (e1 : Int) by unfold wrap64; omega)
      obtain ⟨b, off, hA, hbl, hx⟩ := HI.out.row (by omega)
      subst hA
      have HX := Lib.hid hX.out
      have HCells := Lib.hid hx
      have HBl := Lib.hid hbl
      have hmk : ∀ W : World, (Instr.makeMap 63 none).run Tryd.prog W = .ok (.map (some W.heap.size)) (W.alloc (.map #[] 0)) := fun W => run_makeMap 63 W
      have HE1 := Lib.hid (And.intro he1 hd1)
      have h2 := HH2.out
      have h4 := HH4.out
      clear hX hx hbl he1 hd1
      --MB
      go_wp2
      --MC
      rw [show decide ((i : Int) ≤ (m : Int) - (W : Int)) = true from decide_eq_true (by omega), show i + W - i = W by omega]
      obtain ⟨b0, hb0⟩ : ∃ b0, wr.heap.size = b0 := ⟨_, rfl⟩
      have hwb : w.heap.size ≤ b0 := by rw [← hb0]; exact HX.out.2.size
      have HE0 := Lib.hid (show EM 4 (wr.alloc (.map #[] 0)) b0 (cntF l k i 0) (seenF l k i 0) ∧ Below w.heap.size w (wr.alloc (.map #[] 0)) from ⟨by rw [cntF_zero, seenF_zero, ← hb0]; exact EM.made _ _, HX.out.2.alloc HX.out.2.size _⟩)
      rw [hb0]
      have HWB := Lib.hid hwb
      clear hmk hb0 hwb h2 h4
      go_loopw [40] (fun j wx => ∃ q : Nat, q ≤ W ∧ j = .int .i64 q ∧ Hid (EM 4 wx b0 (cntF l k i q) (seenF l k i q) ∧ Below w.heap.size w wx)) (fun j _ => W - (intOf j).toNat)
      case atStart => exact ⟨0, Nat.zero_le _, rfl, by first | exact HE0.out | exact ⟨HE0.out⟩⟩
      case round =>
        obtain ⟨q, hq, rfl, hY⟩ := hrel
        by_cases hlt : q < W
        · have hqn : (q : Int) < (W : Int) := by omega
          have hcell := (World.cell?_of_block (a := ⟨b, off + (i + q), none⟩) (hY.out.2.block b HBl.out)).trans (HCells.out (i + q) (by omega))
          rw [← Nat.add_assoc] at hcell
          obtain ⟨x, hxv⟩ : ∃ x, l.getD (i + q) 0 = x := ⟨_, rfl⟩
          rw [hxv] at hcell
          have HXv := Lib.hid hxv
          have HY := Lib.hid hY.out
          have hil : i + q < l.length := by omega
          have HIl := Lib.hid hil
          have HWk := Lib.hid (HWx.out x)
          have HQl := Lib.hid hq
          clear hY hxv hil
          by_cases hx : 0 ≤ x ∧ x ≤ (k : Int) - 1
          · have hset := HY.out.1.set Tryd.underlying63 Tryd.underlying4 (by have := cntF_le l k i q; unfold maxLen; omega) x (fint_wf hx.1 (by omega))
            obtain ⟨w9, hup, hem, hg9⟩ := hset
            have HNew := Lib.hid (show EM 4 w9 b0 (cntF l k i (q + 1)) (seenF l k i (q + 1)) ∧ Below w.heap.size w w9 from ⟨by
              have h1 : 0 ≤ l.getD (i + q) 0 ∧ l.getD (i + q) 0 < (k : Int) := by rw [HXv.out]; omega
              rw [cntF_in HIl.out h1, seenF_in HIl.out h1, HXv.out]
              exact hem, HY.out.2.grown hg9 (by have := HY.out.2.size; omega) (by intro q hq; injection hq with hq; have := HWB.out; omega)⟩)
            rw [decide_eq_true hx] at HWk
            have hk1 := HK1.out
            clear hem hg9 hx HY
            go_wp2_with fail
            refine (HWk.out _).mono ?_
            rintro e w8 ⟨rfl, rfl⟩
            clear hk1
            go_wp2
            go_roundw
            case rel => exact ⟨q + 1, by omega, by go_num, by first | exact HNew.out | exact ⟨HNew.out⟩⟩
            case measure => simp [intOf]; omega
          · have HNew := Lib.hid (show EM 4 _ b0 (cntF l k i (q + 1)) (seenF l k i (q + 1)) ∧ Below w.heap.size w _ from by
              have h1 := seenF_out (n := k) HIl.out (by rw [HXv.out]; omega)
              have h2 : cntF l k i (q + 1) = cntF l k i q := by unfold cntF; rw [h1]
              rw [h1, h2]
              exact HY.out)
            rw [decide_eq_false hx] at HWk
            have hk1 := HK1.out
            clear hx HY
            go_wp2_with fail
            refine (HWk.out _).mono ?_
            rintro e w8 ⟨rfl, rfl⟩
            clear hk1
            go_wp2
            go_roundw
            case rel => exact ⟨q + 1, by omega, by go_num, by first | exact HNew.out | exact ⟨HNew.out⟩⟩
            case measure => simp [intOf]; omega
        · have hqn : ¬ (q : Int) < (W : Int) := by omega
          obtain rfl : q = W := by omega
          have hlen := fun ty => hY.out.1.len Tryd.underlying63 ty
          have HBy := Lib.hid hY.out.2
          have hcl := cntF_le l k i q
          have HCnt := Lib.hid hcl
          obtain ⟨cn, hcn⟩ : ∃ cn, cntF l k i q = cn := ⟨_, rfl⟩
          rw [hcn] at hlen
          have HCn := Lib.hid hcn
          clear hY hcl hcn
          by_cases hf : cn < k
          · have hfi : (cn : Int) < (k : Int) := by omega
            have HNo := Lib.hid (show ¬ FairW l k q from fun h => by
              have := HFF.out.1 h i (by omega)
              have := HCn.out
              omega)
            clear hf
            go_wp2
            go_ret
            exact ⟨false, rfl, ⟨fun h => (by cases h), fun h => absurd h HNo.out⟩, HBy.out⟩
          · have hfi : ¬ (cn : Int) < (k : Int) := by omega
            have HNew := Lib.hid (show (∀ j, j < i + 1 → cntF l k j q = k) ∧ Below w.heap.size w _ from ⟨fun j hj => by
              by_cases e : j = i
              · have h1 := HCn.out; have h2 := HCnt.out; rw [e]; omega
              · exact HX.out.1 j (by omega), HBy.out⟩)
            clear hf HBy
            go_wp2
            go_roundw
            case rel => exact ⟨i + 1, by go_num, by omega, .inr (by omega), by first | exact HNew.out | exact ⟨HNew.out⟩⟩
            case measure => simp [intOf]; omega
    · have HNo := Lib.hid (show FairW l k W ∧ Below w.heap.size w wr from ⟨HFF.out.2 fun j hj => hX.out.1 j (by omega), hX.out.2⟩)
      clear hX
      by_cases hwm : W ≤ m
      · have h1 : (W : Int) ≤ (m : Int) := by omega
        obtain ⟨d1, hd1⟩ : ∃ d1 : Nat, m - W = d1 := ⟨_, rfl⟩
        have h3 : ¬ (i : Int) ≤ (d1 : Int) := by omega
        have h2 : wrap64 ((m : Int) - (W : Int)) = (d1 : Int) := by unfold wrap64; omega
        clear hd1
        go_wp2
        go_ret
        exact ⟨true, rfl, ⟨fun _ => HNo.out.1, fun _ => rfl⟩, HNo.out.2⟩
      · have h1 : ¬ (W : Int) ≤ (m : Int) := by omega
        go_wp2
        go_ret
        exact ⟨true, rfl, ⟨fun _ => HNo.out.1, fun _ => rfl⟩, HNo.out.2⟩

theorem rfair_no {w : World} {A : Option Addr} {cap m : Nat} {n window : Int} (h : ¬ (0 ≤ n ∧ n ≤ 16) ∨ window < 1) : Calls Tryd.prog 19 #[.slice A m cap, .int .i64 n, .int .i64 window] w fun e w' => e = .returned (.bool false) ∧ w = w' := by
  have HW := Lib.hid (fun w => fiwithin_any n 0 16 w)
  by_cases hn : 0 ≤ n ∧ n ≤ 16
  · have hw : window < 1 := h.resolve_left fun q => q hn
    rw [decide_eq_true hn] at HW
    clear h hn
    go_enter Tryd.func19, Tryd.ntmps19
    go_wp2_with fail
    refine (HW.out _).mono ?_
    rintro e w1 ⟨rfl, rfl⟩
    go_wp2
    go_ret
    exact ⟨rfl, rfl⟩
  · rw [decide_eq_false hn] at HW
    clear h hn
    go_enter Tryd.func19, Tryd.ntmps19
    go_wp2_with fail
    refine (HW.out _).mono ?_
    rintro e w1 ⟨rfl, rfl⟩
    go_wp2
    go_ret
    exact ⟨rfl, rfl⟩
theorem rfair_any {w : World} {A : Option Addr} {cap m : Nat} {l : List Int} (n window : Int) (hI : Ints .i64 w w.heap.size A m l) (hc : m ≤ cap) (hm : m ≤ 150) (hwb : window ≤ 9223372036854775807) :
    Calls Tryd.prog 19 #[.slice A m cap, .int .i64 n, .int .i64 window] w (SaysIf (isFair l n window) w) := by
  by_cases h : (0 ≤ n ∧ n ≤ 16) ∧ 1 ≤ window
  · obtain ⟨⟨h1, h2⟩, h3⟩ := h
    obtain ⟨k, rfl⟩ : ∃ k : Nat, n = k := ⟨n.toNat, by omega⟩
    obtain ⟨W, rfl⟩ : ∃ W : Nat, window = W := ⟨window.toNat, by omega⟩
    refine (rfair_in (k := k) (W := W) hI hc hm (by omega) (by omega) hwb).mono ?_
    rintro e w' ⟨b, he, hb, hB⟩
    exact ⟨b, he, hb.trans (isFair_nat (by omega) (by omega)).symm, hB⟩
  · refine (rfair_no (by omega)).mono ?_
    rintro e w' ⟨he, rfl⟩
    exact ⟨false, he, ⟨fun q => (by cases q), fun q => absurd ⟨⟨q.1, q.2.1⟩, q.2.2.1⟩ h⟩, Below.refl _ _⟩
theorem frounds_no {w : World} {n times : Int} (h : ¬ (0 ≤ n ∧ n ≤ 16) ∨ ¬ (0 ≤ times ∧ times ≤ 1000)) : Calls Tryd.prog 17 #[.int .i64 n, .int .i64 times] w fun e w' => e = .returned (.tuple #[.slice none 0 0, .iface 23 (.int .i64 2)]) ∧ w = w' := by
  have HW1 := Lib.hid (fun w => fwithin_any n 0 16 w)
  have HW2 := Lib.hid (fun w => fwithin_any times 0 1000 w)
  by_cases hn : 0 ≤ n ∧ n ≤ 16
  · have ht : ¬ (0 ≤ times ∧ times ≤ 1000) := h.resolve_left fun q => q hn
    rw [decide_eq_true hn] at HW1
    rw [decide_eq_false ht] at HW2
    clear h hn ht
    go_enter Tryd.func17, Tryd.ntmps17
    go_wp2_with fail
    refine (HW1.out _).mono ?_
    rintro e w1 ⟨rfl, rfl⟩
    go_wp2_with fail
    refine (HW2.out _).mono ?_
    rintro e w1 ⟨rfl, rfl⟩
    go_wp2
    go_ret2
    exact ⟨rfl, rfl⟩
  · rw [decide_eq_false hn] at HW1
    clear h hn
    go_enter Tryd.func17, Tryd.ntmps17
    go_wp2_with fail
    refine (HW1.out _).mono ?_
    rintro e w1 ⟨rfl, rfl⟩
    go_wp2
    go_ret2
    exact ⟨rfl, rfl⟩
theorem errVar_of {w w' : World} (hg : ErrVar w) (hb : Below w.heap.size w w') : ErrVar w' :=
  (World.cell?_of_block (a := ⟨0, 0, none⟩) (hb.block _ (World.block_lt_of_cell? w _ hg))).trans hg
theorem int_bounds {x : Int} (h : (Lit.int .i64 x).wf = true) : -9223372036854775808 ≤ x ∧ x ≤ 9223372036854775807 := by
  simp [Lit.wf, IntKind.min, IntKind.max, IntKind.signed, IntKind.bits] at h
  omega
set_option maxHeartbeats 4000000 in
theorem fairIs_any {w : World} (hg : ErrVar w) {A : Option Addr} {cap m : Nat} {l : List Int} (n window times : Int) (hI : Ints .i64 w w.heap.size A m l) (hc : m ≤ cap) (wn : (Lit.int .i64 n).wf = true) (ww : (Lit.int .i64 window).wf = true) :
    Calls Tryd.prog 6 #[.slice A m cap, .int .i64 n, .int .i64 window, .int .i64 times] w fun e w' => e = .returned (.bool true) ∧ Below w.heap.size w w' := by
  obtain ⟨n1, n2⟩ := int_bounds wn
  obtain ⟨w1, w2⟩ := int_bounds ww
  have HI := Lib.hid hI
  have HG := Lib.hid hg
  have HC := Lib.hid hc
  have HIs := Lib.hid (fun (X : World) (hX : Ints .i64 X X.heap.size A m l) (hm : m ≤ 150) => fis_any (cap := cap) (n := n) (window := window) hX (by omega) n1 n2 w1 w2)
  have HRs := Lib.hid (fun (X : World) (hX : Ints .i64 X X.heap.size A m l) (hm : m ≤ 150) => rfair_any (cap := cap) n window hX hc hm w2)
  clear hI hg hc wn ww n1 n2 w1 w2
  by_cases h150 : 150 < m
  · have h9' : (150 : Int) < (m : Int) := by omega
    go_enter Tryd.func6, Tryd.ntmps6
    go_wp2
    go_ret
    exact ⟨rfl, Below.refl _ _⟩
  have h9' : ¬ (150 : Int) < (m : Int) := by omega
  have HM := Lib.hid (show m ≤ 150 by omega)
  by_cases hin : (0 ≤ n ∧ n ≤ 16) ∧ (0 ≤ times ∧ times ≤ 1000)
  · obtain ⟨⟨a1, a2⟩, a3, a4⟩ := hin
    obtain ⟨k, rfl⟩ : ∃ k : Nat, n = k := ⟨n.toNat, by omega⟩
    obtain ⟨tm, rfl⟩ : ∃ tm : Nat, times = tm := ⟨times.toNat, by omega⟩
    have HF := Lib.hid (frounds_any (w := w) (n := k) (times := tm) (by omega) (by omega))
    have HB16 := Lib.hid (show k ≤ 16 ∧ tm ≤ 1000 by omega)
    obtain ⟨d, hd⟩ : ∃ d, k * tm = d := ⟨_, rfl⟩
    rw [hd] at HF
    have hdm : k * tm ≤ 16 * 1000 := Nat.mul_le_mul (by omega) (by omega)
    have HD := Lib.hid (show wrap64 ((k : Int) * (tm : Int)) = (d : Int) by rw [← Int.natCast_mul, hd]; unfold wrap64; omega)
    have HDd := Lib.hid (And.intro hd (show d ≤ 16000 by omega))
    clear a1 a2 a3 a4 hd hdm
    go_enter Tryd.func6, Tryd.ntmps6
    go_wp2_with fail
    refine HF.out.mono ?_
    rintro e w1 ⟨A1, c1, rfl, ho1, hb1⟩
    have HO := Lib.hid ho1
    have HB1 := Lib.hid hb1
    have HIs1 := Lib.hid (HIs.out w1 (HI.out.oldF hb1) HM.out)
    clear ho1 hb1 HF HIs
    go_wp2_with fail
    refine HIs1.out.mono ?_
    rintro e w2 ⟨b1, rfl, hb1, hB2⟩
    have HB2 := Lib.hid (HB1.out.trans (hB2.mono HB1.out.size))
    have HS1 := Lib.hid hb1
    have HRs2 := Lib.hid (HRs.out w2 (HI.out.oldF HB2.out) HM.out)
    have HO2 := Lib.hid (Ints.oldF (show Ints .i64 w1 w1.heap.size A1 d (turnsL k tm) from Ints.of_own HO.out) hB2)
    clear hb1 hB2 HB1 HIs1 HRs HO
    go_wp2_with fail
    refine HRs2.out.mono ?_
    rintro e w3 ⟨b2, rfl, hb2, hB3⟩
    have hbb : b1 = b2 := Bool.eq_iff_iff.2 (HS1.out.trans hb2.symm)
    subst hbb
    have HB3 := Lib.hid (HB2.out.trans (hB3.mono HB2.out.size))
    have HO3 := Lib.hid (Ints.oldF HO2.out hB3)
    have hne : (b1 != b1) = false := by simp
    have h16 := HB16.out
    have k1 : ¬ (k : Int) < 0 := by omega
    have k2 : ¬ (16 : Int) < (k : Int) := by omega
    have k3 : ¬ (tm : Int) < 0 := by omega
    have k4 : ¬ (1000 : Int) < (tm : Int) := by omega
    have hdn : ((d : Int) != (d : Int)) = false := by simp
    have hd := HD.out
    clear hb2 hB3 HB2 HS1 HRs2 HO2 h16
    --MA
    go_wp2
    --MB
    clear hd
    go_loopw [64] (fun j wr => ∃ q : Nat, q ≤ d ∧ j = .int .i64 q ∧ wr = w3) (fun j _ => d - (intOf j).toNat)
    case atStart => exact ⟨0, Nat.zero_le _, rfl, rfl⟩
    case round =>
      obtain ⟨q, hq, rfl, rfl⟩ := hrel
      by_cases hlt : q < d
      · have hqn : (q : Int) < (d : Int) := by omega
        obtain ⟨b, off, hA, _, hx⟩ := HO3.out.row (by omega)
        subst hA
        have hcell := hx q hlt
        have hk0 : 0 < k := by
          rcases Nat.eq_zero_or_pos k with h | h
          · have := HDd.out.1; rw [h, Nat.zero_mul] at this; omega
          · exact h
        rw [turns_at hk0 tm q (by rw [HDd.out.1]; exact hlt)] at hcell
        have hrm : Int.tmod (q : Int) (k : Int) = ((q % k : Nat) : Int) := (Int.ofNat_tmod q k).symm
        obtain ⟨z, hz⟩ : ∃ z : Nat, q % k = z := ⟨_, rfl⟩
        rw [hz] at hcell hrm
        have hzz : ((z : Int) != (z : Int)) = false := by simp
        have hkne : ¬ (k : Int) = 0 := by omega
        have hkz : ((k : Int) == 0) = false := by simp; omega
        have hmod : (q : Int) % (k : Int) = (z : Int) := by rw [← hz]; rfl
        have hqd := HDd.out.2
        clear hx hz hk0
        --MC
        go_wp2
        go_roundw
        case rel => exact ⟨q + 1, by omega, by go_num, by first | trivial | rfl⟩
        case measure => simp [intOf]; omega
      · have hqn : ¬ (q : Int) < (d : Int) := by omega
        go_wp2
        go_ret
        exact ⟨rfl, HB3.out⟩
  · have HF := Lib.hid (frounds_no (w := w) (n := n) (times := times) (by omega))
    have HIs1 := Lib.hid (HIs.out w HI.out HM.out)
    clear HIs
    go_enter Tryd.func6, Tryd.ntmps6
    go_wp2_with fail
    refine HF.out.mono ?_
    rintro e w1 ⟨rfl, rfl⟩
    clear HF
    go_wp2_with fail
    refine HIs1.out.mono ?_
    rintro e w2 ⟨b1, rfl, hb1, hB2⟩
    have HB2 := Lib.hid hB2
    have HS1 := Lib.hid hb1
    have HRs2 := Lib.hid (HRs.out w2 (HI.out.oldF hB2) HM.out)
    clear hb1 hB2 HIs1 HRs
    go_wp2_with fail
    refine HRs2.out.mono ?_
    rintro e w3 ⟨b2, rfl, hb2, hB3⟩
    have hbb : b1 = b2 := Bool.eq_iff_iff.2 (HS1.out.trans hb2.symm)
    subst hbb
    have HB3 := Lib.hid (HB2.out.trans (hB3.mono HB2.out.size))
    have HBr := Lib.hid (bare_errno 2 w3 (errVar_of HG.out (HB2.out.trans (hB3.mono HB2.out.size))))
    have hne : (b1 != b1) = false := by simp
    have hcase : n < 0 ∨ (¬ n < 0 ∧ 16 < n) ∨ (¬ n < 0 ∧ ¬ 16 < n ∧ times < 0) ∨ (¬ n < 0 ∧ ¬ 16 < n ∧ ¬ times < 0 ∧ 1000 < times) := by omega
    clear hb2 hB3 HB2 HS1 HRs2 hin
    rcases hcase with c1 | ⟨c1, c2⟩ | ⟨c1, c2, c3⟩ | ⟨c1, c2, c3, c4⟩
    all_goals
      go_wp2_with fail
      refine HBr.out.mono ?_
      rintro e w4 ⟨rfl, hg4⟩
      have HB4 := Lib.hid (HB3.out.grown hg4 HB3.out.size (by intro k hk; cases hk))
      clear hg4 HBr HB3
      go_wp2
      go_ret
      exact ⟨rfl, HB4.out⟩
end Go.Proofs.YtoljmleomkkchaaDoor
