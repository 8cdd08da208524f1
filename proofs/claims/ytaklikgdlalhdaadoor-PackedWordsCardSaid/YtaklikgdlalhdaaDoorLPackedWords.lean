/-
  Any state as a word, and the state that any word is, is the document's.
-/
import Derived.Test.YtaklikgdlalhdaaDoorLPhaserDoes
namespace Go.Proofs.YtaklikgdlalhdaaDoor
set_option maxRecDepth 100000
open Go.RowKit
set_option linter.unusedVariables false
set_option linter.unusedSimpArgs false

def Gives (f : FuncId) (args : Array Value) (v : Value) : Prop := ∀ W : World, Calls Tryd.prog f args W fun e w' => e = .returned v ∧ Below W.heap.size W w'
def Bares (v : Value) (k : Int) : Prop := ∀ W : World, ErrVar W → Calls Tryd.prog 8 #[v, .int .i64 k] W fun e w' => e = .returned (.bool true) ∧ Below W.heap.size W w'
set_option maxRecDepth 100000 in
set_option maxHeartbeats 16000000 in
theorem packedWords_walk {w : World} (hg : ErrVar w) (o : Bool) (f p q W x : Int) (E1 E2 : Value) (k1 k2 : Int) (o2 : Bool) (f2 p2 q2 : Int) (b : Bool)
    (h1 : Gives 4 #[.agg #[.bool o, .int .i64 f, .int .i64 p, .int .i64 q]] (.tuple #[.int .u64 x, .int .i64 k1])) (h2 : Gives 5 #[.agg #[.bool o, .int .i64 f, .int .i64 p, .int .i64 q]] (.tuple #[.int .u64 x, E1]))
    (h3 : Gives 6 #[.int .u64 W] (.tuple #[.agg #[.bool o2, .int .i64 f2, .int .i64 p2, .int .i64 q2], .int .i64 k2])) (h4 : Gives 7 #[.int .u64 W] (.tuple #[.agg #[.bool o2, .int .i64 f2, .int .i64 p2, .int .i64 q2], E2]))
    (h5 : Bares E1 k1) (h6 : Bares E2 k2) (h7 : Gives 9 #[.agg #[.bool o, .int .i64 f, .int .i64 p, .int .i64 q]] (.bool b)) (h8 : Gives 10 #[.agg #[.bool o, .int .i64 f, .int .i64 p, .int .i64 q]] (.bool b)) : Calls Tryd.prog 3 #[.agg #[.bool o, .int .i64 f, .int .i64 p, .int .i64 q], .int .u64 W] w fun e w' => e = .returned (.bool true) ∧ Below w.heap.size w w' := by
  have H1 := Lib.hid h1
  have H2 := Lib.hid h2
  have H3 := Lib.hid h3
  have H4 := Lib.hid h4
  have H5 := Lib.hid h5
  have H6 := Lib.hid h6
  have H7 := Lib.hid h7
  have H8 := Lib.hid h8
  have HG := Lib.hid hg
  clear hg h1 h2 h3 h4 h5 h6 h7 h8
  have HB1 := Lib.hid ((Below.refl w.heap.size w).alloc (Nat.le_refl _) (.cells #[.bool o, .int .i64 f, .int .i64 p, .int .i64 q] 23))
  have HP2 := Lib.hid (PhAt.new w o f p q)
  go_enter Tryd.func3, Tryd.ntmps3
  go_wp2_with fail
  refine (H1.out _).mono ?_
  rintro e w1 ⟨rfl, hb⟩
  have HB3 := Lib.hid (HB1.out.trans (hb.mono HB1.out.size))
  have HP4 := Lib.hid (HP2.out.below hb HP2.out.lt)
  clear hb HB1 HP2
  obtain ⟨a1c0, a1c1, a1c2, a1c3⟩ := HP4.out.cells
  have a1f := HP4.out.frozen
  have a1l := HP4.out.lt
  go_wp2_with fail
  refine (H2.out _).mono ?_
  rintro e w2 ⟨rfl, hb⟩
  have HB5 := Lib.hid (HB3.out.trans (hb.mono HB3.out.size))
  have HP6 := Lib.hid (HP4.out.below hb HP4.out.lt)
  clear hb HB3 HP4 a1c0 a1c1 a1c2 a1c3 a1f a1l
  obtain ⟨a2c0, a2c1, a2c2, a2c3⟩ := HP6.out.cells
  have a2f := HP6.out.frozen
  have a2l := HP6.out.lt
  go_wp2_with fail
  refine (H3.out _).mono ?_
  rintro e w3 ⟨rfl, hb⟩
  have HB7 := Lib.hid (HB5.out.trans (hb.mono HB5.out.size))
  have HP8 := Lib.hid (HP6.out.below hb HP6.out.lt)
  clear hb HB5 HP6 a2c0 a2c1 a2c2 a2c3 a2f a2l
  obtain ⟨a3c0, a3c1, a3c2, a3c3⟩ := HP8.out.cells
  have a3f := HP8.out.frozen
  have a3l := HP8.out.lt
  have ge8 : w.heap.size ≤ w3.heap.size := HB7.out.size
  have near8 : ¬ w.heap.size = w3.heap.size := by have := HP8.out.lt; omega
  have nera8 : ¬ w3.heap.size = w.heap.size := by have := HP8.out.lt; omega
  have HB9 := Lib.hid (HB7.out.alloc HB7.out.size (.cells #[.bool o2, .int .i64 f2, .int .i64 p2, .int .i64 q2] 23))
  have HP10 := Lib.hid (HP8.out.alloc (.cells #[.bool o2, .int .i64 f2, .int .i64 p2, .int .i64 q2] 23))
  have HP11 := Lib.hid (PhAt.new w3 o2 f2 p2 q2)
  have a3l1 : w.heap.size < w3.heap.size + 1 := by have := HP10.out.lt; omega
  have r3l1 : w3.heap.size < w3.heap.size + 1 := by have := HP11.out.lt; omega
  go_wp2_with fail
  refine (H4.out _).mono ?_
  rintro e w4 ⟨rfl, hb⟩
  have HB12 := Lib.hid (HB9.out.trans (hb.mono HB9.out.size))
  have HP13 := Lib.hid (HP10.out.below hb HP10.out.lt)
  have HP14 := Lib.hid (HP11.out.below hb HP11.out.lt)
  clear hb HB9 HP10 HP11 a3c0 a3c1 a3c2 a3c3 a3f a3l a3l1 r3l1
  obtain ⟨a4c0, a4c1, a4c2, a4c3⟩ := HP13.out.cells
  have a4f := HP13.out.frozen
  have a4l := HP13.out.lt
  obtain ⟨r4c0, r4c1, r4c2, r4c3⟩ := HP14.out.cells
  have r4f := HP14.out.frozen
  have r4l := HP14.out.lt
  have ge14 : w.heap.size ≤ w4.heap.size := HB12.out.size
  have neas14 : ¬ w.heap.size = w4.heap.size := by have := HP13.out.lt; omega
  have nesa14 : ¬ w4.heap.size = w.heap.size := by have := HP13.out.lt; omega
  have ners14 : ¬ w3.heap.size = w4.heap.size := by have := HP14.out.lt; omega
  have nesr14 : ¬ w4.heap.size = w3.heap.size := by have := HP14.out.lt; omega
  have HB15 := Lib.hid (HB12.out.alloc HB12.out.size (.cells #[.bool o2, .int .i64 f2, .int .i64 p2, .int .i64 q2] 23))
  have HP16 := Lib.hid (HP13.out.alloc (.cells #[.bool o2, .int .i64 f2, .int .i64 p2, .int .i64 q2] 23))
  have HP17 := Lib.hid (HP14.out.alloc (.cells #[.bool o2, .int .i64 f2, .int .i64 p2, .int .i64 q2] 23))
  have HP18 := Lib.hid (PhAt.new w4 o2 f2 p2 q2)
  have a4l1 : w.heap.size < w4.heap.size + 1 := by have := HP16.out.lt; omega
  have r4l1 : w3.heap.size < w4.heap.size + 1 := by have := HP17.out.lt; omega
  have s4l1 : w4.heap.size < w4.heap.size + 1 := by have := HP18.out.lt; omega
  go_upto_region 5 with (fail)
  obtain ⟨X, hX⟩ : ∃ X, (w4.alloc (.cells #[.bool o2, .int .i64 f2, .int .i64 p2, .int .i64 q2] 23)) = X := ⟨_, rfl⟩
  rw [hX]
  rw [hX] at HB15 HP16 HP17 HP18
  clear hX a4c0 a4c1 a4c2 a4c3 a4f a4l r4c0 r4c1 r4c2 r4c3 r4f r4l a4l1 r4l1 s4l1
  have HG0 := Lib.hid (errVar_of' HG.out (show Below w.heap.size w X from HB15.out))
  have HGd := Lib.hid (show ErrVar X.drew from HG0.out)
  obtain ⟨a0c0, a0c1, a0c2, a0c3⟩ := HP16.out.cells
  obtain ⟨r0c0, r0c1, r0c2, r0c3⟩ := HP17.out.cells
  obtain ⟨s0c0, s0c1, s0c2, s0c3⟩ := HP18.out.cells
  have H5d := Lib.hid (H5.out X.drew HGd.out)
  have H7d := Lib.hid (show ∀ V : World, Calls Tryd.prog 9 #[.agg #[.bool o, .int .i64 f, .int .i64 p, .int .i64 q]] V fun e w' => e = .returned (.bool b) ∧ Below V.heap.size V w' from H7.out)
  have H8d := Lib.hid (show ∀ V : World, Calls Tryd.prog 10 #[.agg #[.bool o, .int .i64 f, .int .i64 p, .int .i64 q]] V fun e w' => e = .returned (.bool b) ∧ Below V.heap.size V w' from H8.out)
  have hbb : (b == b) = true := by simp
  have hxx : (x == x) = true := by simp
  --MA
  go_region_with (first | (go_at_call 8; (with_reducible refine (H5d.out).mono ?_); rintro e v1 ⟨rfl, hb⟩; have hb2 : Below X.heap.size X v1 := ⟨hb.os, hb.tape, hb.output, hb.size, hb.block⟩; have HBv1 := Lib.hid (HB15.out.trans (hb2.mono HB15.out.size)); have Hav1 := Lib.hid (HP16.out.below hb2 HP16.out.lt); have Hrv1 := Lib.hid (HP17.out.below hb2 HP17.out.lt); have Hsv1 := Lib.hid (HP18.out.below hb2 HP18.out.lt); obtain ⟨a1c0, a1c1, a1c2, a1c3⟩ := Hav1.out.cells; obtain ⟨r1c0, r1c1, r1c2, r1c3⟩ := Hrv1.out.cells; obtain ⟨s1c0, s1c1, s1c2, s1c3⟩ := Hsv1.out.cells; have H6d := Lib.hid (H6.out v1 (errVar_of' HG0.out hb2)); clear hb hb2) | (go_at_call 8; (with_reducible refine (H6d.out).mono ?_); rintro e v2 ⟨rfl, hb⟩; have hb2 : Below v1.heap.size v1 v2 := ⟨hb.os, hb.tape, hb.output, hb.size, hb.block⟩; have HBv2 := Lib.hid (HBv1.out.trans (hb2.mono HBv1.out.size)); have Hav2 := Lib.hid (Hav1.out.below hb2 Hav1.out.lt); have Hrv2 := Lib.hid (Hrv1.out.below hb2 Hrv1.out.lt); have Hsv2 := Lib.hid (Hsv1.out.below hb2 Hsv1.out.lt); obtain ⟨a2c0, a2c1, a2c2, a2c3⟩ := Hav2.out.cells; obtain ⟨r2c0, r2c1, r2c2, r2c3⟩ := Hrv2.out.cells; obtain ⟨s2c0, s2c1, s2c2, s2c3⟩ := Hsv2.out.cells; clear hb hb2) | (go_at_call 9; (with_reducible refine (H7d.out _).mono ?_); rintro e v3 ⟨rfl, hb⟩; have hb2 : Below v2.heap.size v2 v3 := ⟨hb.os, hb.tape, hb.output, hb.size, hb.block⟩; have HBv3 := Lib.hid (HBv2.out.trans (hb2.mono HBv2.out.size)); have Hav3 := Lib.hid (Hav2.out.below hb2 Hav2.out.lt); have Hrv3 := Lib.hid (Hrv2.out.below hb2 Hrv2.out.lt); have Hsv3 := Lib.hid (Hsv2.out.below hb2 Hsv2.out.lt); obtain ⟨a3c0, a3c1, a3c2, a3c3⟩ := Hav3.out.cells; obtain ⟨r3c0, r3c1, r3c2, r3c3⟩ := Hrv3.out.cells; obtain ⟨s3c0, s3c1, s3c2, s3c3⟩ := Hsv3.out.cells; clear hb hb2) | (go_at_call 10; (with_reducible refine (H8d.out _).mono ?_); rintro e v4 ⟨rfl, hb⟩; have hb2 : Below v3.heap.size v3 v4 := ⟨hb.os, hb.tape, hb.output, hb.size, hb.block⟩; have HBv4 := Lib.hid (HBv3.out.trans (hb2.mono HBv3.out.size)); have Hav4 := Lib.hid (Hav3.out.below hb2 Hav3.out.lt); have Hrv4 := Lib.hid (Hrv3.out.below hb2 Hrv3.out.lt); have Hsv4 := Lib.hid (Hsv3.out.below hb2 Hsv3.out.lt); obtain ⟨a4c0, a4c1, a4c2, a4c3⟩ := Hav4.out.cells; obtain ⟨r4c0, r4c1, r4c2, r4c3⟩ := Hrv4.out.cells; obtain ⟨s4c0, s4c1, s4c2, s4c3⟩ := Hsv4.out.cells; clear hb hb2))
  --MB
  all_goals
    go_wp2
    go_ret
    exact ⟨rfl, HBv4.out⟩
theorem packedWords_any {w : World} (hg : ErrVar w) (o : Bool) (f p q W : Int) (h0 : 0 ≤ W) (h1 : W < 18446744073709551616) : Calls Tryd.prog 3 #[.agg #[.bool o, .int .i64 f, .int .i64 p, .int .i64 q], .int .u64 W] w fun e w' => e = .returned (.bool true) ∧ Below w.heap.size w w' := by
  obtain ⟨⟨o2, f2, p2, q2⟩, hx⟩ : ∃ x, phOf W = x := ⟨_, rfl⟩
  have b0 : Bares .nilIface 0 := fun V _ => bare_nil_b V
  have b1 : Bares (.iface 25 (.int .i64 1)) 1 := fun V hV => bare_errno_b 1 V hV
  have b3 : Bares (.iface 25 (.int .i64 3)) 3 := fun V hV => bare_errno_b 3 V hV
  by_cases hp : PhS.ok ⟨o, f, p, q⟩
  · by_cases hw : PhS.ok ⟨o2, f2, p2, q2⟩
    · exact packedWords_walk hg o f p q W _ _ _ _ _ _ _ _ _ _ (fun V => rWord_yes o f p q V hp) (fun V => pkWord_yes o f p q V hp) (fun V => rOf_yes V h0 h1 hx hw) (fun V => pkOf_yes V h0 h1 hx hw) b0 b0 (fun V => pkRight_yes o f p q V hp) (fun V => rRight_yes o f p q V hp)
    · exact packedWords_walk hg o f p q W _ _ _ _ _ _ _ _ _ _ (fun V => rWord_yes o f p q V hp) (fun V => pkWord_yes o f p q V hp) (fun V => rOf_no V h0 h1 hx hw) (fun V => pkOf_no V h0 h1 hx hw) b0 b3 (fun V => pkRight_yes o f p q V hp) (fun V => rRight_yes o f p q V hp)
  · by_cases hw : PhS.ok ⟨o2, f2, p2, q2⟩
    · exact packedWords_walk hg o f p q W _ _ _ _ _ _ _ _ _ _ (fun V => rWord_no o f p q V hp) (fun V => pkWord_no o f p q V hp) (fun V => rOf_yes V h0 h1 hx hw) (fun V => pkOf_yes V h0 h1 hx hw) b1 b0 (fun V => pkRight_no o f p q V hp) (fun V => rRight_no o f p q V hp)
    · exact packedWords_walk hg o f p q W _ _ _ _ _ _ _ _ _ _ (fun V => rWord_no o f p q V hp) (fun V => pkWord_no o f p q V hp) (fun V => rOf_no V h0 h1 hx hw) (fun V => pkOf_no V h0 h1 hx hw) b1 b3 (fun V => pkRight_no o f p q V hp) (fun V => rRight_no o f p q V hp)
end Go.Proofs.YtaklikgdlalhdaaDoor
