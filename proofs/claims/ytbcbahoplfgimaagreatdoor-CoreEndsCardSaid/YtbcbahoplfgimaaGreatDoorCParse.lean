/-
  Parse: the program that a text is.
-/
import Derived.Test.YtbcbahoplfgimaaGreatDoorCLine
namespace Go.Proofs.YtbcbahoplfgimaaGreatDoor
set_option maxRecDepth 100000
open Go.RowKit Go.Sort

def strLen : Value → Nat
  | .string s => s.size
  | _ => 0

structure ParseInv (w wr : World) (S : List UInt8) (l : List In5) (v : Value) (s : List UInt8) : Prop where
  own : wr.ownsRow w.heap.size 65 5 v l.length (cells5 l)
  ok : ∀ x ∈ l, okX x
  text : S = printL l ++ s
  few : l.length ≤ 600
  old : Below w.heap.size w wr

/-- What a text is told to be: a program, or none. -/
def ToldParse (S : List UInt8) (w : World) (e : Ending) (w' : World) : Prop := Below w.heap.size w w' ∧
  ((∃ l A c, e = .returned (.tuple #[.slice A l.length c, .nilIface]) ∧ w'.ownsRow w.heap.size 65 5 (.slice A l.length c) l.length (cells5 l) ∧ (∀ x ∈ l, okX x) ∧ printL l = S ∧ l.length ≤ 600) ∨
   (∃ t p, e = .returned (.tuple #[.slice none 0 0, .iface t p]) ∧ ∀ l, (∀ x ∈ l, okX x) → printL l = S → 600 < l.length))

/-- What is left is told by the instructions that are left. -/
theorem left_first {l l' : List In5} {s : List UInt8} (h1 : ∀ x ∈ l, okX x) (h2 : ∀ x ∈ l', okX x) (hs : s ≠ []) (h : printL l' = printL l ++ s) : ∃ x r, l' = l ++ x :: r ∧ okX x ∧ cutL 10 s = (bodyL x, printL r, true) := by
  obtain ⟨r, hr, hp⟩ := printL_split l l' s h1 h2 h
  cases r with
  | nil =>
    rw [printL_nil] at hp
    exact absurd hp.symm hs
  | cons x r =>
    have hx : okX x := h2 x (by rw [hr]; simp)
    exact ⟨x, r, hr, hx, by rw [← hp]; exact cutL_print x r hx⟩

set_option maxHeartbeats 2000000 in
theorem parse_any (S : List UInt8) (hS : S.length ≤ 4294967280) (w : World) (h : CW w) : Calls Tryz.prog 33 #[strV S] w (ToldParse S w) := by
  obtain ⟨i0, hi, hz0, hz1, hz2⟩ := info_parts infoIns
  have HC := Lib.hid h
  have hI0 : ParseInv w w S [] (.slice none 0 0) S := ⟨World.ownsRow_nil _ _ _ _, (fun x hx => by cases hx), rfl, Nat.zero_le _, Below.refl _ _⟩
  have HI := Lib.hid hI0
  clear h hI0
  unfold strV
  go_enter Tryz.func33, Tryz.ntmps33
  go_wp2
  go_loopw [0, 4] (fun sv pv wr => ∃ l A c s, ParseInv w wr S l (.slice A l.length c) s ∧ sv = .string ⟨s.toArray⟩ ∧ pv = .slice A l.length c) (fun sv _ _ => strLen sv)
  case atStart => exact ⟨[], none, 0, S, HI.out, rfl, rfl⟩
  case round =>
    obtain ⟨l, A, c, s, hJ, rfl, rfl⟩ := hrel
    clear HI
    have hsz : (⟨s.toArray⟩ : ByteArray).size = s.length := by simp [ByteArray.size]
    by_cases hne : s = []
    · subst hne
      have HJ := Lib.hid hJ
      clear hJ
      go_wp2
      go_ret2
      exact ⟨HJ.out.old, .inl ⟨l, A, c, rfl, HJ.out.own, HJ.out.ok, by have := HJ.out.text; rw [List.append_nil] at this; exact this.symm, HJ.out.few⟩⟩
    · have hpos : (0 : Int) < ((⟨s.toArray⟩ : ByteArray).size : Int) := by
        have := List.length_pos_iff.2 hne
        rw [hsz]
        omega
      have hsl : s.length ≤ 4294967280 := by
        have := congrArg List.length hJ.text
        rw [List.length_append] at this
        omega
      have hle := cutL_le 10 s
      have HC1 := Lib.hid (fun w => cut_any s 10 w hsl)
      have hcases := cutL_cases 10 s
      have HF := Lib.hid (fun l' h2 (h : printL l' = S) => left_first (l := l) (l' := l') hJ.ok h2 hne (h.trans hJ.text))
      obtain ⟨line, hline⟩ : ∃ a, (cutL 10 s).1 = a := ⟨_, rfl⟩
      obtain ⟨rest, hrest⟩ : ∃ a, (cutL 10 s).2.1 = a := ⟨_, rfl⟩
      obtain ⟨ended, hended⟩ : ∃ a, (cutL 10 s).2.2 = a := ⟨_, rfl⟩
      have hcut : cutL 10 s = (line, rest, ended) := by rw [← hline, ← hrest, ← hended]
      rw [hcut] at hle HF
      have HC2 := Lib.hid (fun w => (by have := HC1.out w; rw [hcut] at this; exact this : Calls Tryz.prog 50 #[strV s, .string ⟨#[10]⟩] w fun e w' => e = .returned (.tuple #[strV line, strV rest, .bool ended]) ∧ ∃ n, w' = w.drewN n))
      have HL := Lib.hid (fun w h => parseLine_any line (Nat.le_trans hle.1 hsl) w h)
      have HCC := Lib.hid hcases
      have HJ := Lib.hid hJ
      clear hJ hline hrest hended HC1 hcases
      unfold strV at HC2 HL
      have HS := Lib.hid hsz
      generalize hSB : (⟨s.toArray⟩ : ByteArray) = SB at *
      go_wp2_with fail
      refine (HC2.out _).mono ?_
      rintro e w3 ⟨rfl, hq⟩
      have hb3 : Below wr.heap.size wr w3 := by
        obtain ⟨q, rfl⟩ := hq
        exact below_drewN (Below.refl _ _) q
      have ho3 : w3.ownsRow w.heap.size 65 5 (.slice A l.length c) l.length (cells5 l) := by
        obtain ⟨q, rfl⟩ := hq
        exact HJ.out.own
      clear hq
      go_wp2_with fail
      refine (HL.out _ ((HC.out.old HJ.out.old).old hb3)).mono ?_
      rintro e w4 ⟨hb4, y, b, rfl, hy⟩
      have ho4 := ho3.kept (grown_of_old hb4) (Classical.em _)
      have hold : Below w.heap.size w w4 := HJ.out.old.trans ((hb3.trans (hb4.mono hb3.size)).mono HJ.out.old.size)
      clear hb3 hb4 ho3 HC2 HL
      obtain ⟨y0, y1, y2, y3, y4⟩ := y
      unfold insV
      rcases hy with ⟨rfl, hy⟩ | ⟨rfl, hy⟩
      · cases ended with
        | false =>
          have HE := Lib.hid (show ∀ l', (∀ x ∈ l', okX x) → printL l' = S → 600 < l'.length from fun l' h2 h => by
            obtain ⟨x, r, _, _, hc⟩ := HF.out l' h2 h
            simp at hc)
          have HB := Lib.hid (fun o1 o2 => (hold.alloc hold.size o1).alloc (o := o2) (hold.alloc hold.size o1).size)
          clear HJ HF HCC ho4 hy hold HS
          go_wp2
          go_ret2
          exact ⟨HB.out _ _, .inr ⟨_, _, rfl, HE.out⟩⟩
        | true =>
          obtain ⟨hok, hbody⟩ := parseX_sound hy
          have hsplit : s = line ++ 10 :: rest := by
            rcases HCC.out with ⟨_, e⟩ | ⟨a, b, e, _, ec⟩
            · rw [hcut] at e
              simp at e
            · rw [hcut] at ec
              simp only [Prod.mk.injEq, and_true] at ec
              obtain ⟨rfl, rfl⟩ := ec
              exact e
          by_cases hfull : l.length = 600
          · have HE := Lib.hid (show ∀ l', (∀ x ∈ l', okX x) → printL l' = S → 600 < l'.length from fun l' h2 h => by
              obtain ⟨x, r, hr, _, _⟩ := HF.out l' h2 h
              rw [hr, List.length_append, List.length_cons]
              omega)
            have HB := Lib.hid (fun o1 => hold.alloc hold.size o1)
            clear HJ HF HCC ho4 hy hold HS hok hbody hsplit
            have hfl : ((l.length : Int) == 600) = true := by rw [hfull]; rfl
            go_wp2
            go_ret2
            exact ⟨HB.out _, .inr ⟨_, _, rfl, HE.out⟩⟩
          · have hfl : ((l.length : Int) == 600) = false := by
              have : (l.length : Int) ≠ 600 := by omega
              simpa using this
            have hfew := HJ.out.few
            have hown5 := (ho4.alloc (.cells #[.int .i64 y0, .int .i64 y1, .int .i64 y2, .int .i64 y3, .int .i64 y4] 65)).alloc (.cells #[.int .i64 y0, .int .i64 y1, .int .i64 y2, .int .i64 y3, .int .i64 y4] 65)
            have hnews := World.news_of_block (cs := #[.int .i64 y0, .int .i64 y1, .int .i64 y2, .int .i64 y3, .int .i64 y4]) (heap_alloc_new (w4.alloc (.cells #[.int .i64 y0, .int .i64 y1, .int .i64 y2, .int .i64 y3, .int .i64 y4] 65)) (.cells #[.int .i64 y0, .int .i64 y1, .int .i64 y2, .int .i64 y3, .int .i64 y4] 65))
            have hoc : ∀ u ∈ [Value.int .i64 y0, .int .i64 y1, .int .i64 y2, .int .i64 y3, .int .i64 y4], u.oneCell' = true := by
              intro u hu
              simp at hu
              rcases hu with rfl | rfl | rfl | rfl | rfl <;> rfl
            have HO5 := Lib.hid hown5
            have HNW := Lib.hid hnews
            have HOC := Lib.hid hoc
            have HB := Lib.hid (fun o1 o2 => (hold.alloc hold.size o1).alloc (o := o2) (hold.alloc hold.size o1).size)
            have HOK := Lib.hid (show ∀ x ∈ l ++ [(y0, y1, y2, y3, y4)], okX x from fun x hx => by
              rcases List.mem_append.1 hx with hx | hx
              · exact HJ.out.ok x hx
              · rw [List.mem_singleton.1 hx]; exact hok)
            have HT := Lib.hid (show S = printL (l ++ [(y0, y1, y2, y3, y4)]) ++ rest by
              rw [HJ.out.text, hsplit, printL_append, ← hbody]
              simp [printL, lineL])
            have hlr : rest.length < s.length := by rw [hsplit]; simp; omega
            have HLR := Lib.hid hlr
            have hsz4 := hold.size
            clear HJ HF HCC ho4 hy hold hok hbody hsplit hown5 hnews hoc hle hlr hcut
            go_wp2_with (at_builtin; refine wpList_append_own _ rfl (.tmp 39) (.tmp 41) 63 rfl w.heap.size 65 i0 (.agg #[.int .i64 0, .int .i64 0, .int .i64 0, .int .i64 0, .int .i64 0]) 5 40 Tryz.underlying63 hi hz0 hz1 hz2 rfl (by decide) _ l.length (cells5 l) rfl HO5.out ⟨w4.heap.size + 1, 0, none⟩ 1 1 [.int .i64 y0, .int .i64 y1, .int .i64 y2, .int .i64 y3, .int .i64 y4] rfl rfl ?c1 HOC.out ?c3 ?c4 ?c5 ?_)
            case c1 => have := HNW.out; simpa using this
            case c3 => unfold maxLen; omega
            case c4 => omega
            case c5 => simp; omega
            intro v' w6 hown6 hg6 _
            obtain ⟨A6, c6, rfl⟩ := own_form hown6
            have hown6' : w6.ownsRow w.heap.size 65 5 (.slice A6 (l ++ [(y0, y1, y2, y3, y4)]).length c6) (l ++ [(y0, y1, y2, y3, y4)]).length (cells5 (l ++ [(y0, y1, y2, y3, y4)])) := by
              rw [cells5_append, cells5_one, List.length_append]
              exact hown6
            have HJ2 := Lib.hid (show ParseInv w w6 S (l ++ [(y0, y1, y2, y3, y4)]) (.slice A6 (l ++ [(y0, y1, y2, y3, y4)]).length c6) rest from ⟨hown6', HOK.out, HT.out, by rw [List.length_append, List.length_singleton]; omega, (HB.out _ _).grown hg6 (by have := (HB.out (.cells #[.int .i64 y0, .int .i64 y1, .int .i64 y2, .int .i64 y3, .int .i64 y4] 65) (.cells #[.int .i64 y0, .int .i64 y1, .int .i64 y2, .int .i64 y3, .int .i64 y4] 65)).size; exact this) (fun k hk => (HO5.out.lt k hk).1)⟩)
            clear hown6 hg6 hown6' HB HO5 HNW
            go_wp2
            go_roundw
            case rel => exact ⟨l ++ [(y0, y1, y2, y3, y4)], A6, c6, rest, HJ2.out, rfl, by simp⟩
            case measure =>
              have h1 := HLR.out
              have h2 := HS.out
              have h3 : (⟨rest.toArray⟩ : ByteArray).size = rest.length := by simp [ByteArray.size]
              show (⟨rest.toArray⟩ : ByteArray).size < SB.size
              omega
      · have HE := Lib.hid (show ∀ l', (∀ x ∈ l', okX x) → printL l' = S → 600 < l'.length from fun l' h2 h => by
          obtain ⟨x, r, _, hx, hc⟩ := HF.out l' h2 h
          simp only [Prod.mk.injEq] at hc
          rw [hc.1, parseX_whole hx] at hy
          cases hy)
        have HB := Lib.hid (fun o1 o2 => (hold.alloc hold.size o1).alloc (o := o2) (hold.alloc hold.size o1).size)
        clear HJ HF HCC ho4 hy hold HS
        go_wp2
        go_ret2
        exact ⟨HB.out _ _, .inr ⟨_, _, rfl, HE.out⟩⟩
end Go.Proofs.YtbcbahoplfgimaaGreatDoor
