/-
  An assignment to a map's entry beside others goes in two steps: the entry, then the store. Keys that are integers.
-/
import Derived.Test.YtnooegfhkeddnaaDoorIMap
import Derived.WideKeyEntry
namespace Go.Proofs.YtnooegfhkeddnaaDoor
set_option maxRecDepth 100000
open Go.RowKit Go.Shelf Go.WideShapes
open Go.ChangeMaps (setBlock modify_eq_set heap_setBlock_same heap_setBlock_other)
open Go.WideElems (findIdx_born findIdx_arr modify_last set_self)

theorem two_steps {H : Type} {P : Program} {w : World} {t k e : TypeId} {R : Value → Option (DataW H × List MemPlace)} {b : Nat} {es : Array MapEntry} {clock : Nat} (K : Maps.Keyed P k) (ht : P.underlying t = some (.map k e)) {z : Value}
    (hz : (zeroValue e).run P w = .ok z w) (hb : w.heap[b]? = some (.map es clock)) (F : WideElems.Fit P k R es clock) {key : Value} {kl : Lit} (hkey : keyOf P k key = some kl) :
    ∃ (v0 : Value) (st : Nat) (es1 : Array MapEntry) (clock1 : Nat), (Instr.mapEntry t (.map (some b)) key).run P w = .ok (.tuple #[v0, .int .i64 st]) (setBlock w b (.map es1 clock1)) ∧
      ∀ (w2 : World) (val : Value), w2.heap[b]? = some (.map es1 clock1) → ∃ es' clock', (Instr.entryStore t (.map (some b)) (.int .i64 st) val).run P w2 = .ok () (setBlock w2 b (.map es' clock')) ∧
        (Instr.mapUpdate t (.map (some b)) key val).run P w = .ok () (setBlock w b (.map es' clock')) := by
  have hst := F.stamped
  rcases K.find w hkey es.toList F.keys with ⟨hf, hno⟩ | ⟨j, e0, hf, hj, he⟩
  · refine ⟨z, clock, es.push ⟨key, z, clock⟩, clock + 1, ?_, fun w2 val h2 => ⟨es.push ⟨key, val, clock⟩, clock + 1, ?_, ?_⟩⟩
    · simp [Instr.mapEntry, run_underlying ht, MapKept.run_getObj_map hb, K.check w false hkey, hf, hz, MapKept.run_setObj_map _ hb, Result.andThen, setBlock, goInt]
    · have hlast : (es.push ⟨key, z, clock⟩).toList[es.size]? = some (⟨key, z, clock⟩ : MapEntry) := by simp
      have hnd : ((es.push (⟨key, z, clock⟩ : MapEntry)).toList.map (·.born)).Nodup := by
        rw [Array.toList_push, List.map_append, List.map_singleton, List.nodup_append]
        refine ⟨hst.2.1, by simp, fun x hx y hy hxy => ?_⟩
        obtain ⟨u, hu, rfl⟩ := List.mem_map.1 hx
        have hlt := hst.1 u hu
        have hy2 : y = clock := by simpa using hy
        rw [hy2] at hxy
        exact absurd hxy (Nat.ne_of_lt hlt)
      have hidx := (findIdx_arr (es.push ⟨key, z, clock⟩) _).trans (findIdx_born hnd hlast)
      have hnew : (es.push (⟨key, z, clock⟩ : MapEntry)).modify es.size (fun x => { x with val := val }) = es.push ⟨key, val, clock⟩ :=
        Array.ext' (by rw [Array.toList_modify, Array.toList_push, Array.toList_push, ← Array.length_toList, modify_last])
      simp [Instr.entryStore, MapKept.run_getObj_map h2, asInt, asIntOf, hidx, hnew, MapKept.run_setObj_map _ h2, Result.andThen, setBlock]
    · simp [Instr.mapUpdate, run_underlying ht, MapKept.run_getObj_map hb, K.check w false hkey, hf, MapKept.run_setObj_map _ hb, Result.andThen, setBlock]
  · have hj' : es[j]? = some e0 := by simpa using hj
    have hkeep : es.modify j (fun x => { x with key := key }) = es :=
      Array.ext' (by rw [Array.toList_modify, modify_eq_set _ _ _ _ hj, show ({ e0 with key := key } : MapEntry) = e0 by rw [← he], set_self _ _ _ hj])
    refine ⟨e0.val, e0.born, es, clock, ?_, fun w2 val h2 => ⟨es.modify j (fun x => { x with key := key, val := val }), clock, ?_, ?_⟩⟩
    · simp [Instr.mapEntry, run_underlying ht, MapKept.run_getObj_map hb, K.check w false hkey, hf, hj', he, K.stays w hkey, hkeep, MapKept.run_setObj_map _ hb, Result.andThen, setBlock, goInt]
    · have hidx := (findIdx_arr es _).trans (findIdx_born hst.2.1 hj)
      have hnew : es.modify j (fun x => { x with val := val }) = es.modify j (fun x => { x with key := key, val := val }) :=
        Array.ext' (by rw [Array.toList_modify, Array.toList_modify, modify_eq_set _ _ _ _ hj, modify_eq_set _ _ _ _ hj, ← he])
      simp [Instr.entryStore, MapKept.run_getObj_map h2, asInt, asIntOf, hidx, hnew, MapKept.run_setObj_map _ h2, Result.andThen, setBlock]
    · simp [Instr.mapUpdate, run_underlying ht, MapKept.run_getObj_map hb, K.check w false hkey, hf, hj', he, K.stays w hkey, MapKept.run_setObj_map _ hb, Result.andThen, setBlock]

theorem IM.entry {q : IntKind} {te : TypeId} {w : World} {b m : Nat} {f : Int → Option Int} (h : IM q te w b m f) {t : TypeId} (ht : Tryd.prog.underlying t = some (.map 3 te)) (he : Tryd.prog.underlying te = some (.int q)) (hz : (zeroValue te).run Tryd.prog w = .ok (.int q 0) w)
    (hm : m < maxLen) (a : Int) (ha : (Lit.int .i64 a).wf = true) :
    ∃ (v0 : Value) (st : Nat) (w1 : World), (Instr.mapEntry t (.map (some b)) (.int .i64 a)).run Tryd.prog w = .ok (.tuple #[v0, .int .i64 st]) w1 ∧ w.grownBy w1 (some b) ∧
      ∀ (w2 : World) (c : Int), (Lit.int q c).wf = true → w2.heap[b]? = w1.heap[b]? → ∃ w3, (Instr.entryStore t (.map (some b)) (.int .i64 st) (.int q c)).run Tryd.prog w2 = .ok () w3 ∧ IM q te w3 b (m + 1) (putAt f a c) ∧ w2.grownBy w3 (some b) := by
  have hh := h
  obtain ⟨D, ⟨es, clock, hb, F, hs, hD⟩, hf⟩ := h
  obtain ⟨v0, st, es1, clock1, hrun, hst⟩ := two_steps keyedInt ht hz hb F (Maps.keyOf_int_mk Tryd.underlying3 ha)
  have hgrow : ∀ (u : World) (o : Obj) (es0 : Array MapEntry) (k0 : Nat), u.heap[b]? = some (.map es0 k0) → u.grownBy (setBlock u b o) (some b) := fun u o es0 k0 h0 => ⟨rfl, rfl, rfl, by simp [setBlock], fun i _ hi => heap_setBlock_other h0 o (fun e => hi (by rw [e]))⟩
  refine ⟨v0, st, _, hrun, hgrow _ _ _ _ hb, fun w2 c hc h2 => ?_⟩
  rw [heap_setBlock_same hb] at h2
  obtain ⟨es', clock', hr2, hup⟩ := hst w2 (.int q c) h2
  obtain ⟨w', hrun', hI, _⟩ := hh.put ht he hm a c ha hc
  rw [hup] at hrun'
  injection hrun' with _ hw
  subst hw
  exact ⟨_, hr2, hI.block (by rw [heap_setBlock_same h2, heap_setBlock_same hb]), hgrow _ _ _ _ h2⟩
end Go.Proofs.YtnooegfhkeddnaaDoor
