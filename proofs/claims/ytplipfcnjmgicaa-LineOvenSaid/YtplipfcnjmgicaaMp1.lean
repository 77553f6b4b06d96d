/-
  A MAP THAT SAYS OF SOME KEYS THAT THEY ARE IN IT: what is looked up, what is stored. No statement is proved here.
-/
import Derived.Test.YtplipfcnjmgicaaRb1
import Derived.Maps.Own
import Derived.DeepKeys4
namespace Go.Proofs.Ytplipfcnjmgicaa
open Go.RowKit Go.Maps
set_option linter.unusedVariables false
set_option linter.unusedSimpArgs false

/-- Block b is a map in which just the keys of S are true; there are no others. -/
def SeenIn {α : Type} (kv : α → Value) (W : World) (b : Nat) (S : List α) : Prop :=
  ∃ es clock, W.heap[b]? = some (.map es clock) ∧ (∀ e ∈ es.toList, ∃ m, m ∈ S ∧ e.key = kv m ∧ e.val = .bool true) ∧ ∀ m, m ∈ S → ∃ e ∈ es.toList, e.key = kv m
theorem SeenIn.keep {α : Type} {kv : α → Value} {W V : World} {b : Nat} {S : List α} (h : SeenIn kv W b S) (hb : V.heap[b]? = W.heap[b]?) : SeenIn kv V b S := by
  obtain ⟨es, c, h1, h2, h3⟩ := h
  exact ⟨es, c, hb.trans h1, h2, h3⟩
theorem SeenIn.lt {α : Type} {kv : α → Value} {W : World} {b : Nat} {S : List α} (h : SeenIn kv W b S) : b < W.heap.size := by
  obtain ⟨es, c, h1, _⟩ := h
  exact (Array.getElem?_eq_some_iff.1 h1).1
theorem SeenIn.new {α : Type} (kv : α → Value) (W : World) : SeenIn kv (W.alloc (.map #[] 0)) W.heap.size [] :=
  ⟨#[], 0, World.alloc_heap_new W _, by simp, by simp⟩
section
variable {α : Type} {kv : α → Value} {P : Program} {T K E : TypeId} (L : Keyed P K) (hT : P.underlying T = some (.map K E)) {G : α → Prop} (hk : ∀ m, G m → ∃ l, keyOf P K (kv m) = some l) (hi : ∀ m m', kv m = kv m' → m = m')
include L hT hk hi
theorem seen_lookup (hz : ∀ w : World, (zeroValue E).run P w = .ok (.bool false) w) {W : World} {b : Nat} {S : List α} (h : SeenIn kv W b S) (hS : ∀ m ∈ S, G m) (m : α) (hm : G m) (r : Bool) (hr : r = true ↔ m ∈ S) :
    (Instr.lookup T (.map (some b)) (kv m) false).run P W = .ok (.bool r) W := by
  obtain ⟨es, c, h1, h2, h3⟩ := h
  obtain ⟨l, hl⟩ := hk m hm
  have hall : ∀ e ∈ es.toList, ∃ l, keyOf P K e.key = some l := fun e he => by obtain ⟨m', hm', e1, _⟩ := h2 e he; rw [e1]; exact hk m' (hS m' hm')
  have hc := L.check W es.isEmpty hl
  rcases L.find W hl es.toList hall with ⟨f1, f2⟩ | ⟨j, e, f1, f2, f3⟩
  · have hm : m ∉ S := fun hm => by obtain ⟨e, he, e1⟩ := h3 m hm; exact f2 e he e1
    have hr' : r = false := by cases r with | true => exact (hm (hr.1 rfl)).elim | false => rfl
    simp [Instr.lookup, run_underlying hT, MapKept.run_getObj_map h1, hc, f1, hz, Result.andThen, hr']
  · have hm : m ∈ S := by
      obtain ⟨m', hm', e1, _⟩ := h2 e (List.mem_of_getElem? f2)
      exact hi _ _ (f3.symm.trans e1) ▸ hm'
    have hv : e.val = .bool true := by obtain ⟨_, _, _, e2⟩ := h2 e (List.mem_of_getElem? f2); exact e2
    simp [Instr.lookup, run_underlying hT, MapKept.run_getObj_map h1, hc, f1, hv, Result.andThen, hr.2 hm]
theorem seen_update {W : World} {b : Nat} {S : List α} (h : SeenIn kv W b S) (hS : ∀ m ∈ S, G m) (m : α) (hm : G m) :
    ∃ V, (Instr.mapUpdate T (.map (some b)) (kv m) (.bool true)).run P W = .ok () V ∧ SeenIn kv V b (S ++ [m]) ∧ W.grownBy V (some b) ∧ V.heap.size = W.heap.size := by
  obtain ⟨es, c, h1, h2, h3⟩ := h
  obtain ⟨l, hl⟩ := hk m hm
  have hall : ∀ e ∈ es.toList, ∃ l, keyOf P K e.key = some l := fun e he => by obtain ⟨m', hm', e1, _⟩ := h2 e he; rw [e1]; exact hk m' (hS m' hm')
  have hc := L.check W false hl
  have hlt : b < W.heap.size := (Array.getElem?_eq_some_iff.1 h1).1
  have grown : ∀ o : Obj, W.grownBy (ChangeMaps.setBlock W b o) (some b) ∧ (ChangeMaps.setBlock W b o).heap.size = W.heap.size ∧ (ChangeMaps.setBlock W b o).heap[b]? = some o := fun o => by
    refine ⟨⟨rfl, rfl, rfl, by simp [ChangeMaps.setBlock], fun k _ hk => ?_⟩, by simp [ChangeMaps.setBlock], ?_⟩
    · simp only [ChangeMaps.setBlock, Array.getElem?_setIfInBounds]
      rw [if_neg (fun e => hk (by rw [e]))]
    · simp [ChangeMaps.setBlock, hlt]
  rcases L.find W hl es.toList hall with ⟨f1, f2⟩ | ⟨j, e, f1, f2, f3⟩
  · refine ⟨ChangeMaps.setBlock W b (.map (es.push ⟨kv m, .bool true, c⟩) (c + 1)), ?_, ⟨_, _, (grown _).2.2, ?_, ?_⟩, (grown _).1, (grown _).2.1⟩
    · simp [Instr.mapUpdate, run_underlying hT, MapKept.run_getObj_map h1, hc, f1, MapKept.run_setObj_map _ h1, Result.andThen, ChangeMaps.setBlock]
    · intro x hx
      simp only [Array.toList_push, List.mem_append, List.mem_singleton] at hx
      rcases hx with hx | rfl
      · obtain ⟨m', hm', e1, e2⟩ := h2 x hx
        exact ⟨m', by simp [hm'], e1, e2⟩
      · exact ⟨m, by simp, rfl, rfl⟩
    · intro m' hm'
      rcases List.mem_append.1 hm' with hm' | hm'
      · obtain ⟨x, hx, e1⟩ := h3 m' hm'
        exact ⟨x, by simp [hx], e1⟩
      · simp at hm'
        subst hm'
        exact ⟨⟨kv m', .bool true, c⟩, by simp, rfl⟩
  · have hj : es[j]? = some e := by simpa using f2
    have hjl : j < es.toList.length := (List.getElem?_eq_some_iff.1 f2).1
    obtain ⟨m0, hm0, e0, v0⟩ := h2 e (List.mem_of_getElem? f2)
    obtain rfl : m = m0 := hi _ _ (f3.symm.trans e0)
    have hself : (fun e' : MapEntry => { e' with key := kv m, val := Value.bool true }) e = e := by
      obtain ⟨k, v, bn⟩ := e
      simp only at f3 v0
      simp [f3, v0]
    have hmod : es.modify j (fun e' => { e' with key := kv m, val := .bool true }) = es := by
      apply Array.ext_getElem?
      intro i
      rw [Array.getElem?_modify]
      split
      · rename_i hij
        subst hij
        rw [hj]
        exact congrArg some hself
      · rfl
    refine ⟨ChangeMaps.setBlock W b (.map es c), ?_, ⟨_, _, (grown _).2.2, ?_, ?_⟩, (grown _).1, (grown _).2.1⟩
    · simp [Instr.mapUpdate, run_underlying hT, MapKept.run_getObj_map h1, hc, f1, hj, f3, L.stays W hl, MapKept.run_setObj_map _ h1, Result.andThen, ChangeMaps.setBlock, hmod]
    · intro x hx
      obtain ⟨m', hm', e1, e2⟩ := h2 x hx
      exact ⟨m', by simp [hm'], e1, e2⟩
    · intro m' hm'
      rcases List.mem_append.1 hm' with hm' | hm'
      · exact h3 m' hm'
      · simp at hm'
        subst hm'
        exact h3 m' hm0
end
end Go.Proofs.Ytplipfcnjmgicaa
