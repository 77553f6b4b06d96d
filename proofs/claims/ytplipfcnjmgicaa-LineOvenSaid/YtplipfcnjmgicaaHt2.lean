/-
  A MINUTE OF AN OVEN: minuteOf, and what it hands back. No statement is proved here.
-/
import Derived.Test.YtplipfcnjmgicaaHt1
import Derived.Test.YtplipfcnjmgicaaMp1
import Derived.Test.YtplipfcnjmgicaaWk1
import Derived.Test.YtplipfcnjmgicaaMem
namespace Go.Proofs.Ytplipfcnjmgicaa
open Go.RowKit
set_option linter.unusedVariables false
set_option linter.unusedSimpArgs false

/-- An oven's cells. -/
structure OvenAt (b : Nat) (o : Ov) (U : World) : Prop where
  c0 : U.cell? ⟨b, 0, none⟩ = some (.int .i64 o.low)
  c1 : U.cell? ⟨b, 1, none⟩ = some (.int .i64 o.high)
  c2 : U.cell? ⟨b, 2, none⟩ = some (.int .i64 o.wl)
  c3 : U.cell? ⟨b, 3, none⟩ = some (.int .i64 o.wh)
  c4 : U.cell? ⟨b, 4, none⟩ = some (.int .i64 o.cl)
  c5 : U.cell? ⟨b, 5, none⟩ = some (.int .i64 o.ch)
theorem OvenAt.keep {b : Nat} {o : Ov} {U V : World} (h : OvenAt b o U) (hb : V.heap[b]? = U.heap[b]?) : OvenAt b o V :=
  have c : ∀ j, V.cell? ⟨b, j, none⟩ = U.cell? ⟨b, j, none⟩ := fun j => World.cell?_of_block hb
  ⟨(c 0).trans h.c0, (c 1).trans h.c1, (c 2).trans h.c2, (c 3).trans h.c3, (c 4).trans h.c4, (c 5).trans h.c5⟩
theorem OvenAt.lt {b : Nat} {o : Ov} {U : World} (h : OvenAt b o U) : b < U.heap.size := World.block_lt_of_cell? U _ h.c0
theorem OvenAt.new (o : Ov) (w : World) (T : TypeId) : OvenAt w.heap.size o (w.alloc (.cells #[.int .i64 o.low, .int .i64 o.high, .int .i64 o.wl, .int .i64 o.wh, .int .i64 o.cl, .int .i64 o.ch] T)) := by
  constructor <;> simp [go_sem]
abbrev ovV (o : Ov) : Value := .agg #[.int .i64 o.low, .int .i64 o.high, .int .i64 o.wl, .int .i64 o.wh, .int .i64 o.cl, .int .i64 o.ch]
abbrev moV (m : Mo) : Value := .agg #[.int .i64 m.1, .bool m.2]

theorem minuteOf_any (o : Ov) (w : World) : Calls Try.prog 92 #[ovV o] w fun e w' =>
    e = .returned (.func (.func 96) #[] #[.pointer (some ⟨w.heap.size, 0, none⟩)]) ∧ w' = w.alloc (.cells #[.int .i64 o.low, .int .i64 o.high, .int .i64 o.wl, .int .i64 o.wh, .int .i64 o.cl, .int .i64 o.ch] 50) := by
  go_enter Try.func92, Try.ntmps92
  go_wp2
  go_ret
  exact ⟨rfl, rfl⟩

set_option maxRecDepth 100000 in
set_option maxHeartbeats 2000000 in
theorem minute_any (o : Ov) (ok : o.Ok) (t : Int) (h : Bool) (ht : -600 ≤ t ∧ t ≤ 1100) (b : Nat) (w : World) (hO : OvenAt b o w) :
    Calls Try.prog 96 #[.agg #[.int .i64 t, .bool h], .pointer (some ⟨b, 0, none⟩)] w fun e w' =>
      e = .returned (.tuple #[.agg #[.int .i64 (o.lo (t, h)), .int .i64 (o.hi (t, h))], .bool (o.heats (t, h))]) ∧ Below w.heap.size w w' := by
  obtain ⟨c0, c1, c2, c3, c4, c5⟩ := hO
  have e1 : wrap64 (t + o.wl) = t + o.wl := wrap_in (by have := ok.w; omega) (by have := ok.w; omega)
  have e2 : wrap64 (t + o.wh) = t + o.wh := wrap_in (by have := ok.w; omega) (by have := ok.w; omega)
  have e3 : wrap64 (t - o.ch) = t - o.ch := wrap_in (by have := ok.c; omega) (by have := ok.c; omega)
  have e4 : wrap64 (t - o.cl) = t - o.cl := wrap_in (by have := ok.c; omega) (by have := ok.c; omega)
  have hb : b < w.heap.size := World.block_lt_of_cell? w _ c0
  have key : ∀ x : Bool, o.heats (t, h) = x → Hid (o.heats (t, h) = x) := fun x e => Lib.hid e
  unfold Ov.lo Ov.hi
  by_cases h1 : t < o.low
  · have hh := key true (by simp [Ov.heats, h1])
    have d1 : decide (t < o.low) = true := by simpa using h1
    clear h1 key
    rw [hh.out]
    go_enter Try.func96, Try.ntmps96
    go_wp2
    refine bodyPost_ret (v := .tuple #[.agg #[.int .i64 (t + o.wl), .int .i64 (t + o.wh)], .bool true]) (by simp [results, Try.results96, go_sem]) rfl ⟨rfl, ?_⟩
    go_grown
  · have d1 : decide (t < o.low) = false := by simpa using h1
    by_cases h2 : t ≤ o.high ∧ h = true
    · obtain ⟨h2, rfl⟩ := h2
      have hh := key true (by simp [Ov.heats, h2])
      have d2 : decide (t ≤ o.high) = true := by simpa using h2
      clear h1 h2 key
      rw [hh.out]
      go_enter Try.func96, Try.ntmps96
      go_wp2
      refine bodyPost_ret (v := .tuple #[.agg #[.int .i64 (t + o.wl), .int .i64 (t + o.wh)], .bool true]) (by simp [results, Try.results96, go_sem]) rfl ⟨rfl, ?_⟩
      go_grown
    · have hh := key false (by simp only [Ov.heats, d1, Bool.false_or, Bool.and_eq_false_iff, decide_eq_false_iff_not]; by_cases e : t ≤ o.high; exact .inr (by cases h with | true => exact (h2 ⟨e, rfl⟩).elim | false => rfl); exact .inl e)
      by_cases h3 : t ≤ o.high
      · have hf : h = false := by cases h with | true => exact (h2 ⟨h3, rfl⟩).elim | false => rfl
        subst hf
        have d2 : decide (t ≤ o.high) = true := by simpa using h3
        clear h1 h2 h3 key
        rw [hh.out]
        go_enter Try.func96, Try.ntmps96
        go_wp2
        refine bodyPost_ret (v := .tuple #[.agg #[.int .i64 (t - o.ch), .int .i64 (t - o.cl)], .bool false]) (by simp [results, Try.results96, go_sem]) rfl ⟨rfl, ?_⟩
        go_grown
      · have d2 : decide (t ≤ o.high) = false := by simpa using h3
        clear h1 h2 h3 key
        rw [hh.out]
        go_enter Try.func96, Try.ntmps96
        go_wp2
        refine bodyPost_ret (v := .tuple #[.agg #[.int .i64 (t - o.ch), .int .i64 (t - o.cl)], .bool false]) (by simp [results, Try.results96, go_sem]) rfl ⟨rfl, ?_⟩
        go_grown
end Go.Proofs.Ytplipfcnjmgicaa
