/-
  THE REFERENCE's moments: Heats, begin. No statement is proved here.
-/
import Derived.Test.YtplipfcnjmgicaaHt4
import Derived.Test.YtplipfcnjmgicaaHt8
namespace Go.Proofs.Ytplipfcnjmgicaa
open Go.RowKit Go.Maps
set_option linter.unusedVariables false
set_option linter.unusedSimpArgs false

abbrev ovC (o : Ov) : Obj := .cells #[.int .i64 o.low, .int .i64 o.high, .int .i64 o.wl, .int .i64 o.wh, .int .i64 o.cl, .int .i64 o.ch] 50
set_option maxRecDepth 100000 in
set_option maxHeartbeats 1000000 in
theorem rheats_any (o : Ov) (t : Int) (h : Bool) (w : World) :
    Calls Try.prog 94 #[ovV o, .int .i64 t, .bool h] w fun e w' => e = .returned (.bool (o.heats (t, h))) ∧ w' = w.alloc (ovC o) := by
  by_cases h1 : t < o.low
  · have hh : Hid (o.heats (t, h) = true) := Lib.hid (by simp [Ov.heats, h1])
    have d1 : decide (t < o.low) = true := by simpa using h1
    clear h1
    go_enter Try.func94, Try.ntmps94
    go_wp2
    go_ret
    exact ⟨by rw [hh.out]; rfl, rfl⟩
  · have d1 : decide (t < o.low) = false := by simpa using h1
    by_cases h2 : t ≤ o.high
    · have hh : Hid (o.heats (t, h) = h) := Lib.hid (by simp [Ov.heats, h1, h2])
      have d2 : decide (t ≤ o.high) = true := by simpa using h2
      clear h1 h2
      go_enter Try.func94, Try.ntmps94
      go_wp2
      go_ret
      exact ⟨by rw [hh.out]; rfl, rfl⟩
    · have hh : Hid (o.heats (t, h) = false) := Lib.hid (by simp [Ov.heats, h1, h2])
      have d2 : decide (t ≤ o.high) = false := by simpa using h2
      clear h1 h2
      go_enter Try.func94, Try.ntmps94
      go_wp2
      go_ret
      exact ⟨by rw [hh.out]; rfl, rfl⟩

/-- A slice of states, read as a list. -/
def MoAt (U : World) (v : Value) (l : List Mo) : Prop :=
  ∃ (A : Option Addr) (c : Nat), v = .slice A l.length c ∧ (0 < l.length → ∃ g, A = some ⟨g, 0, none⟩ ∧ g < U.heap.size ∧ ∀ i (hi : i < l.length), U.cell? ⟨g, i * 2, none⟩ = some (.int .i64 l[i].1) ∧ U.cell? ⟨g, i * 2 + 1, none⟩ = some (.bool l[i].2))
theorem MoAt.below {U V : World} {v : Value} {l : List Mo} (h : MoAt U v l) (hb : Below U.heap.size U V) : MoAt V v l := by
  obtain ⟨A, c, h1, h2⟩ := h
  refine ⟨A, c, h1, fun hl => ?_⟩
  obtain ⟨g, h3, h4, h5⟩ := h2 hl
  exact ⟨g, h3, Nat.lt_of_lt_of_le h4 hb.size, fun i hi => ⟨(hb.cell (p := ⟨g, i * 2, none⟩) h4).trans (h5 i hi).1, (hb.cell (p := ⟨g, i * 2 + 1, none⟩) h4).trans (h5 i hi).2⟩⟩
theorem moAt_of_owns {U : World} {base : Nat} {e : TypeId} {v : Value} {l : List Mo} (h : U.ownsRow base e 2 v l.length (moC l)) : MoAt U v l := by
  rcases h.2 with ⟨e1, e2⟩ | ⟨g, cap, cur, e1, hb, hg, _⟩
  · exact ⟨none, 0, by rw [e1, e2], fun hl => by omega⟩
  · subst e1
    refine ⟨_, _, rfl, fun hl => ⟨g, rfl, (Array.getElem?_eq_some_iff.1 hg).1, fun i hi => ?_⟩⟩
    obtain ⟨a, b⟩ := moC_get l i hi
    exact ⟨(h.cellAt (i * 2) (by omega)).trans a, (h.cellAt (i * 2 + 1) (by omega)).trans b⟩
theorem MoAt.set {U : World} {v : Value} {l : List Mo} (h : MoAt U v l) {k j : Nat} {u : Value} (hk : v.ownBlock ≠ some k) : MoAt (U.setCell ⟨k, j, none⟩ u) v l := by
  obtain ⟨A, c, h1, h2⟩ := h
  refine ⟨A, c, h1, fun hl => ?_⟩
  obtain ⟨g, h3, h4, h5⟩ := h2 hl
  have hne : k ≠ g := fun e => hk (by rw [h1, h3, e]; rfl)
  exact ⟨g, h3, by simpa [World.setCell] using h4, fun i hi => ⟨(World.cell?_setCell_far _ _ _ _ hne).trans (h5 i hi).1, (World.cell?_setCell_far _ _ _ _ hne).trans (h5 i hi).2⟩⟩
/-- What begin lists. -/
def beginL (tl : Int) (h : Bool) (n : Nat) : List Mo := (List.range n).map fun j : Nat => (tl + (j : Int), h)
theorem beginL_succ (tl : Int) (h : Bool) (n : Nat) : beginL tl h (n + 1) = beginL tl h n ++ [(tl + (n : Int), h)] := by unfold beginL; rw [List.range_succ, List.map_append]; rfl
theorem beginL_length (tl : Int) (h : Bool) (n : Nat) : (beginL tl h n).length = n := by simp [beginL]
theorem beginL_mem (o : Ov) {tl th : Int} (h : Bool) (hs : tl ≤ th) (m : Mo) : m ∈ beginL tl h (th - tl + 1).toNat ↔ o.At tl th h 0 m := by
  unfold beginL
  rw [List.mem_map]
  constructor
  · rintro ⟨j, hj, rfl⟩
    rw [List.mem_range] at hj
    exact ⟨show tl ≤ tl + (j : Int) by omega, show tl + (j : Int) ≤ th by omega, rfl⟩
  · rintro ⟨h1, h2, h3⟩
    obtain ⟨t, b⟩ := m
    dsimp only at h1 h2 h3
    subst h3
    exact ⟨(t - tl).toNat, by rw [List.mem_range]; omega, by simp; omega⟩
theorem stInfo : (Try.prog.info? 112).map (fun i => (i.zero, i.size, i.bytes)) = some (some (.agg #[.int .i64 0, .bool false]), 2, 16) := by kernel_rfl

set_option maxRecDepth 100000 in
set_option maxHeartbeats 1000000 in
theorem begin_any (tl th : Int) (h : Bool) (b1 : -500 ≤ tl) (b2 : th ≤ 1000) (hs : tl ≤ th) (w : World) :
    Calls Try.prog 79 #[.agg #[.int .i64 tl, .int .i64 th], .bool h] w fun e w' => ∃ v, e = .returned v ∧ MoAt w' v (beginL tl h (th - tl + 1).toNat) ∧ (∀ j, v.ownBlock = some j → w.heap.size ≤ j) ∧ Below w.heap.size w w' := by
  obtain ⟨n, hn⟩ : ∃ n, (th - tl + 1).toNat = n := ⟨_, rfl⟩
  have hN : Hid (tl + n = th + 1) := Lib.hid (by omega)
  rw [hn]
  clear hn
  obtain ⟨i0, hi0, hz0, hzz, hzb⟩ := info_parts stInfo
  go_enter Try.func79, Try.ntmps79
  go_wp2
  go_loopw [5, 6] (fun v i wr => ∃ k : Nat, k ≤ n ∧ i = .int .i64 (tl + k) ∧ wr.ownsRow (w.heap.size + 1) 112 2 v k (moC (beginL tl h k)) ∧ Below w.heap.size w wr ∧ w.heap.size < wr.heap.size ∧ wr.cell? ⟨w.heap.size, 1, none⟩ = some (.int .i64 th)) (fun _ i _ => (th + 1 - intOf i).toNat)
  case atStart => exact ⟨0, by omega, by simp, show World.ownsRow _ _ _ _ _ _ [] from World.ownsRow_nil _ _ _ _, by go_grown, by simp, by simp [go_sem]⟩
  case round =>
    obtain ⟨k, hk, rfl, hrow, hb, hlt, hc⟩ := hrel
    obtain ⟨x, hx⟩ : ∃ x, x = tl + (k : Int) := ⟨_, rfl⟩
    have HX := Lib.hid hx
    rw [← hx]
    clear hx
    by_cases hlt2 : k < n
    · have hxh : x ≤ th := by have := hN.out; have := HX.out; omega
      have hxl : -500 ≤ x := by have := HX.out; omega
      have hxw : wrap64 (x + 1) = x + 1 := wrap_in (by omega) (by omega)
      have hkn : k ≤ 1501 := by have := hN.out; omega
      have hl1 : k + 1 ≤ maxLen := by unfold maxLen; omega
      have hl2 : (k + 1) * 16 ≤ 140737488355328 := by omega
      have hsn : Hid (moC (beginL tl h (k + 1)) = moC (beginL tl h k) ++ [.int .i64 x, .bool h]) := Lib.hid (by rw [beginL_succ, moC_snoc, HX.out])
      generalize moC (beginL tl h k) = L at *
      have hbz : w.heap.size + 1 ≤ (wr.alloc (.cells #[.int .i64 x, .bool h] 112)).heap.size := by simp; omega
      go_wp2_with (at_builtin; refine wpList_append_own_at _ rfl _ _ 108 rfl (w.heap.size + 1) 112 i0 _ 2 16 Try.underlying108 hi0 hz0 hzz hzb rfl (by decide) _ _ _ rfl (hrow.alloc _) ⟨wr.heap.size, 0, none⟩ 1 1 [.int .i64 x, .bool h] rfl rfl (two_new _ _ _ _) (by simp [Value.oneCell']) hl1 hl2 hbz ?_; intro v2 V2 hown2 hgrow2 hnil hat)
      have hown : ∀ j, u5.ownBlock = some j → w.heap.size + 1 ≤ j := fun j e => (hrow.lt j e).1
      have hg2 : (wr.alloc (.cells #[.int .i64 x, .bool h] 112)).grownBy V2 u5.ownBlock := hgrow2
      have hab := (Below.refl wr.heap.size wr).alloc (Nat.le_refl _) (.cells #[.int .i64 x, .bool h] 112)
      have hb1 : Below (w.heap.size + 1) wr V2 := (hab.mono hlt).grown hg2 hbz (fun j e => hown j e)
      refine ⟨⟨k + 1, by omega, by rw [HX.out]; simp; omega, by rw [hsn.out]; exact hown2, hb.trans (hb1.mono (by omega)), by have := hb1.size; omega, (hb1.cell (p := ⟨w.heap.size, 1, none⟩) (show w.heap.size < w.heap.size + 1 by omega)).trans hc⟩, by simp [intOf]; omega⟩
    · obtain rfl : k = n := by omega
      have hxh : ¬ x ≤ th := by have := hN.out; have := HX.out; omega
      go_wp2
      go_ret
      have hM : MoAt wr u5 (beginL tl h k) := moAt_of_owns (base := w.heap.size + 1) (e := 112) (by rw [beginL_length]; exact hrow)
      have hfr : ∀ j, u5.ownBlock = some j → w.heap.size ≤ j := fun j e => Nat.le_of_succ_le (hrow.lt j e).1
      exact ⟨_, rfl, hM, hfr, hb⟩
end Go.Proofs.Ytplipfcnjmgicaa
