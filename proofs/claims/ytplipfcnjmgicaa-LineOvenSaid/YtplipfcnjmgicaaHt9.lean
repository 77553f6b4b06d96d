/-
  THE ERROR OF AN OVEN, of the program. No statement is proved here.
-/
import Derived.Test.YtplipfcnjmgicaaHt8
namespace Go.Proofs.Ytplipfcnjmgicaa
open Go.RowKit
set_option linter.unusedVariables false
set_option linter.unusedSimpArgs false

def stAt (o : Ov) : Nat → Bool
  | 0 => true
  | 1 => wB o.wl && wB o.wh
  | _ => (wB o.wl && wB o.wh) && (wB o.cl && wB o.ch)
abbrev ovW (w : World) (o : Ov) (tl th : Int) : World := ((w.alloc (.cells #[.int .i64 o.low, .int .i64 o.high, .int .i64 o.wl, .int .i64 o.wh, .int .i64 o.cl, .int .i64 o.ch] 50)).alloc (.cells #[.int .i64 tl, .int .i64 th] 31)).alloc (.cells #[.int .i64 o.wl, .int .i64 o.wh, .int .i64 o.cl, .int .i64 o.ch] 31)
/-- What can be read while the oven's error is looked for. -/
structure OvW (w : World) (o : Ov) (tl th : Int) (U : World) : Prop where
  o0 : U.cell? ⟨w.heap.size, 0, none⟩ = some (.int .i64 o.low)
  o1 : U.cell? ⟨w.heap.size, 1, none⟩ = some (.int .i64 o.high)
  o2 : U.cell? ⟨w.heap.size, 2, none⟩ = some (.int .i64 o.wl)
  o3 : U.cell? ⟨w.heap.size, 3, none⟩ = some (.int .i64 o.wh)
  o4 : U.cell? ⟨w.heap.size, 4, none⟩ = some (.int .i64 o.cl)
  o5 : U.cell? ⟨w.heap.size, 5, none⟩ = some (.int .i64 o.ch)
  t0 : U.cell? ⟨w.heap.size + 1, 0, none⟩ = some (.int .i64 tl)
  t1 : U.cell? ⟨w.heap.size + 1, 1, none⟩ = some (.int .i64 th)
  s0 : U.cell? ⟨w.heap.size + 1 + 1, 0, none⟩ = some (.int .i64 o.wl)
  s1 : U.cell? ⟨w.heap.size + 1 + 1, 1, none⟩ = some (.int .i64 o.wh)
  s2 : U.cell? ⟨w.heap.size + 1 + 1, 2, none⟩ = some (.int .i64 o.cl)
  s3 : U.cell? ⟨w.heap.size + 1 + 1, 3, none⟩ = some (.int .i64 o.ch)
  below : Below w.heap.size w U
  size : w.heap.size + 1 + 1 < U.heap.size
theorem OvW.new (w : World) (o : Ov) (tl th : Int) : OvW w o tl th (ovW w o tl th) := by
  refine ⟨?_, ?_, ?_, ?_, ?_, ?_, ?_, ?_, ?_, ?_, ?_, ?_, by unfold ovW; go_grown, by simp [ovW]⟩ <;> simp [ovW, go_sem]
theorem OvW.alloc {w : World} {o : Ov} {tl th : Int} {U : World} (h : OvW w o tl th U) (x : Obj) : OvW w o tl th (U.alloc x) :=
  ⟨cell_alloc_v _ h.o0, cell_alloc_v _ h.o1, cell_alloc_v _ h.o2, cell_alloc_v _ h.o3, cell_alloc_v _ h.o4, cell_alloc_v _ h.o5, cell_alloc_v _ h.t0, cell_alloc_v _ h.t1, cell_alloc_v _ h.s0, cell_alloc_v _ h.s1, cell_alloc_v _ h.s2, cell_alloc_v _ h.s3,
    h.below.alloc h.below.size _, by have := h.size; simp; omega⟩
theorem ovStep (k : Nat) (h : k < 2) : (2 - intOf (.int .i64 ((k : Int) + 1))).toNat < (2 - intOf (.int .i64 (k : Int))).toNat := by simp [intOf]; omega
theorem ovErr7 {o : Ov} {tl th mi : Int} (h : ¬ (tB o.low && (tB o.high && (wB o.wl && (wB o.wh && (wB o.cl && wB o.ch))))) = true) : ovenErr o tl th mi = 7 := by unfold ovenErr; rw [if_neg h]

set_option maxRecDepth 100000 in
set_option maxHeartbeats 1000000 in
theorem eoven_low (o : Ov) (tl th mi : Int) (h : tB o.low = false) (w : World) :
    Calls Try.prog 75 #[ovV o, .agg #[.int .i64 tl, .int .i64 th], .int .i64 mi] w fun e w' => e = .returned (.int .i64 (ovenErr o tl th mi)) ∧ Below w.heap.size w w' := by
  have HE : Hid (ovenErr o tl th mi = 7) := Lib.hid (ovErr7 (by rw [h]; simp))
  have Hlow := Lib.hid (tB_f h)
  clear h
  go_enter Try.func75, Try.ntmps75
  go_wp2_with fail
  refine (temp_f o.low Hlow.out _).mono ?_; rintro e w' ⟨rfl, rfl⟩
  go_wp2
  have hN := OvW.new w o tl th
  unfold ovW at hN
  go_loopw [7, 25] (fun st i wr => ∃ k : Nat, k ≤ 2 ∧ i = .int .i64 k ∧ st = .bool false ∧ OvW w o tl th wr) (fun _ i _ => (2 - intOf i).toNat)
  case atStart => exact ⟨0, by omega, rfl, rfl, hN⟩
  case round =>
    obtain ⟨k, hk, rfl, rfl, hO⟩ := hrel
    have ⟨o0, o1, o2, o3, o4, o5, t0, t1, s0, s1, s2, s3, hb, hz⟩ := hO
    by_cases h0 : k = 0
    · subst h0
      go_wp2
      go_roundw
      case rel => exact ⟨1, by omega, rfl, rfl, hO.alloc _⟩
      case measure => exact ovStep 0 (by omega)
    · by_cases h1 : k = 1
      · subst h1
        go_wp2
        go_roundw
        case rel => exact ⟨2, by omega, rfl, rfl, hO.alloc _⟩
        case measure => exact ovStep 1 (by omega)
      · obtain rfl : k = 2 := by omega
        go_wp2
        go_ret
        exact ⟨by rw [HE.out]; rfl, hb⟩

set_option maxRecDepth 100000 in
set_option maxHeartbeats 1000000 in
theorem eoven_high (o : Ov) (tl th mi : Int) (h : tB o.low = true ∧ tB o.high = false) (w : World) :
    Calls Try.prog 75 #[ovV o, .agg #[.int .i64 tl, .int .i64 th], .int .i64 mi] w fun e w' => e = .returned (.int .i64 (ovenErr o tl th mi)) ∧ Below w.heap.size w w' := by
  have HE : Hid (ovenErr o tl th mi = 7) := Lib.hid (ovErr7 (by rw [h.2]; simp))
  have Hlow := Lib.hid (tB_t h.1)
  have Hhigh := Lib.hid (tB_f h.2)
  clear h
  go_enter Try.func75, Try.ntmps75
  go_wp2_with fail
  refine (temp_t o.low Hlow.out _).mono ?_; rintro e w' ⟨rfl, rfl⟩
  go_wp2_with fail
  refine (temp_f o.high Hhigh.out _).mono ?_; rintro e w' ⟨rfl, rfl⟩
  go_wp2
  have hN := OvW.new w o tl th
  unfold ovW at hN
  go_loopw [7, 25] (fun st i wr => ∃ k : Nat, k ≤ 2 ∧ i = .int .i64 k ∧ st = .bool false ∧ OvW w o tl th wr) (fun _ i _ => (2 - intOf i).toNat)
  case atStart => exact ⟨0, by omega, rfl, rfl, hN⟩
  case round =>
    obtain ⟨k, hk, rfl, rfl, hO⟩ := hrel
    have ⟨o0, o1, o2, o3, o4, o5, t0, t1, s0, s1, s2, s3, hb, hz⟩ := hO
    by_cases h0 : k = 0
    · subst h0
      go_wp2
      go_roundw
      case rel => exact ⟨1, by omega, rfl, rfl, hO.alloc _⟩
      case measure => exact ovStep 0 (by omega)
    · by_cases h1 : k = 1
      · subst h1
        go_wp2
        go_roundw
        case rel => exact ⟨2, by omega, rfl, rfl, hO.alloc _⟩
        case measure => exact ovStep 1 (by omega)
      · obtain rfl : k = 2 := by omega
        go_wp2
        go_ret
        exact ⟨by rw [HE.out]; rfl, hb⟩

set_option maxRecDepth 100000 in
set_option maxHeartbeats 4000000 in
theorem eoven_both (o : Ov) (tl th mi : Int) (hl : tB o.low = true) (hh : tB o.high = true) (w : World) :
    Calls Try.prog 75 #[ovV o, .agg #[.int .i64 tl, .int .i64 th], .int .i64 mi] w fun e w' => e = .returned (.int .i64 (ovenErr o tl th mi)) ∧ Below w.heap.size w w' := by
  have Hlow := Lib.hid (tB_t hl)
  have Hhigh := Lib.hid (tB_t hh)
  have HA : Hid ((tB o.low && (tB o.high && (wB o.wl && (wB o.wh && (wB o.cl && wB o.ch))))) = stAt o 2) := Lib.hid (by rw [hl, hh]; simp [stAt, Bool.and_assoc])
  clear hl hh
  go_enter Try.func75, Try.ntmps75
  go_wp2_with fail
  refine (temp_t o.low Hlow.out _).mono ?_; rintro e w' ⟨rfl, rfl⟩
  go_wp2_with fail
  refine (temp_t o.high Hhigh.out _).mono ?_; rintro e w' ⟨rfl, rfl⟩
  go_wp2
  have hN := OvW.new w o tl th
  unfold ovW at hN
  go_loopw [7, 25] (fun st i wr => ∃ k : Nat, k ≤ 2 ∧ i = .int .i64 k ∧ st = .bool (stAt o k) ∧ OvW w o tl th wr) (fun _ i _ => (2 - intOf i).toNat)
  case atStart => exact ⟨0, by omega, rfl, rfl, hN⟩
  case round =>
    clear hN
    obtain ⟨k, hk, rfl, rfl, hO⟩ := hrel
    have ⟨o0, o1, o2, o3, o4, o5, t0, t1, s0, s1, s2, s3, hb, hz⟩ := hO
    by_cases h0 : k = 0
    · subst h0
      have e0 : stAt o 0 = true := rfl
      rw [e0]
      clear e0
      cases c0 : wB o.wl with
      | false =>
        have HS : Hid (stAt o 1 = false) := Lib.hid (by simp [stAt, c0])
        have H0 := Lib.hid (wB_f c0)
        clear c0
        go_wp2_with fail
        refine (within_f o.wl 0 100 H0.out _).mono ?_; rintro e w' ⟨rfl, rfl⟩
        go_wp2
        go_roundw
        case rel => exact ⟨1, by omega, rfl, by rw [HS.out], hO.alloc _⟩
        case measure => exact ovStep 0 (by omega)
      | true =>
        cases c1 : wB o.wh with
        | false =>
          have HS : Hid (stAt o 1 = false) := Lib.hid (by simp [stAt, c0, c1])
          have H0 := Lib.hid (wB_t c0)
          have H1 := Lib.hid (wB_f c1)
          clear c0 c1
          go_wp2_with fail
          refine (within_t o.wl 0 100 H0.out _).mono ?_; rintro e w' ⟨rfl, rfl⟩
          go_wp2_with fail
          refine (within_f o.wh 0 100 H1.out _).mono ?_; rintro e w' ⟨rfl, rfl⟩
          go_wp2
          go_roundw
          case rel => exact ⟨1, by omega, rfl, by rw [HS.out], hO.alloc _⟩
          case measure => exact ovStep 0 (by omega)
        | true =>
          have HS : Hid (stAt o 1 = true) := Lib.hid (by simp [stAt, c0, c1])
          have H0 := Lib.hid (wB_t c0)
          have H1 := Lib.hid (wB_t c1)
          clear c0 c1
          go_wp2_with fail
          refine (within_t o.wl 0 100 H0.out _).mono ?_; rintro e w' ⟨rfl, rfl⟩
          go_wp2_with fail
          refine (within_t o.wh 0 100 H1.out _).mono ?_; rintro e w' ⟨rfl, rfl⟩
          go_wp2
          go_roundw
          case rel => exact ⟨1, by omega, rfl, by rw [HS.out], hO.alloc _⟩
          case measure => exact ovStep 0 (by omega)
    · by_cases h1 : k = 1
      · subst h1
        cases e1' : stAt o 1 with
        | false =>
          have HS : Hid (stAt o 2 = false) := Lib.hid (by simp only [stAt] at e1' ⊢; rw [e1']; rfl)
          clear e1'
          go_wp2
          go_roundw
          case rel => exact ⟨2, by omega, rfl, by rw [HS.out], hO.alloc _⟩
          case measure => exact ovStep 1 (by omega)
        | true =>
          have e1 := Lib.hid e1'
          clear e1'
          cases c0 : wB o.cl with
          | false =>
            have HS : Hid (stAt o 2 = false) := Lib.hid (by simp [stAt, c0])
            have H0 := Lib.hid (wB_f c0)
            clear c0
            go_wp2_with fail
            refine (within_f o.cl 0 100 H0.out _).mono ?_; rintro e w' ⟨rfl, rfl⟩
            go_wp2
            go_roundw
            case rel => exact ⟨2, by omega, rfl, by rw [HS.out], hO.alloc _⟩
            case measure => exact ovStep 1 (by omega)
          | true =>
            cases c1 : wB o.ch with
            | false =>
              have HS : Hid (stAt o 2 = false) := Lib.hid (by simp [stAt, c0, c1])
              have H0 := Lib.hid (wB_t c0)
              have H1 := Lib.hid (wB_f c1)
              clear c0 c1
              go_wp2_with fail
              refine (within_t o.cl 0 100 H0.out _).mono ?_; rintro e w' ⟨rfl, rfl⟩
              go_wp2_with fail
              refine (within_f o.ch 0 100 H1.out _).mono ?_; rintro e w' ⟨rfl, rfl⟩
              go_wp2
              go_roundw
              case rel => exact ⟨2, by omega, rfl, by rw [HS.out], hO.alloc _⟩
              case measure => exact ovStep 1 (by omega)
            | true =>
              have HS : Hid (stAt o 2 = true) := Lib.hid (by have := e1.out; simp only [stAt] at this ⊢; rw [this, c0, c1]; rfl)
              have H0 := Lib.hid (wB_t c0)
              have H1 := Lib.hid (wB_t c1)
              clear c0 c1
              go_wp2_with fail
              refine (within_t o.cl 0 100 H0.out _).mono ?_; rintro e w' ⟨rfl, rfl⟩
              go_wp2_with fail
              refine (within_t o.ch 0 100 H1.out _).mono ?_; rintro e w' ⟨rfl, rfl⟩
              go_wp2
              go_roundw
              case rel => exact ⟨2, by omega, rfl, by rw [HS.out], hO.alloc _⟩
              case measure => exact ovStep 1 (by omega)
      · obtain rfl : k = 2 := by omega
        cases e2' : stAt o 2 with
        | false =>
          have HE : Hid (ovenErr o tl th mi = 7) := Lib.hid (ovErr7 (by rw [HA.out, e2']; simp))
          clear e2'
          go_wp2
          go_ret
          exact ⟨by rw [HE.out]; rfl, hb⟩
        | true =>
          have HU : Hid (ovenErr o tl th mi = if o.high < o.low ∨ o.wh < o.wl ∨ o.ch < o.cl then 2 else if spanErr tl th = 0 then (if 0 ≤ mi ∧ mi ≤ 200 then 0 else 7) else spanErr tl th) := Lib.hid (by unfold ovenErr; rw [if_pos (by rw [HA.out, e2'])])
          clear e2'
          by_cases c0 : o.high < o.low
          · have d0 : decide (o.high < o.low) = true := by simpa using c0
            have HE : Hid (ovenErr o tl th mi = 2) := Lib.hid (by rw [HU.out, if_pos (show o.high < o.low ∨ o.wh < o.wl ∨ o.ch < o.cl by omega)])
            clear c0
            go_wp2
            go_ret
            exact ⟨by rw [HE.out]; rfl, hb⟩
          have d0 : decide (o.high < o.low) = false := by simpa using c0
          by_cases c1 : o.wh < o.wl
          · have d1 : decide (o.wh < o.wl) = true := by simpa using c1
            have HE : Hid (ovenErr o tl th mi = 2) := Lib.hid (by rw [HU.out, if_pos (show o.high < o.low ∨ o.wh < o.wl ∨ o.ch < o.cl by omega)])
            clear c0 c1
            go_wp2
            go_ret
            exact ⟨by rw [HE.out]; rfl, hb⟩
          have d1 : decide (o.wh < o.wl) = false := by simpa using c1
          by_cases c2 : o.ch < o.cl
          · have d2 : decide (o.ch < o.cl) = true := by simpa using c2
            have HE : Hid (ovenErr o tl th mi = 2) := Lib.hid (by rw [HU.out, if_pos (show o.high < o.low ∨ o.wh < o.wl ∨ o.ch < o.cl by omega)])
            clear c0 c1 c2
            go_wp2
            go_ret
            exact ⟨by rw [HE.out]; rfl, hb⟩
          have d2 : decide (o.ch < o.cl) = false := by simpa using c2
          have HV : Hid (ovenErr o tl th mi = if spanErr tl th = 0 then (if 0 ≤ mi ∧ mi ≤ 200 then 0 else 7) else spanErr tl th) := Lib.hid (by rw [HU.out, if_neg (show ¬ (o.high < o.low ∨ o.wh < o.wl ∨ o.ch < o.cl) by omega)])
          clear c0 c1 c2
          obtain ⟨s, hs⟩ : ∃ s, s = spanErr tl th := ⟨_, rfl⟩
          have KS := Lib.hid (fun w => spanE_any tl th w)
          rw [← hs] at KS HV
          clear hs
          have HB : Hid (∀ V, Below wr.heap.size wr V → Below w.heap.size w V) := Lib.hid fun V hV => hb.trans (hV.mono hb.size)
          by_cases hs0 : s = 0
          · subst hs0
            by_cases hm : 0 ≤ mi ∧ mi ≤ 200
            · have HE : Hid (ovenErr o tl th mi = 0) := Lib.hid (by rw [HV.out, if_pos rfl, if_pos hm])
              have HM := Lib.hid hm
              clear hm
              go_wp2_with fail
              refine (KS.out _).mono ?_; rintro e V ⟨rfl, hV⟩
              go_wp2_with fail
              refine (within_t mi 0 200 HM.out _).mono ?_; rintro e w' ⟨rfl, rfl⟩
              go_wp2
              go_ret
              exact ⟨by rw [HE.out]; rfl, HB.out _ hV⟩
            · have HE : Hid (ovenErr o tl th mi = 7) := Lib.hid (by rw [HV.out, if_pos rfl, if_neg hm])
              have HM := Lib.hid hm
              clear hm
              go_wp2_with fail
              refine (KS.out _).mono ?_; rintro e V ⟨rfl, hV⟩
              go_wp2_with fail
              refine (within_f mi 0 200 HM.out _).mono ?_; rintro e w' ⟨rfl, rfl⟩
              go_wp2
              go_ret
              exact ⟨by rw [HE.out]; rfl, HB.out _ hV⟩
          · have hs1 : (s == 0) = false := by simpa using hs0
            have HE : Hid (ovenErr o tl th mi = s) := Lib.hid (by rw [HV.out, if_neg hs0])
            clear hs0
            go_wp2_with fail
            refine (KS.out _).mono ?_; rintro e V ⟨rfl, hV⟩
            go_wp2
            go_ret
            exact ⟨by rw [HE.out]; rfl, HB.out _ hV⟩

theorem eoven_any (o : Ov) (tl th mi : Int) (w : World) :
    Calls Try.prog 75 #[ovV o, .agg #[.int .i64 tl, .int .i64 th], .int .i64 mi] w fun e w' => e = .returned (.int .i64 (ovenErr o tl th mi)) ∧ Below w.heap.size w w' := by
  cases h0 : tB o.low with
  | false => exact eoven_low o tl th mi h0 w
  | true =>
    cases h1 : tB o.high with
    | false => exact eoven_high o tl th mi ⟨h0, h1⟩ w
    | true => exact eoven_both o tl th mi h0 h1 w
end Go.Proofs.Ytplipfcnjmgicaa
