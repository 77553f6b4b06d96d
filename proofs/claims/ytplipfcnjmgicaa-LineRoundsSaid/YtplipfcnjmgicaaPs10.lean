/-
  Pass, where it refuses. No statement is proved here.
-/
import Derived.Test.YtplipfcnjmgicaaPs9
import Derived.RegionTactic
import Derived.ChangeAlike
namespace Go.Proofs.Ytplipfcnjmgicaa
open Go.RowKit Go.Shelf
set_option linter.unusedVariables false
set_option linter.unusedSimpArgs false

/-- What Pass keeps: the line, and its three results. -/
structure PassW (w : World) (a0 a1 a2 a3 a4 a5 : Int) (v : Value) (n e : Int) (U : World) : Prop where
  line : LineAt U w.heap.size a0 a1 a2 a3 a4 a5
  r0 : RowIs U (w.heap.size + 1) 35 [v]
  r1 : RowIs U (w.heap.size + 1 + 1) 3 [.int .i64 n]
  r2 : RowIs U (w.heap.size + 1 + 1 + 1) 26 [.int .i64 e]
  below : Below w.heap.size w U
section
variable {w U V : World} {a0 a1 a2 a3 a4 a5 n e : Int} {v : Value}
theorem PassW.size (h : PassW w a0 a1 a2 a3 a4 a5 v n e U) : w.heap.size + 1 + 1 + 1 < U.heap.size := h.r2.lt
theorem PassW.after (h : PassW w a0 a1 a2 a3 a4 a5 v n e U) (hb : Below U.heap.size U V) : PassW w a0 a1 a2 a3 a4 a5 v n e V :=
  have hs := h.size
  ⟨h.line.below hb (by omega), h.r0.below hb (by omega), h.r1.below hb (by omega), h.r2.below hb (by omega), h.below.trans (below_down (by omega) hb)⟩
theorem LineAt.far {W : World} {B : Nat} (h : LineAt W B a0 a1 a2 a3 a4 a5) {p : Addr} (hp : p.block ≠ B) (u : Value) : LineAt (W.setCell p u) B a0 a1 a2 a3 a4 a5 :=
  have c : ∀ j, (W.setCell p u).cell? ⟨B, j, none⟩ = W.cell? ⟨B, j, none⟩ := fun j => cell_apart W u hp
  ⟨(c 0).trans h.l0, (c 1).trans h.l1, (c 2).trans h.l2, (c 3).trans h.l3, (c 4).trans h.l4, (c 5).trans h.l5⟩
theorem PassW.setV (h : PassW w a0 a1 a2 a3 a4 a5 v n e U) (u : Value) : PassW w a0 a1 a2 a3 a4 a5 u n e (U.setCell ⟨w.heap.size + 1, 0, none⟩ u) :=
  ⟨h.line.far (by show w.heap.size + 1 ≠ _; omega) _, h.r0.set 0 u, h.r1.far (by show _ ≠ w.heap.size + 1; omega) _, h.r2.far (by show _ ≠ w.heap.size + 1; omega) _, h.below.setCell (by show _ ≤ w.heap.size + 1; omega) _⟩
theorem PassW.setN (h : PassW w a0 a1 a2 a3 a4 a5 v n e U) (m : Int) : PassW w a0 a1 a2 a3 a4 a5 v m e (U.setCell ⟨w.heap.size + 1 + 1, 0, none⟩ (.int .i64 m)) :=
  ⟨h.line.far (by show w.heap.size + 1 + 1 ≠ _; omega) _, h.r0.far (by show _ ≠ w.heap.size + 1 + 1; omega) _, h.r1.set 0 _, h.r2.far (by show _ ≠ w.heap.size + 1 + 1; omega) _, h.below.setCell (by show _ ≤ w.heap.size + 1 + 1; omega) _⟩
theorem PassW.setE (h : PassW w a0 a1 a2 a3 a4 a5 v n e U) (m : Int) : PassW w a0 a1 a2 a3 a4 a5 v n m (U.setCell ⟨w.heap.size + 1 + 1 + 1, 0, none⟩ (.int .i64 m)) :=
  ⟨h.line.far (by show w.heap.size + 1 + 1 + 1 ≠ _; omega) _, h.r0.far (by show _ ≠ w.heap.size + 1 + 1 + 1; omega) _, h.r1.far (by show _ ≠ w.heap.size + 1 + 1 + 1; omega) _, h.r2.set 0 _, h.below.setCell (by show _ ≤ w.heap.size + 1 + 1 + 1; omega) _⟩
theorem PassW.drew (h : PassW w a0 a1 a2 a3 a4 a5 v n e U) : PassW w a0 a1 a2 a3 a4 a5 v n e U.drew := ⟨⟨h.line.l0, h.line.l1, h.line.l2, h.line.l3, h.line.l4, h.line.l5⟩, h.r0, h.r1, h.r2, h.below.drew⟩
end
theorem passW_new (w : World) (a0 a1 a2 a3 a4 a5 : Int) :
    PassW w a0 a1 a2 a3 a4 a5 (.slice none 0 0) 0 0 ((((w.alloc (.cells #[.int .i64 a0, .int .i64 a1, .int .i64 a2, .int .i64 a3, .int .i64 a4, .int .i64 a5] 25)).alloc (.cells #[.slice none 0 0] 35)).alloc (.cells #[.int .i64 0] 3)).alloc (.cells #[.int .i64 0] 26)) := by
  have n1 := (((RowIs.new (w.alloc (.cells #[.int .i64 a0, .int .i64 a1, .int .i64 a2, .int .i64 a3, .int .i64 a4, .int .i64 a5] 25)) 35 [.slice none 0 0]).alloc (.cells #[.int .i64 0] 3)).alloc (.cells #[.int .i64 0] 26))
  have n2 := ((RowIs.new ((w.alloc (.cells #[.int .i64 a0, .int .i64 a1, .int .i64 a2, .int .i64 a3, .int .i64 a4, .int .i64 a5] 25)).alloc (.cells #[.slice none 0 0] 35)) 3 [.int .i64 0]).alloc (.cells #[.int .i64 0] 26))
  have n3 := RowIs.new (((w.alloc (.cells #[.int .i64 a0, .int .i64 a1, .int .i64 a2, .int .i64 a3, .int .i64 a4, .int .i64 a5] 25)).alloc (.cells #[.slice none 0 0] 35)).alloc (.cells #[.int .i64 0] 3)) 26 [.int .i64 0]
  simp only [World.size_alloc] at n1 n2 n3
  refine ⟨?_, n1, n2, n3, by go_grown⟩
  constructor <;> simp [go_sem]

/-- The three results, where the call ends. -/
theorem pass_results {w U : World} {a0 a1 a2 a3 a4 a5 n e : Int} {v : Value} (h : PassW w a0 a1 a2 a3 a4 a5 v n e U) :
    U.cell? ⟨w.heap.size + 1, 0, none⟩ = some v ∧ U.cell? ⟨w.heap.size + 1 + 1, 0, none⟩ = some (.int .i64 n) ∧ U.cell? ⟨w.heap.size + 1 + 1 + 1, 0, none⟩ = some (.int .i64 e) :=
  ⟨by rw [h.r0.cell]; rfl, by rw [h.r1.cell]; rfl, by rw [h.r2.cell]; rfl⟩

def PassRef (c : Int) (w : World) (e : Ending) (w' : World) : Prop := e = .returned (.tuple #[.slice none 0 0, .int .i64 0, .int .i64 c]) ∧ Below w.heap.size w w'

set_option maxRecDepth 100000 in
set_option maxHeartbeats 4000000 in
theorem pass_badline (a0 a1 a2 a3 a4 a5 : Int) (h : ¬ OkLine a0 a1 a2 a3 a4 a5) (Aw At : Option Addr) (nw cw nt ct : Nat) (w : World) :
    Calls Try.prog 29 #[.agg #[.int .i64 a0, .int .i64 a1, .int .i64 a2, .int .i64 a3, .int .i64 a4, .int .i64 a5], .slice Aw nw cw, .slice At nt ct] w (PassRef 7 w) := by
  go_enter Try.func29, Try.ntmps29
  go_wp2_with fail
  have P0 := passW_new w a0 a1 a2 a3 a4 a5
  refine (check_bad a0 a1 a2 a3 a4 a5 h _).mono ?_; rintro e U ⟨rfl, hU⟩
  have P1 : PassW w a0 a1 a2 a3 a4 a5 (.slice none 0 0) 0 0 U := by rw [hU]; exact P0.after ((Below.refl _ _).alloc (Nat.le_refl _) _)
  clear P0 hU
  obtain ⟨c0, c1, c2⟩ := pass_results P1
  have f0 := P1.r0.frozen 0
  have f1 := P1.r1.frozen 0
  have f2 := P1.r2.frozen 0
  go_wp2
  go_region
  have P2 := ((((P1.setE 7).setV (.slice none 0 0)).setN 0).setE 7).drew
  obtain ⟨V, hV⟩ : ∃ V, V = ((((U.setCell ⟨w.heap.size + 1 + 1 + 1, 0, none⟩ (.int .i64 7)).setCell ⟨w.heap.size + 1, 0, none⟩ (.slice none 0 0)).setCell ⟨w.heap.size + 1 + 1, 0, none⟩ (.int .i64 0)).setCell ⟨w.heap.size + 1 + 1 + 1, 0, none⟩ (.int .i64 7)).drew := ⟨_, rfl⟩
  rw [← hV] at P2 ⊢
  clear hV c0 c1 c2 f0 f1 f2 P1
  go_wp2
  obtain ⟨k0, k1, k2⟩ := pass_results P2
  exact bodyPost_ret (v := .tuple #[.slice none 0 0, .int .i64 0, .int .i64 7]) (by simp [results, Try.results29, k0, k1, k2, go_sem]) rfl ⟨rfl, P2.below⟩

set_option maxRecDepth 100000 in
set_option maxHeartbeats 4000000 in
theorem pass_badwords (a0 a1 a2 a3 a4 a5 : Int) (h : OkLine a0 a1 a2 a3 a4 a5) (Aw At : Option Addr) (zs : List Int) (hz : zs.length ≤ maxLen) (cw nt ct : Nat) (w : World) (hR : IntsAt w w.heap.size Aw zs) (hx : wordsErr a0 a1 zs ≠ 0) :
    Calls Try.prog 29 #[.agg #[.int .i64 a0, .int .i64 a1, .int .i64 a2, .int .i64 a3, .int .i64 a4, .int .i64 a5], .slice Aw zs.length cw, .slice At nt ct] w (PassRef (wordsErr a0 a1 zs) w) := by
  have K := errorOfWords_any a0 a1 a2 a3 a4 a5 h Aw cw zs hz
  generalize wordsErr a0 a1 zs = E at *
  have KH := Lib.hid K
  have hx1 : (E != 0) = true := by simpa using hx
  clear K hx
  go_enter Try.func29, Try.ntmps29
  go_wp2_with fail
  have P0 := passW_new w a0 a1 a2 a3 a4 a5
  refine (check_ok a0 a1 a2 a3 a4 a5 h _).mono ?_; rintro e U ⟨rfl, hU⟩
  have P1 : PassW w a0 a1 a2 a3 a4 a5 (.slice none 0 0) 0 0 U := by rw [hU]; exact P0.after ((Below.refl _ _).alloc (Nat.le_refl _) _)
  clear P0 hU
  obtain ⟨l0, l1, l2, l3, l4, l5⟩ := P1.line
  obtain ⟨c0, c1, c2⟩ := pass_results P1
  have f2 := P1.r2.frozen 0
  go_wp2_with fail
  have P2 := P1.setE 0
  have hs := P2.size
  refine (KH.out _ ((hR.below P2.below).more (by omega))).mono ?_; rintro e V ⟨rfl, hV⟩
  have P3 := P2.after hV
  clear P1 P2 hV l0 l1 l2 l3 l4 l5 c0 c1 c2 f2 hs
  obtain ⟨c0, c1, c2⟩ := pass_results P3
  have f0 := P3.r0.frozen 0
  have f1 := P3.r1.frozen 0
  have f2 := P3.r2.frozen 0
  go_wp2
  go_region
  have P4 := ((((P3.setE E).setV (.slice none 0 0)).setN 0).setE E).drew
  obtain ⟨X, hX⟩ : ∃ X, X = ((((V.setCell ⟨w.heap.size + 1 + 1 + 1, 0, none⟩ (.int .i64 E)).setCell ⟨w.heap.size + 1, 0, none⟩ (.slice none 0 0)).setCell ⟨w.heap.size + 1 + 1, 0, none⟩ (.int .i64 0)).setCell ⟨w.heap.size + 1 + 1 + 1, 0, none⟩ (.int .i64 E)).drew := ⟨_, rfl⟩
  rw [← hX] at P4 ⊢
  clear hX c0 c1 c2 f0 f1 f2 P3
  go_wp2
  obtain ⟨k0, k1, k2⟩ := pass_results P4
  exact bodyPost_ret (v := .tuple #[.slice none 0 0, .int .i64 0, .int .i64 E]) (by simp [results, Try.results29, k0, k1, k2, go_sem]) rfl ⟨rfl, P4.below⟩
end Go.Proofs.Ytplipfcnjmgicaa
