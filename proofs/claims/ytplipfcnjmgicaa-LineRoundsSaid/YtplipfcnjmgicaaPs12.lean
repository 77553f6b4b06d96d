/-
  Pass, where it answers. No statement is proved here.
-/
import Derived.Test.YtplipfcnjmgicaaPs11
namespace Go.Proofs.Ytplipfcnjmgicaa
open Go.RowKit Go.Shelf
set_option linter.unusedVariables false
set_option linter.unusedSimpArgs false
attribute [local go_sem] Oper.semAt_some

theorem rounds_any (a0 a1 a2 a3 a4 a5 : Int) (A : Option Addr) (n c : Nat) (w : World) :
    Calls Try.prog 65 #[.agg #[.int .i64 a0, .int .i64 a1, .int .i64 a2, .int .i64 a3, .int .i64 a4, .int .i64 a5], .slice A n c] w fun e w' =>
      e = .returned (.func (.func 89) #[] #[.pointer (some ⟨w.heap.size + 1, 0, none⟩), .pointer (some ⟨w.heap.size, 0, none⟩)]) ∧
      w' = (w.alloc (.cells #[.int .i64 a0, .int .i64 a1, .int .i64 a2, .int .i64 a3, .int .i64 a4, .int .i64 a5] 25)).alloc (.cells #[.slice A n c] 35) := by
  go_enter Try.func65, Try.ntmps65
  go_wp2
  go_ret
  exact ⟨rfl, rfl⟩

/-- Pulses after rounds. -/
def rotAll (xs : List (Int × Bool)) (bs : List Bool) : List Bool := xs.foldl (fun l x => rot (x.1 % (l.length : Int)).toNat l) bs
theorem rotAll_snoc (xs : List (Int × Bool)) (x : Int × Bool) (bs : List Bool) : rotAll (xs ++ [x]) bs = rot (x.1 % ((rotAll xs bs).length : Int)).toNat (rotAll xs bs) := by simp [rotAll]
theorem rotAll_length (bs : List Bool) : ∀ xs : List (Int × Bool), (rotAll xs bs).length = bs.length := by
  intro xs
  induction xs generalizing bs with
  | nil => rfl
  | cons x xs ih => 
    show (rotAll xs (rot _ bs)).length = _
    rw [ih, rot_length]

/-- What Pass answers: the words, and in which round pulses are lost. -/
def passOf (b W : Nat) (xs : List (Int × Bool)) (bs : List Bool) : List Int × Int :=
  match xs.findIdx? (·.2) with
  | none => (wordsOf b W (rotAll xs bs), -1)
  | some i => (List.replicate W 0, (i : Int))

def PassOk (zs : List Int) (n : Int) (w : World) (e : Ending) (w' : World) : Prop :=
  ∃ A c, e = .returned (.tuple #[.slice A zs.length c, .int .i64 n, .int .i64 0]) ∧ IntsAt w' w'.heap.size A zs ∧ Below w.heap.size w w'

theorem RowIs.kept {U V : World} {g : Nat} {e : TypeId} {xs : List Value} {row : Option Nat} (h : RowIs U g e xs) (hg : U.grownBy V row) (hr : ∀ r, row = some r → ∃ o : Obj, U.heap[r]? = some o ∧ o.isCells = false) : RowIs V g e xs := (grownBy_keeps_cells hg hr h rfl).trans h
theorem LineAt.kept {U V : World} {B : Nat} {a0 a1 a2 a3 a4 a5 : Int} {row : Option Nat} (h : LineAt U B a0 a1 a2 a3 a4 a5) (hg : U.grownBy V row) (hr : ∀ r, row = some r → ∃ o : Obj, U.heap[r]? = some o ∧ o.isCells = false) : LineAt V B a0 a1 a2 a3 a4 a5 :=
  ⟨cell_kept h.l0 hg hr, cell_kept h.l1 hg hr, cell_kept h.l2 hg hr, cell_kept h.l3 hg hr, cell_kept h.l4 hg hr, cell_kept h.l5 hg hr⟩
theorem ListAt.kept {α : Type} {f : α → Value} {U V : World} {A : Option Addr} {xs : List α} {row : Option Nat} (h : ListAt f U U.heap.size A xs) (hg : U.grownBy V row) (hr : ∀ r, row = some r → ∃ o : Obj, U.heap[r]? = some o ∧ o.isCells = false) : ListAt f V V.heap.size A xs := fun h0 => by
  obtain ⟨ad, e, hlt, hc⟩ := h h0
  exact ⟨ad, e, Nat.lt_of_lt_of_le hlt hg.size, fun j hj => cell_kept (hc j hj) hg hr⟩
theorem PassW.kept {w U V : World} {a0 a1 a2 a3 a4 a5 n e : Int} {v : Value} {row : Option Nat} (h : PassW w a0 a1 a2 a3 a4 a5 v n e U) (hg : U.grownBy V row) (hr : ∀ r, row = some r → w.heap.size ≤ r ∧ ∃ o : Obj, U.heap[r]? = some o ∧ o.isCells = false) : PassW w a0 a1 a2 a3 a4 a5 v n e V :=
  have hr' := fun r e => (hr r e).2
  ⟨h.line.kept hg hr', h.r0.kept hg hr', h.r1.kept hg hr', h.r2.kept hg hr', h.below.grown hg h.below.size (fun k e => (hr k e).1)⟩

/-- Between two rounds. -/
structure RangeI (w : World) (a1 a2 a3 a4 a5 : Int) (W pb : Nat) (bs : List Bool) (pre : List (Int × Bool)) (U : World) : Prop where
  none_ : pre.all (fun x => !x.2) = true
  pass : PassW w W a1 a2 a3 a4 a5 (.slice none 0 0) pre.length 0 U
  big : pb + 1 + 1 < U.heap.size
  pulses : ∃ A c, RowIs U pb 88 [.slice A bs.length c] ∧ bs.length ≤ c ∧ BoolsAt U U.heap.size A (rotAll pre bs)
/-- Where pulses are lost. -/
structure RangeX (w : World) (a1 a2 a3 a4 a5 : Int) (W : Nat) (c : Code) (pre : List (Int × Bool)) (U : World) : Prop where
  code : c = .ret
  last : ∃ p x, pre = p ++ [x] ∧ x.2 = true ∧ p.all (fun x => !x.2) = true ∧ ∃ A cc, PassW w W a1 a2 a3 a4 a5 (.slice A W cc) p.length 0 U ∧ IntsAt U U.heap.size A (List.replicate W 0)
theorem rangeI_own (w : World) (a1 a2 a3 a4 a5 : Int) (W pb : Nat) (bs : List Bool) (B : Nat) (hB : w.heap.size ≤ B) : OwnFrom B (RangeI w a1 a2 a3 a4 a5 W pb bs) := fun s U V row h hg hr => by
  obtain ⟨h1, h2, hbig, A, c, h3, h4, h5⟩ := h
  have hr' := fun r e => (hr r e).2
  exact ⟨h1, h2.kept hg (fun r e => ⟨Nat.le_trans hB (hr r e).1, (hr r e).2⟩), Nat.lt_of_lt_of_le hbig hg.size, A, c, h3.kept hg hr', h4, h5.kept hg hr'⟩
theorem rangeX_own (w : World) (a1 a2 a3 a4 a5 : Int) (W : Nat) (c : Code) (B : Nat) (hB : w.heap.size ≤ B) : OwnFrom B (RangeX w a1 a2 a3 a4 a5 W c) := fun s U V row h hg hr => by
  obtain ⟨h1, p, x, h2, h3, h4, A, cc, h5, h6⟩ := h
  exact ⟨h1, p, x, h2, h3, h4, A, cc, h5.kept hg (fun r e => ⟨Nat.le_trans hB (hr r e).1, (hr r e).2⟩), h6.kept hg (fun r e => (hr r e).2)⟩

theorem rangeX_world {w U : World} {a1 a2 a3 a4 a5 : Int} {W : Nat} {pre : List (Int × Bool)} {sh : Int} (hP : PassW w W a1 a2 a3 a4 a5 (.slice none 0 0) pre.length 0 U) (hno : pre.all (fun x => !x.2) = true) :
    KeepsOthers U ((((U.setCell ⟨w.heap.size + 1, 0, none⟩ (.slice (some ⟨U.heap.size, 0, none⟩) W W)).setCell ⟨w.heap.size + 1 + 1, 0, none⟩ (.int .i64 pre.length)).setCell ⟨w.heap.size + 1 + 1 + 1, 0, none⟩ (.int .i64 0)).alloc (.cells (Array.replicate W (.int .i64 0)) 3)).drew ∧
    RangeX w a1 a2 a3 a4 a5 W .ret (pre ++ [(sh, true)]) ((((U.setCell ⟨w.heap.size + 1, 0, none⟩ (.slice (some ⟨U.heap.size, 0, none⟩) W W)).setCell ⟨w.heap.size + 1 + 1, 0, none⟩ (.int .i64 pre.length)).setCell ⟨w.heap.size + 1 + 1 + 1, 0, none⟩ (.int .i64 0)).alloc (.cells (Array.replicate W (.int .i64 0)) 3)).drew := by
  have P := ((hP.setV (.slice (some ⟨U.heap.size, 0, none⟩) W W)).setN pre.length).setE 0
  refine ⟨((((KeepsOthers.setCell _ _ _).trans (KeepsOthers.setCell _ _ _)).trans (KeepsOthers.setCell _ _ _)).trans (KeepsOthers.alloc _ _)).trans (KeepsOthers.drew _), rfl, pre, (sh, true), rfl, rfl, hno, some ⟨U.heap.size, 0, none⟩, W, ?_, ?_⟩
  · exact (P.after ((Below.refl _ _).alloc (Nat.le_refl _) _)).drew
  · generalize hV : (((U.setCell ⟨w.heap.size + 1, 0, none⟩ (.slice (some ⟨U.heap.size, 0, none⟩) W W)).setCell ⟨w.heap.size + 1 + 1, 0, none⟩ (.int .i64 pre.length)).setCell ⟨w.heap.size + 1 + 1 + 1, 0, none⟩ (.int .i64 0)) = V
    have hs : V.heap.size = U.heap.size := by rw [← hV]; simp [World.setCell]
    have hr : RowIs (V.alloc (.cells (Array.replicate W (.int .i64 0)) 3)) V.heap.size 3 (ints (List.replicate W 0)) := by
      have := RowIs.new V 3 (ints (List.replicate W 0))
      rw [ints_replicate] at this ⊢
      simpa using this
    rw [hs] at hr
    exact ListAt.row (f := Value.int .i64) hr

theorem KeepsOthers.of_below {U V : World} (h : Below U.heap.size U V) : KeepsOthers U V := ⟨h.size, fun k o hk _ => by rw [h.block k (Array.getElem?_eq_some_iff.1 hk).1]; exact hk⟩
theorem PassW.far {w U : World} {a0 a1 a2 a3 a4 a5 n e : Int} {v : Value} (h : PassW w a0 a1 a2 a3 a4 a5 v n e U) {p : Addr} (hp : w.heap.size + 1 + 1 + 1 < p.block) (u : Value) : PassW w a0 a1 a2 a3 a4 a5 v n e (U.setCell p u) :=
  ⟨h.line.far (by omega) u, h.r0.far (by omega) u, h.r1.far (by omega) u, h.r2.far (by omega) u, h.below.setCell (by omega) u⟩
theorem ListAt.far {α : Type} {f : α → Value} {U : World} {B : Nat} {A : Option Addr} {xs : List α} (h : ListAt f U B A xs) {p : Addr} (hp : ∀ ad, A = some ad → p.block ≠ ad.block) (u : Value) : ListAt f (U.setCell p u) B A xs := fun h0 => by
  obtain ⟨ad, e, hlt, hc⟩ := h h0
  exact ⟨ad, e, hlt, fun j hj => (cell_apart U u (by rw [add_block]; exact hp ad e)).trans (hc j hj)⟩

/-- A round behind which pulses go on. -/
theorem rangeI_world {w U V : World} {a1 a2 a3 a4 a5 : Int} {W pb : Nat} {bs nb : List Bool} {pre : List (Int × Bool)} {sh : Int} {A A2 : Option Addr} {c c2 : Nat} {S : Nat → Prop} (hS : ∀ k, S k → k < w.heap.size ∨ pb < k) (hSU : ∀ k, S k → k < U.heap.size) (hbig : pb + 1 + 1 < U.heap.size) (hpb : w.heap.size + 1 + 1 + 1 < pb)
    (hP : PassW w W a1 a2 a3 a4 a5 (.slice none 0 0) pre.length 0 U) (hno : pre.all (fun x => !x.2) = true) (hrow : RowIs U pb 88 [.slice A bs.length c]) (hV : Below U.heap.size U V)
    (hnb : nb = rotAll (pre ++ [(sh, false)]) bs) (hc : bs.length ≤ c2) (hnew : ∀ ad, A2 = some ad → U.heap.size ≤ ad.block) (hA : BoolsAt V V.heap.size A2 nb) :
    KeepsOthers U ((V.setCell ⟨pb, 0, none⟩ (.slice A2 bs.length c2)).setCell ⟨w.heap.size + 1 + 1, 0, none⟩ (.int .i64 (pre.length + 1))) ∧
    Keeps S U ((V.setCell ⟨pb, 0, none⟩ (.slice A2 bs.length c2)).setCell ⟨w.heap.size + 1 + 1, 0, none⟩ (.int .i64 (pre.length + 1))) ∧
    RangeI w a1 a2 a3 a4 a5 W pb bs (pre ++ [(sh, false)]) ((V.setCell ⟨pb, 0, none⟩ (.slice A2 bs.length c2)).setCell ⟨w.heap.size + 1 + 1, 0, none⟩ (.int .i64 (pre.length + 1))) := by
  have hlt := hrow.lt
  refine ⟨((KeepsOthers.of_below hV).trans (KeepsOthers.setCell _ _ _)).trans (KeepsOthers.setCell _ _ _), ?_, ?_⟩
  · refine ((Keeps.of_below hV hSU).setCell (fun h => ?_) _).setCell (fun h => ?_) _
    · have := hS _ h; simp only at this; omega
    · have := hS _ h; simp only at this; omega
  · refine ⟨by rw [List.all_append, hno]; rfl, ?_, by have := hV.size; simp [World.setCell]; omega, A2, c2, ?_, hc, ?_⟩
    · have := ((hP.after hV).far (p := ⟨pb, 0, none⟩) hpb (.slice A2 bs.length c2)).setN (pre.length + 1)
      simpa using this
    · exact (((hrow.below hV hlt).set 0 (.slice A2 bs.length c2))).far (by show pb ≠ w.heap.size + 1 + 1; omega) _
    · rw [← hnb]
      have h1 := (hA.far (p := ⟨pb, 0, none⟩) (fun ad e => by have := hnew ad e; show pb ≠ _; omega) (.slice A2 bs.length c2)).far (p := ⟨w.heap.size + 1 + 1, 0, none⟩) (fun ad e => by have := hnew ad e; show w.heap.size + 1 + 1 ≠ _; omega) (.int .i64 (pre.length + 1))
      simpa [World.setCell] using h1.more (Nat.le_refl _)

theorem pass_take {w V : World} {a0 a1 a2 a3 a4 a5 n : Int} {A : Option Addr} {cc D : Nat} {ws : List Int} (hP : PassW w a0 a1 a2 a3 a4 a5 (.slice A ws.length cc) n 0 V) (hA : IntsAt V V.heap.size A ws) (hD : w.heap.size ≤ D) (hK : V.heap[D]? = some (.deferred (some []))) :
    PassW w a0 a1 a2 a3 a4 a5 (.slice A ws.length cc) n 0 (V.putObj D (.deferred none)) ∧ IntsAt (V.putObj D (.deferred none)) (V.putObj D (.deferred none)).heap.size A ws :=
  ⟨hP.kept (grownBy_putObj' V D (.deferred none)) (fun r e => by cases e; exact ⟨hD, _, hK, rfl⟩), hA.kept (grownBy_putObj' V D (.deferred none)) (fun r e => by cases e; exact ⟨_, hK, rfl⟩)⟩

theorem findIdx_none (xs : List (Int × Bool)) (h : xs.all (fun x => !x.2) = true) : xs.findIdx? (·.2) = none := by
  rw [List.findIdx?_eq_none_iff]
  intro x hx
  have := List.all_eq_true.1 h x hx
  simpa using this
theorem findIdx_some (p : List (Int × Bool)) (x : Int × Bool) (r : List (Int × Bool)) (h : p.all (fun x => !x.2) = true) (hx : x.2 = true) : (p ++ [x] ++ r).findIdx? (·.2) = some p.length := by
  rw [List.append_assoc, List.findIdx?_append, findIdx_none p h]
  simp [List.findIdx?_cons, hx]

theorem make_ints (n : Nat) (hn : n ≤ 1000000) (w : World) : (Instr.makeSlice 35 (.int .i64 n) (.int .i64 n)).run Try.prog w = .ok (.slice (some ⟨w.heap.size, 0, none⟩) n n) (w.alloc (.cells (List.replicate n (.int .i64 0)).toArray 3)) := by
  obtain ⟨i, hi, h2, h3, h4⟩ := info_parts sliceInt.info
  have h := run_make (P := Try.prog) w 35 3 i _ sliceInt.und hi h2 .i64 .i64 n n (by omega) (Int.le_refl _) (by rw [h4]; omega) (by omega)
  rw [h, Int.toNat_natCast, h3, Nat.mul_one]
  have e : madeCells (Value.int .i64 0).cells n = (List.replicate n (Value.int .i64 0)).toArray := by
    apply Array.toList_inj.1
    exact toList_madeCells_one _ n
  rw [e]

set_option maxRecDepth 100000 in
set_option maxHeartbeats 4000000 in
set_option pp.deepTerms true in
set_option pp.maxSteps 1000000 in
theorem pass_ok (f : Int → Int × Bool) (b : Nat) (a2 a3 a4 a5 : Int) (Aw At : Option Addr) (zs ts : List Int) (h : OkLine zs.length b a2 a3 a4 a5) (cw ct : Nat) (hnt : ts.length ≤ 60) (w : World)
    (HS : Hid (∀ T ∈ ts, ∀ w, Calls Try.prog 57 #[.agg #[.int .i64 zs.length, .int .i64 b, .int .i64 a2, .int .i64 a3, .int .i64 a4, .int .i64 a5], .int .i64 T] w fun e w' => e = .returned (.tuple #[.int .i64 (f T).1, .bool (f T).2]) ∧ Below w.heap.size w w'))
    (hR : IntsAt w w.heap.size Aw zs) (hT : IntsAt w w.heap.size At ts) (hx : wordsErr zs.length b zs = 0) (hts : ts.all tempB = true) (hwd : Hid (∀ z ∈ zs, 0 ≤ z ∧ z < 9223372036854775808)) :
    Calls Try.prog 29 #[.agg #[.int .i64 zs.length, .int .i64 b, .int .i64 a2, .int .i64 a3, .int .i64 a4, .int .i64 a5], .slice Aw zs.length cw, .slice At ts.length ct] w (PassOk (passOf b zs.length (ts.map f) (pulsesOf b zs)).1 (passOf b zs.length (ts.map f) (pulsesOf b zs)).2 w) := by
  have hb0 := h.h1
  have hW0 := h.h0
  have hW0' : 1 ≤ zs.length ∧ zs.length ≤ 64 := by omega
  have KE := errorOfWords_any zs.length b a2 a3 a4 a5 h Aw cw zs (by unfold maxLen; omega)
  rw [hx] at KE
  have KH := Lib.hid KE
  have HT := Lib.hid hts
  clear KE hx hts
  refine (callsIn_wide (n := 4)).1 ?_
  refine callsIn_of_wp_marks Try.func29 rfl trivial ?_ rfl
  simp only [Try.ntmps29, List.size_toArray, List.length_cons, List.length_nil, Nat.reduceAdd, Nat.reduceSub, Array.replicate_succ, Array.replicate_zero, List.push_toArray, List.append_toArray, List.nil_append, List.cons_append]
  gi_wp2_with fail
  refine ⟨trivial, ?_⟩
  have P0 := passW_new w zs.length b a2 a3 a4 a5
  refine (callsIn_wide.2 (check_ok zs.length b a2 a3 a4 a5 h _)).mono ?_; rintro e U ⟨rfl, hU⟩
  have P1 : PassW w zs.length b a2 a3 a4 a5 (.slice none 0 0) 0 0 U := by rw [hU]; exact P0.after ((Below.refl _ _).alloc (Nat.le_refl _) _)
  clear P0 hU
  obtain ⟨l0, l1, l2, l3, l4, l5⟩ := P1.line
  obtain ⟨c0, c1, c2⟩ := pass_results P1
  have f2 := P1.r2.frozen 0
  gi_wp2_with fail
  refine ⟨trivial, ?_⟩
  have P2 := P1.setE 0
  have hs := P2.size
  refine (callsIn_wide.2 (KH.out _ ((hR.below P2.below).more (by omega)))).mono ?_; rintro e V ⟨rfl, hV⟩
  have P3 := P2.after hV
  clear P1 P2 hV l0 l1 l2 l3 l4 l5 c0 c1 c2 f2 hs
  obtain ⟨c0, c1, c2⟩ := pass_results P3
  have f2 := P3.r2.frozen 0
  have P4 := P3.setE 0
  have hdd : decide ((60 : Int) < (ts.length : Int)) = false := by simp; omega
  gi_wp2
  obtain ⟨X, hX⟩ : ∃ X, X = V.setCell ⟨w.heap.size + 1 + 1 + 1, 0, none⟩ (.int .i64 0) := ⟨_, rfl⟩
  rw [← hX] at P4 ⊢
  clear hX c0 c1 c2 f2 P3
  have hT4 := hT.below P4.below
  gi_loop [30] (fun i => ∃ k : Nat, k ≤ ts.length ∧ i = .int .i64 k) (fun i => ts.length - (intOf i).toNat)
  case atStart => exact ⟨0, by omega, rfl⟩
  case round =>
    obtain ⟨k, hk, rfl⟩ := hrel
    by_cases hlt : k < ts.length
    · obtain ⟨ad, rfl, hlb, hc⟩ := hT4.at_ hlt
      have ht := tempB_t (List.all_eq_true.1 HT.out _ (List.getElem_mem hlt))
      gi_wp2_with fail
      refine ⟨trivial, ?_⟩
      refine (callsIn_wide.2 (temp_t _ ht _)).mono ?_; rintro e w' ⟨rfl, rfl⟩
      gi_wp2
      go_round
      case rel => exact ⟨k + 1, by omega, by go_num⟩
      case measure => simp [intOf]; omega
    · obtain rfl : k = ts.length := by omega
      clear hdd
      obtain ⟨l0, l1, l2, l3, l4, l5⟩ := P4.line
      have hs4 := P4.size
      gi_wp2_with fail
      refine ⟨trivial, ?_⟩
      refine (callsIn_wide.2 (toPulses_any b a2 a3 a4 a5 hb0 Aw cw zs (by omega) hwd.out X ((hR.below P4.below).more (by omega)))).mono ?_; rintro e Y ⟨A, c, rfl, hcap, hnewA, hA, hY⟩
      rw [Int.toNat_natCast] at hcap hA ⊢
      have P5 := P4.after hY
      have hl : (pulsesOf b zs).length = zs.length * b := pulsesOf_length b zs
      obtain ⟨bs, hbs⟩ : ∃ bs, bs = pulsesOf b zs := ⟨_, rfl⟩
      rw [← hbs] at hcap hA hl ⊢
      have HL := Lib.hid hl
      have HBS := Lib.hid hbs
      clear hbs hl P4 hY l0 l1 l2 l3 l4 l5 hs4
      have P6 : PassW w zs.length b a2 a3 a4 a5 (.slice none 0 0) 0 0 (Y.alloc (.cells #[.slice A bs.length c] 88)) := P5.after ((Below.refl _ _).alloc (Nat.le_refl _) _)
      obtain ⟨l0, l1, l2, l3, l4, l5⟩ := P6.line
      have hs5 := P5.size
      gi_wp2_with fail
      refine ⟨trivial, ?_⟩
      refine (callsIn_wide.2 (rounds_any zs.length b a2 a3 a4 a5 At ts.length ct _)).mono ?_; rintro e Z ⟨rfl, hZ⟩
      have P7 : PassW w zs.length b a2 a3 a4 a5 (.slice none 0 0) 0 0 Z := by rw [hZ]; exact P6.after (((Below.refl _ _).alloc (Nat.le_refl _) _).alloc (by simp) _)
      have hYZ : Below Y.heap.size Y Z := by rw [hZ]; go_grown
      have hpr : RowIs Z Y.heap.size 88 [.slice A bs.length c] := by rw [hZ]; exact ((RowIs.new Y 88 [.slice A bs.length c]).alloc _).alloc _
      have hlz : LineAt Z (Y.heap.size + 1) zs.length b a2 a3 a4 a5 := by rw [hZ]; constructor <;> simp [go_sem]
      have htz : Z.cell? ⟨Y.heap.size + 1 + 1, 0, none⟩ = some (.slice At ts.length ct) := by rw [hZ]; simp [go_sem]
      have hsz : Z.heap.size = Y.heap.size + 1 + 1 + 1 := by rw [hZ]; simp
      clear hZ P6 l0 l1 l2 l3 l4 l5
      have hsY : (Y.alloc (.cells #[.slice A bs.length c] 88)).heap.size = Y.heap.size + 1 := by simp
      rw [hsY]
      clear hsY
      gi_wp2_with fail
      have EG := fun args w => enters_of Try.func89 (by kernel_rfl) rfl args w
      have hS1 : ∀ k, k < w.heap.size → k < Y.heap.size := fun k hk => by omega
      have hsw : w.heap.size ≤ Z.heap.size := P7.below.size
      have hseq := rounds_stops f zs.length b a2 a3 a4 a5 ts hnt At ct HS.out 3 (by decide) (Y.heap.size + 1 + 1) (Y.heap.size + 1) w.heap.size (fun k => k < w.heap.size ∨ k = Y.heap.size + 1 ∨ k = Y.heap.size + 1 + 1) Z (.inr (.inl rfl)) (.inr (.inr rfl)) (fun k hk => .inl hk) (fun k hk => by omega) hlz htz (hT.below P7.below)
      refine wpIn_rangeFunc_ownF rfl (by decide) (gf := 89) (lb := #[.pointer (some ⟨Y.heap.size + 1 + 1, 0, none⟩), .pointer (some ⟨Y.heap.size + 1, 0, none⟩)]) rfl trivial EG hseq
        (fun h k => h.trans k) (fun W l o o' hl _ _ _ => ⟨by simp, fun k hk => World.putObj_heap_other (by omega)⟩) (Below.refl _ _) (fun _ => rfl)
        (RangeI w b a2 a3 a4 a5 zs.length Y.heap.size bs) (RangeX w b a2 a3 a4 a5 zs.length)
        (rangeI_own w b a2 a3 a4 a5 zs.length Y.heap.size bs _ hsw) (fun c => rangeX_own w b a2 a3 a4 a5 zs.length c _ hsw)
        ⟨rfl, P7, by omega, A, c, hpr, hcap, (hA.below hYZ).more hYZ.size⟩
        (fun x => { tmps := #[.agg #[.int .i64 zs.length, .int .i64 b, .int .i64 a2, .int .i64 a3, .int .i64 a4, .int .i64 a5], .slice Aw zs.length cw, .slice At ts.length ct, .pointer (some ⟨w.heap.size, 0, none⟩), undef, undef, .pointer (some ⟨w.heap.size + 1, 0, none⟩), .pointer (some ⟨w.heap.size + 1 + 1, 0, none⟩), .pointer (some ⟨w.heap.size + 1 + 1 + 1, 0, none⟩), undef, u10, .pointer (some ⟨Y.heap.size, 0, none⟩), .int .i64 x.1, .bool x.2, .agg #[.int .i64 zs.length, .int .i64 b, .int .i64 a2, .int .i64 a3, .int .i64 a4, .int .i64 a5], .int .i64 0, .int .i64 0, .bool false, undef, .agg #[.int .i64 zs.length, .int .i64 b, .int .i64 a2, .int .i64 a3, .int .i64 a4, .int .i64 a5], .slice Aw zs.length cw, .int .i64 0, .int .i64 0, .bool false, undef, .slice At ts.length ct, .int .i64 ts.length, .bool false, .slice At ts.length ct, .int .i64 ts.length, .int .i64 ts.length, .bool false, u32, u33, u34, u35, u36, u37, .agg #[.int .i64 zs.length, .int .i64 b, .int .i64 a2, .int .i64 a3, .int .i64 a4, .int .i64 a5], .slice Aw zs.length cw, .slice A bs.length c, .agg #[.int .i64 zs.length, .int .i64 b, .int .i64 a2, .int .i64 a3, .int .i64 a4, .int .i64 a5], .slice At ts.length ct, .func (.func 89) #[] #[.pointer (some ⟨Y.heap.size + 1 + 1, 0, none⟩), .pointer (some ⟨Y.heap.size + 1, 0, none⟩)], .int .i64 x.1, .bool x.2, undef, undef, undef, undef, undef, undef, undef, undef, undef, undef, undef, undef, undef], defers := [] }) ?assign ?body ?done ?stop
      case assign =>
        intro l x W K hK
        gi_wp2
        exact hK
      case body =>
        clear P7 hYZ hpr hlz htz hseq EG hA
        rintro l pre x U ⟨hno, hP, hbig, A', c', hrow, hcap', hbools⟩ hlen
        obtain ⟨sh, lost⟩ := x
        have hmx : Try.prog.follows .mixedOrders = true := mixed_orders
        have hNO := Lib.hid hno
        clear hno
        obtain ⟨c0, c1, c2⟩ := pass_results hP
        have f0 := hP.r0.frozen 0
        have f1 := hP.r1.frozen 0
        have f2 := hP.r2.frozen 0
        obtain ⟨l0, l1, l2, l3, l4, l5⟩ := hP.line
        cases lost with
        | true =>
          have hmk := make_ints zs.length (by omega)
          have hs := hP.size
          have hs1 : w.heap.size + 1 + 1 < U.heap.size := by omega
          have hs2 : w.heap.size + 1 < U.heap.size := by omega
          gi_wp2
          gi_region_with_o (fail)
          all_goals gi_wp2
          all_goals exact rangeX_world hP hNO.out
        | false =>
          have hrl : (rotAll pre bs).length = bs.length := rotAll_length bs pre
          have hbl := HL.out
          have hb2 : zs.length * b ≤ 64 * 40 := Nat.mul_le_mul (by omega) (by omega)
          have hb1 : 1 ≤ bs.length := by rw [hbl]; exact Nat.mul_pos (by omega) (by omega)
          have KT := turn_any A' c' (rotAll pre bs) (by omega) (by omega) sh
          have hsn := rotAll_snoc pre (sh, false) bs
          rw [hrl] at KT hsn
          have KT' := Lib.hid KT
          have HSN := Lib.hid hsn
          have HRL := Lib.hid hrl
          clear KT hsn hrl hbl hb2 hb1
          have q0 : U.cell? ⟨Y.heap.size, 0, none⟩ = some (.slice A' bs.length c') := by rw [hrow.cell]; rfl
          have q1 := hrow.frozen 0
          gi_wp2_with fail
          refine ⟨trivial, ?_⟩
          refine (CallsIn.inRound l (callsIn_wide.2 (KT'.out U hbools))).mono ?_; rintro e V ⟨A2, cc2, rfl, hcap2, hnew2, hA2, hV⟩
          have hnl : (rot (sh % (bs.length : Int)).toNat (rotAll pre bs)).length = bs.length := by rw [rot_length]; exact HRL.out
          rw [hnl] at hcap2 ⊢
          have P3 := hP.after hV
          obtain ⟨d0, d1, d2⟩ := pass_results P3
          have g1 := P3.r1.frozen 0
          have r3 := hrow.below hV hrow.lt
          have q2 : V.cell? ⟨Y.heap.size, 0, none⟩ = some (.slice A' bs.length c') := by rw [r3.cell]; rfl
          have q3 := r3.frozen 0
          have HW := Lib.hid (rangeI_world (S := fun k => k < w.heap.size ∨ k = Y.heap.size + 1 ∨ k = Y.heap.size + 1 + 1) (fun k hk => by omega) (fun k hk => by have := hrow.lt; have := hP.size; omega) hbig hs5 hP hNO.out hrow hV HSN.out.symm hcap2 hnew2 hA2)
          clear hP hrow hV hA2 hnew2 P3 r3 KT' HSN HRL hnl c0 c1 c2 f0 f1 f2 l0 l1 l2 l3 l4 l5 q0 q1
          gi_wp2
          exact HW.out
      case done =>
        clear P7 hYZ hpr hlz htz hseq EG hA
        rintro D ys U hD hS ⟨hno, hP, hbig, A', c', hrow, hcap', hbools⟩ hK
        have hYS : ys = ts.map f := hS
        have hres : passOf b zs.length (ts.map f) bs = (wordsOf b zs.length (rotAll ys bs), -1) := by
          rw [← hYS]
          unfold passOf
          rw [findIdx_none ys hno]
        have HRES := Lib.hid hres
        have hrl : (rotAll ys bs).length = bs.length := rotAll_length bs ys
        have KW := toWords_any b a2 a3 a4 a5 hb0 A' c' zs.length hW0' (rotAll ys bs) (by rw [hrl, Int.toNat_natCast]; exact HL.out) U hbools
        rw [Int.toNat_natCast, hrl] at KW
        have KW' := Lib.hid KW
        clear hS hYS hres hrl KW hno
        obtain ⟨l0, l1, l2, l3, l4, l5⟩ := hP.line
        have q0 : U.cell? ⟨Y.heap.size, 0, none⟩ = some (.slice A' bs.length c') := by rw [hrow.cell]; rfl
        gi_wp2_with fail
        refine ⟨trivial, ?_⟩
        refine (callsIn_wide.2 KW'.out).mono ?_; rintro e V ⟨A2, cc2, rfl, hcap2, hnew2, hA2, hV⟩
        have hwl : (wordsOf b zs.length (rotAll ys bs)).length = zs.length := wordsOf_length _ _ _
        have P3 := hP.after hV
        obtain ⟨c0, c1, c2⟩ := pass_results P3
        have f0 := P3.r0.frozen 0
        have f1 := P3.r1.frozen 0
        have f2 := P3.r2.frozen 0
        have P4 := ((P3.setV (.slice A2 (wordsOf b zs.length (rotAll ys bs)).length cc2)).setN (-1)).setE 0
        have hKV : V.heap[D]? = some (.deferred (some [])) := by rw [hV.block D (Array.getElem?_eq_some_iff.1 hK).1]; exact hK
        obtain ⟨ws, hws⟩ : ∃ ws, ws = wordsOf b zs.length (rotAll ys bs) := ⟨_, rfl⟩
        rw [← hws] at hwl hA2 P4 ⊢
        have HWS := Lib.hid hws
        have HWL := Lib.hid hwl
        rw [hwl] at P4 ⊢
        clear hwl hws hP hrow hV KW' l0 l1 l2 l3 l4 l5 q0
        gi_wp2
        obtain ⟨V4, hV4⟩ : ∃ V4, V4 = ((V.setCell ⟨w.heap.size + 1, 0, none⟩ (.slice A2 zs.length cc2)).setCell ⟨w.heap.size + 1 + 1, 0, none⟩ (.int .i64 (-1))).setCell ⟨w.heap.size + 1 + 1 + 1, 0, none⟩ (.int .i64 0) := ⟨_, rfl⟩
        have hK4 : V4.heap[D]? = some (.deferred (some [])) := by rw [hV4]; exact (((KeepsOthers.setCell _ _ _).trans (KeepsOthers.setCell _ _ _)).trans (KeepsOthers.setCell _ _ _)).same D _ hKV rfl
        have hA4 : IntsAt V4 V4.heap.size A2 ws := by
          have h1 := ((hA2.far (p := ⟨w.heap.size + 1, 0, none⟩) (fun ad e => by have := hnew2 ad e; have := hbig; show w.heap.size + 1 ≠ _; omega) (.slice A2 zs.length cc2)).far (p := ⟨w.heap.size + 1 + 1, 0, none⟩) (fun ad e => by have := hnew2 ad e; show w.heap.size + 1 + 1 ≠ _; omega) (.int .i64 (-1))).far (p := ⟨w.heap.size + 1 + 1 + 1, 0, none⟩) (fun ad e => by have := hnew2 ad e; show w.heap.size + 1 + 1 + 1 ≠ _; omega) (.int .i64 0)
          rw [hV4]
          simpa [World.setCell] using h1.more (Nat.le_refl _)
        rw [← hV4] at P4 ⊢
        clear hV4 hA2 hKV P3 c0 c1 c2 f0 f1 f2
        rw [← HWL.out] at P4
        obtain ⟨P5', hA5⟩ := pass_take P4 hA4 (by omega) hK4
        obtain ⟨k0, k1, k2⟩ := pass_results P5'
        refine ⟨by simp, .inl ⟨_, _, rfl, run_takeDeferred hK4, ?_⟩⟩
        refine ⟨.tuple #[.slice A2 ws.length cc2, .int .i64 (-1), .int .i64 0], by simp [results, Try.results29, k0, k1, k2, go_sem], ?_⟩
        rw [← HBS.out, HRES.out, ← HWS.out]
        exact ⟨A2, cc2, rfl, hA5, P5'.below⟩
      case stop =>
        clear P7 hYZ hpr hlz htz hseq EG hA
        rintro D c0 pre U hD hSp ⟨rfl, p, x, hpre, hx, hno, A2, cc2, hP, hA2⟩ hK
        obtain ⟨k, hk⟩ : ∃ k, pre = (ts.map f).take k := hSp
        have hres : passOf b zs.length (ts.map f) bs = (List.replicate zs.length 0, (p.length : Int)) := by
          have e : ts.map f = p ++ [x] ++ (ts.map f).drop k := by rw [← hpre, hk, List.take_append_drop]
          unfold passOf
          rw [e, findIdx_some p x _ hno hx]
        have hP' : PassW w zs.length b a2 a3 a4 a5 (.slice A2 (List.replicate zs.length (0 : Int)).length cc2) p.length 0 U := by rw [List.length_replicate]; exact hP
        obtain ⟨P5', hA5⟩ := pass_take hP' hA2 (by omega) hK
        obtain ⟨k0, k1, k2⟩ := pass_results P5'
        gi_wp2
        refine ⟨by simp, .inl ⟨_, _, rfl, run_takeDeferred hK, ?_⟩⟩
        refine ⟨.tuple #[.slice A2 (List.replicate zs.length (0 : Int)).length cc2, .int .i64 p.length, .int .i64 0], by simp [results, Try.results29, k0, k1, k2, go_sem], ?_⟩
        rw [← HBS.out, hres]
        exact ⟨A2, cc2, rfl, hA5, P5'.below⟩
end Go.Proofs.Ytplipfcnjmgicaa
