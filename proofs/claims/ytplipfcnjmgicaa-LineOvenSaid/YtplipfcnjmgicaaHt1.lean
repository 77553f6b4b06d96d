/-
  THE MOMENTS OF AN OVEN, as lists and as a relation. No statement is proved here.
-/
import Derived.Test.YtplipfcnjmgicaaEnds
namespace Go.Proofs.Ytplipfcnjmgicaa
set_option linter.unusedVariables false
set_option linter.unusedSimpArgs false

/-- A moment: a temperature, and whether it heated in the minute before. -/
abbrev Mo := Int × Bool
/-- An oven. -/
structure Ov where
  low : Int
  high : Int
  wl : Int
  wh : Int
  cl : Int
  ch : Int
namespace Ov
structure Ok (o : Ov) : Prop where
  l : -500 ≤ o.low ∧ o.low ≤ 1000
  h : -500 ≤ o.high ∧ o.high ≤ 1000
  lh : o.low ≤ o.high
  w : 0 ≤ o.wl ∧ o.wl ≤ o.wh ∧ o.wh ≤ 100
  c : 0 ≤ o.cl ∧ o.cl ≤ o.ch ∧ o.ch ≤ 100
def heats (o : Ov) (m : Mo) : Bool := decide (m.1 < o.low) || (decide (m.1 ≤ o.high) && m.2)
def lo (o : Ov) (m : Mo) : Int := if o.heats m then m.1 + o.wl else m.1 - o.ch
def hi (o : Ov) (m : Mo) : Int := if o.heats m then m.1 + o.wh else m.1 - o.cl
def to (o : Ov) (p m : Mo) : Prop := o.lo p ≤ m.1 ∧ m.1 ≤ o.hi p ∧ m.2 = o.heats p
/-- The moments after so many minutes. -/
def At (o : Ov) (tl th : Int) (h : Bool) : Nat → Mo → Prop
  | 0, m => tl ≤ m.1 ∧ m.1 ≤ th ∧ m.2 = h
  | k + 1, m => ∃ p, At o tl th h k p ∧ o.to p m
def New (o : Ov) (tl th : Int) (h : Bool) (k : Nat) (m : Mo) : Prop := o.At tl th h k m ∧ ∀ j, j < k → ¬ o.At tl th h j m

theorem lo_hi {o : Ov} (ok : o.Ok) (p : Mo) : o.lo p ≤ o.hi p := by
  obtain ⟨_, _, _, w, c⟩ := ok
  unfold lo hi
  split <;> omega
theorem in_box {o : Ov} (ok : o.Ok) {p : Mo} (hp : -600 ≤ p.1 ∧ p.1 ≤ 1100) : -600 ≤ o.lo p ∧ o.hi p ≤ 1100 := by
  obtain ⟨l, h, lh, w, c⟩ := ok
  unfold lo hi
  cases hh : o.heats p with
  | true =>
    simp only [if_true]
    simp only [heats, Bool.or_eq_true, decide_eq_true_eq, Bool.and_eq_true] at hh
    omega
  | false =>
    simp only [Bool.false_eq_true, if_false]
    simp only [heats, Bool.or_eq_false_iff, decide_eq_false_iff_not] at hh
    omega
theorem to_in {o : Ov} (ok : o.Ok) {p m : Mo} (hp : -600 ≤ p.1 ∧ p.1 ≤ 1100) (h : o.to p m) : -600 ≤ m.1 ∧ m.1 ≤ 1100 := by
  have := in_box ok hp
  obtain ⟨h1, h2, _⟩ := h
  omega
theorem at_in {o : Ov} (ok : o.Ok) {tl th : Int} {h : Bool} (h1 : -500 ≤ tl) (h2 : th ≤ 1000) : ∀ {k : Nat} {m : Mo}, o.At tl th h k m → -600 ≤ m.1 ∧ m.1 ≤ 1100
  | 0, m, hm => by obtain ⟨a, b, _⟩ := hm; omega
  | k + 1, m, ⟨p, hp, ht⟩ => to_in ok (at_in ok h1 h2 hp) ht
theorem new_step {o : Ov} {tl th : Int} {h : Bool} {k : Nat} {m : Mo} : o.New tl th h (k + 1) m ↔ (∃ p, o.New tl th h k p ∧ o.to p m) ∧ ∀ j, j ≤ k → ¬ o.At tl th h j m := by
  constructor
  · rintro ⟨⟨p, hp, ht⟩, hn⟩
    refine ⟨⟨p, ⟨hp, fun j hj ha => hn (j + 1) (by omega) ⟨p, ha, ht⟩⟩, ht⟩, fun j hj => hn j (by omega)⟩
  · rintro ⟨⟨p, hp, ht⟩, hn⟩
    exact ⟨⟨p, hp.1, ht⟩, fun j hj => hn j (by omega)⟩
theorem at_new {o : Ov} {tl th : Int} {h : Bool} : ∀ {k : Nat} {m : Mo}, o.At tl th h k m → ∃ j, j ≤ k ∧ o.New tl th h j m := by
  intro k
  induction k using Nat.strongRecOn with
  | ind k ih =>
    intro m hm
    by_cases hn : ∃ j, j < k ∧ o.At tl th h j m
    · obtain ⟨j, hj, ha⟩ := hn
      obtain ⟨i, hi, hi2⟩ := ih j hj ha
      exact ⟨i, by omega, hi2⟩
    · exact ⟨k, Nat.le_refl _, hm, fun j hj ha => hn ⟨j, hj, ha⟩⟩
end Ov

/-- All moments so far, and those that are new. -/
structure Pq where
  all : List Mo
  fr : List Mo
namespace Pq
def push (p : Pq) (m : Mo) : Pq := if m ∈ p.all then p else ⟨p.all ++ [m], p.fr ++ [m]⟩
def reach (p : Pq) (h : Bool) (lo : Int) : Nat → Pq
  | 0 => p
  | n + 1 => (reach p h lo n).push (lo + n, h)
def step (o : Ov) (p : Pq) (m : Mo) : Pq := p.reach (o.heats m) (o.lo m) (o.hi m - o.lo m + 1).toNat
def minute (o : Ov) (p : Pq) (now : List Mo) : Pq := now.foldl (step o) p
theorem minute_snoc (o : Ov) (p : Pq) (now : List Mo) (m : Mo) : p.minute o (now ++ [m]) = (p.minute o now).step o m := by simp [minute]
theorem push_all (p : Pq) (m x : Mo) : x ∈ (p.push m).all ↔ x ∈ p.all ∨ x = m := by
  unfold push
  split
  · rename_i h
    constructor
    · exact .inl
    · rintro (h1 | rfl)
      · exact h1
      · exact h
  · simp
theorem push_fr (p : Pq) (m x : Mo) : x ∈ (p.push m).fr ↔ x ∈ p.fr ∨ (x = m ∧ m ∉ p.all) := by
  unfold push
  split <;> rename_i h <;> simp [h]
theorem reach_all (p : Pq) (h : Bool) (lo : Int) (x : Mo) : ∀ n : Nat, x ∈ (p.reach h lo n).all ↔ x ∈ p.all ∨ (x.2 = h ∧ lo ≤ x.1 ∧ x.1 < lo + n)
  | 0 => by simp only [reach]; constructor; exact .inl; rintro (h1 | h1); exact h1; omega
  | n + 1 => by
    simp only [reach, push_all, reach_all p h lo x n]
    obtain ⟨t, b⟩ := x
    simp only [Prod.mk.injEq]
    constructor
    · rintro ((h1 | ⟨h1, h2, h3⟩) | ⟨h1, h2⟩)
      · exact .inl h1
      · exact .inr ⟨h1, h2, by omega⟩
      · exact .inr ⟨h2, by omega, by omega⟩
    · rintro (h1 | ⟨h1, h2, h3⟩)
      · exact .inl (.inl h1)
      · by_cases e : t = lo + n
        · exact .inr ⟨e, h1⟩
        · exact .inl (.inr ⟨h1, h2, by omega⟩)
theorem reach_fr (p : Pq) (h : Bool) (lo : Int) (x : Mo) : ∀ n : Nat, x ∈ (p.reach h lo n).fr ↔ x ∈ p.fr ∨ (x ∉ p.all ∧ x.2 = h ∧ lo ≤ x.1 ∧ x.1 < lo + n)
  | 0 => by simp only [reach]; constructor; exact .inl; rintro (h1 | h1); exact h1; omega
  | n + 1 => by
    simp only [reach, push_fr, reach_fr p h lo x n, reach_all p h lo _ n]
    obtain ⟨t, b⟩ := x
    simp only [Prod.mk.injEq]
    constructor
    · rintro ((h1 | ⟨h0, h1, h2, h3⟩) | ⟨⟨h1, h2⟩, h3⟩)
      · exact .inl h1
      · exact .inr ⟨h0, h1, h2, by omega⟩
      · subst h1 h2
        exact .inr ⟨fun e => h3 (.inl e), rfl, by omega, by omega⟩
    · rintro (h1 | ⟨h0, h1, h2, h3⟩)
      · exact .inl (.inl h1)
      · by_cases e : t = lo + n
        · subst e h1
          exact .inr ⟨⟨rfl, rfl⟩, fun e => by rcases e with e | e; exact h0 e; omega⟩
        · exact .inl (.inr ⟨h0, h1, h2, by omega⟩)
theorem step_all {o : Ov} (ok : o.Ok) (p : Pq) (m x : Mo) : x ∈ (p.step o m).all ↔ x ∈ p.all ∨ o.to m x := by
  have := Ov.lo_hi ok m
  unfold step
  rw [reach_all]
  constructor
  · rintro (h | ⟨h1, h2, h3⟩)
    · exact .inl h
    · exact .inr ⟨h2, by omega, h1⟩
  · rintro (h | ⟨h1, h2, h3⟩)
    · exact .inl h
    · exact .inr ⟨h3, h1, by omega⟩
theorem step_fr {o : Ov} (ok : o.Ok) (p : Pq) (m x : Mo) : x ∈ (p.step o m).fr ↔ x ∈ p.fr ∨ (x ∉ p.all ∧ o.to m x) := by
  have := Ov.lo_hi ok m
  unfold step
  rw [reach_fr]
  constructor
  · rintro (h | ⟨h0, h1, h2, h3⟩)
    · exact .inl h
    · exact .inr ⟨h0, h2, by omega, h1⟩
  · rintro (h | ⟨h0, h1, h2, h3⟩)
    · exact .inl h
    · exact .inr ⟨h0, h3, h1, by omega⟩
theorem minute_all {o : Ov} (ok : o.Ok) (x : Mo) : ∀ (now : List Mo) (p : Pq), x ∈ (p.minute o now).all ↔ x ∈ p.all ∨ ∃ q ∈ now, o.to q x
  | [], p => by simp [minute]
  | q :: now, p => by
    show x ∈ ((p.step o q).minute o now).all ↔ _
    rw [minute_all ok x now, step_all ok]
    simp only [List.mem_cons, exists_eq_or_imp, or_assoc]
theorem minute_fr {o : Ov} (ok : o.Ok) (x : Mo) : ∀ (now : List Mo) (p : Pq), x ∈ (p.minute o now).fr ↔ x ∈ p.fr ∨ (x ∉ p.all ∧ ∃ q ∈ now, o.to q x)
  | [], p => by simp [minute]
  | q :: now, p => by
    show x ∈ ((p.step o q).minute o now).fr ↔ _
    rw [minute_fr ok x now, step_fr ok, step_all ok]
    simp only [List.mem_cons, exists_eq_or_imp]
    constructor
    · rintro ((h | ⟨h1, h2⟩) | ⟨h1, h2⟩)
      · exact .inl h
      · exact .inr ⟨h1, .inl h2⟩
      · exact .inr ⟨fun e => h1 (.inl e), .inr h2⟩
    · rintro (h | ⟨h1, h2 | h2⟩)
      · exact .inl (.inl h)
      · exact .inl (.inr ⟨h1, h2⟩)
      · by_cases e : o.to q x
        · exact .inl (.inr ⟨h1, e⟩)
        · exact .inr ⟨fun e2 => e2.elim h1 e, h2⟩
/-- What is true of all moments that are met. -/
structure Fine (p : Pq) : Prop where
  nd : p.all.Nodup
  box : ∀ x ∈ p.all, -600 ≤ x.1 ∧ x.1 ≤ 1100
  len : p.fr.length ≤ p.all.length
theorem Fine.push {p : Pq} (h : p.Fine) {m : Mo} (hm : -600 ≤ m.1 ∧ m.1 ≤ 1100) : (p.push m).Fine := by
  unfold Pq.push
  split
  · exact h
  · rename_i hn
    refine ⟨?_, ?_, by have := h.len; simp; omega⟩
    · rw [List.nodup_append]
      exact ⟨h.nd, by simp, fun a ha b hb e => by simp at hb; subst hb e; exact hn ha⟩
    · intro x hx
      rcases List.mem_append.1 hx with hx | hx
      · exact h.box x hx
      · simp at hx; subst hx; exact hm
theorem Fine.reach {p : Pq} (h : p.Fine) (b : Bool) (lo : Int) : ∀ n : Nat, -600 ≤ lo → lo + n ≤ 1101 → (p.reach b lo n).Fine
  | 0, _, _ => h
  | n + 1, h1, h2 => (Fine.reach h b lo n h1 (by omega)).push (by show -600 ≤ lo + n ∧ lo + n ≤ 1100; omega)
theorem Fine.step {o : Ov} (ok : o.Ok) {p : Pq} (h : p.Fine) {m : Mo} (hm : -600 ≤ m.1 ∧ m.1 ≤ 1100) : (p.step o m).Fine := by
  have := Ov.in_box ok hm
  have := Ov.lo_hi ok m
  exact h.reach _ _ _ (by omega) (by omega)
theorem Fine.minute {o : Ov} (ok : o.Ok) : ∀ (now : List Mo) {p : Pq}, p.Fine → (∀ x ∈ now, -600 ≤ x.1 ∧ x.1 ≤ 1100) → (p.minute o now).Fine
  | [], _, h, _ => h
  | m :: now, _, h, hn => Fine.minute ok now (h.step ok (hn m (by simp))) fun x hx => hn x (by simp [hx])
theorem Fine.reset {p : Pq} (h : p.Fine) : (Pq.mk p.all []).Fine := ⟨h.nd, h.box, by simp⟩
theorem nodup_le : ∀ (l L : List Mo), l.Nodup → (∀ x ∈ l, x ∈ L) → l.length ≤ L.length
  | [], _, _, _ => by simp
  | x :: l, L, hn, hs => by
    rw [List.nodup_cons] at hn
    have hx := hs x (by simp)
    have h1 := nodup_le l (L.erase x) hn.2 fun y hy => by
      have hne : y ≠ x := fun e => hn.1 (e ▸ hy)
      exact (List.mem_erase_of_ne hne).2 (hs y (by simp [hy]))
    rw [List.length_erase_of_mem hx] at h1
    have := List.length_pos_of_mem hx
    simp
    omega
def boxL : List Mo := (List.range 1701).flatMap fun j : Nat => [((j : Int) - 600, true), ((j : Int) - 600, false)]
theorem boxL_length : boxL.length = 3402 := by
  have h : ∀ n : Nat, ((List.range n).flatMap fun j : Nat => [((j : Int) - 600, true), ((j : Int) - 600, false)]).length = 2 * n := by
    intro n
    induction n with
    | zero => rfl
    | succ n ih => rw [List.range_succ, List.flatMap_append, List.length_append, ih]; simp; omega
  exact h 1701
theorem Fine.all_length {p : Pq} (h : p.Fine) : p.all.length ≤ 3402 := by
  rw [← boxL_length]
  refine nodup_le _ _ h.nd fun x hx => ?_
  have hb := h.box x hx
  obtain ⟨t, b⟩ := x
  dsimp only at hb
  unfold boxL
  rw [List.mem_flatMap]
  refine ⟨(t + 600).toNat, by rw [List.mem_range]; omega, ?_⟩
  have e : (((t + 600).toNat : Nat) : Int) - 600 = t := by omega
  rw [e]
  cases b <;> simp
theorem Fine.fr_length {p : Pq} (h : p.Fine) : p.fr.length ≤ 3402 := Nat.le_trans h.len h.all_length
/-- After so many minutes. -/
def level (o : Ov) (tl th : Int) (h : Bool) : Nat → Pq
  | 0 => (Pq.mk [] []).reach h tl (th - tl + 1).toNat
  | k + 1 => (Pq.mk (level o tl th h k).all []).minute o (level o tl th h k).fr
section
variable {o : Ov} {tl th : Int} {h : Bool}
theorem level_mem (ok : o.Ok) (hs : tl ≤ th) : ∀ (k : Nat) (x : Mo), (x ∈ (level o tl th h k).all ↔ ∃ j, j ≤ k ∧ o.At tl th h j x) ∧ (x ∈ (level o tl th h k).fr ↔ o.New tl th h k x)
  | 0, x => by
    unfold level
    rw [reach_all, reach_fr]
    constructor
    · constructor
      · rintro (h1 | ⟨h1, h2, h3⟩)
        · simp at h1
        · exact ⟨0, by omega, h2, by omega, h1⟩
      · rintro ⟨j, hj, hm⟩
        obtain rfl : j = 0 := by omega
        obtain ⟨h1, h2, h3⟩ := hm
        exact .inr ⟨h3, h1, by omega⟩
    · constructor
      · rintro (h1 | ⟨_, h1, h2, h3⟩)
        · simp at h1
        · exact ⟨⟨h2, by omega, h1⟩, fun j hj => by omega⟩
      · rintro ⟨⟨h1, h2, h3⟩, _⟩
        exact .inr ⟨by simp, h3, h1, by omega⟩
  | k + 1, x => by
    have ih := level_mem ok hs k
    unfold level
    rw [minute_all ok, minute_fr ok]
    constructor
    · constructor
      · rintro (h1 | ⟨q, hq, ht⟩)
        · obtain ⟨j, hj, hm⟩ := ((ih x).1).1 h1
          exact ⟨j, by omega, hm⟩
        · exact ⟨k + 1, Nat.le_refl _, q, (((ih q).2).1 hq).1, ht⟩
      · rintro ⟨j, hj, hm⟩
        by_cases ha : ∃ i, i ≤ k ∧ o.At tl th h i x
        · exact .inl (((ih x).1).2 ha)
        · have hjk : j = k + 1 := by
            by_cases e : j = k + 1
            · exact e
            · exact (ha ⟨j, by omega, hm⟩).elim
          subst hjk
          obtain ⟨⟨q, hq, ht⟩, _⟩ := Ov.new_step.1 (show o.New tl th h (k + 1) x from ⟨hm, fun i hi hx => ha ⟨i, by omega, hx⟩⟩)
          exact .inr ⟨q, ((ih q).2).2 hq, ht⟩
    · constructor
      · rintro (h1 | ⟨h1, q, hq, ht⟩)
        · simp at h1
        · exact Ov.new_step.2 ⟨⟨q, ((ih q).2).1 hq, ht⟩, fun j hj hm => h1 (((ih x).1).2 ⟨j, hj, hm⟩)⟩
      · intro hn
        obtain ⟨⟨q, hq, ht⟩, hno⟩ := Ov.new_step.1 hn
        exact .inr ⟨fun e => by obtain ⟨j, hj, hm⟩ := ((ih x).1).1 e; exact hno j hj hm, q, ((ih q).2).2 hq, ht⟩
theorem level_fine (ok : o.Ok) (h1 : -500 ≤ tl) (h2 : th ≤ 1000) (hs : tl ≤ th) : ∀ k : Nat, (level o tl th h k).Fine
  | 0 => Fine.reach ⟨by simp, by simp, by simp⟩ _ _ _ (by omega) (by omega)
  | k + 1 => Fine.minute ok _ (level_fine ok h1 h2 hs k).reset fun x hx => Ov.at_in ok h1 h2 ((((level_mem ok hs k x).2).1 hx).1)
theorem level_empty {k : Nat} (e : (level o tl th h k).fr = []) : ∀ j : Nat, (level o tl th h (k + j)).fr = []
  | 0 => e
  | j + 1 => by
    show ((Pq.mk (level o tl th h (k + j)).all []).minute o (level o tl th h (k + j)).fr).fr = []
    rw [level_empty e j]
    rfl
end
/-- What has come before the minute a. -/
def upto (o : Ov) (tl th : Int) (h : Bool) (a : Nat) : List (Int × Mo) := (List.range a).flatMap fun k => (level o tl th h k).fr.map fun m => ((k : Int), m)
section
variable {o : Ov} {tl th : Int} {h : Bool}
theorem upto_succ (a : Nat) : upto o tl th h (a + 1) = upto o tl th h a ++ (level o tl th h a).fr.map fun m => ((a : Int), m) := by
  unfold upto
  rw [List.range_succ, List.flatMap_append]
  simp
theorem upto_empty {a : Nat} (e : (level o tl th h a).fr = []) : ∀ j : Nat, upto o tl th h (a + j) = upto o tl th h a
  | 0 => rfl
  | j + 1 => by
    rw [← Nat.add_assoc, upto_succ, level_empty e j, upto_empty e j]
    simp
theorem upto_prefix {a b : Nat} (hab : a ≤ b) : upto o tl th h a <+: upto o tl th h b := by
  obtain ⟨d, rfl⟩ : ∃ d, b = a + d := ⟨b - a, by omega⟩
  clear hab
  induction d with
  | zero => exact List.prefix_refl _
  | succ d ih => rw [← Nat.add_assoc, upto_succ]; exact ih.trans (List.prefix_append _ _)
theorem upto_part {a b : Nat} (hab : a < b) (i : Nat) : upto o tl th h a ++ ((level o tl th h a).fr.take i).map (fun m => ((a : Int), m)) <+: upto o tl th h b := by
  refine List.IsPrefix.trans ?_ (upto_prefix (show a + 1 ≤ b from hab))
  rw [upto_succ]
  obtain ⟨t, ht⟩ := List.take_prefix i (level o tl th h a).fr
  refine ⟨t.map fun m => ((a : Int), m), ?_⟩
  rw [List.append_assoc, ← List.map_append, ht]
theorem upto_mem (ok : o.Ok) (hs : tl ≤ th) {a : Nat} {k : Int} {m : Mo} : (k, m) ∈ upto o tl th h a ↔ ∃ j : Nat, k = j ∧ j < a ∧ o.New tl th h j m := by
  unfold upto
  rw [List.mem_flatMap]
  constructor
  · rintro ⟨j, hj, hm⟩
    rw [List.mem_map] at hm
    obtain ⟨m', hm', e⟩ := hm
    cases e
    exact ⟨j, rfl, List.mem_range.1 hj, ((level_mem ok hs j m).2).1 hm'⟩
  · rintro ⟨j, rfl, hj, hm⟩
    exact ⟨j, List.mem_range.2 hj, List.mem_map.2 ⟨m, ((level_mem ok hs j m).2).2 hm, rfl⟩⟩
end
end Pq

/-- What Oven answers, as a property. -/
def OvenIs (o : Ov) (tl th : Int) (h : Bool) (n : Nat) (lo hi : Int) : Prop :=
  (∃ k, k ≤ n ∧ ∃ b, o.At tl th h k (lo, b)) ∧ (∃ k, k ≤ n ∧ ∃ b, o.At tl th h k (hi, b)) ∧ ∀ k, k ≤ n → ∀ m, o.At tl th h k m → lo ≤ m.1 ∧ m.1 ≤ hi
theorem OvenIs.same {o : Ov} {tl th : Int} {h : Bool} {n : Nat} {lo hi lo' hi' : Int} (a : OvenIs o tl th h n lo hi) (b : OvenIs o tl th h n lo' hi') : lo = lo' ∧ hi = hi' := by
  obtain ⟨⟨k1, q1, b1, a1⟩, ⟨k2, q2, b2, a2⟩, a3⟩ := a
  obtain ⟨⟨k3, q3, b3, c1⟩, ⟨k4, q4, b4, c2⟩, c3⟩ := b
  have e1 := c3 k1 q1 _ a1
  have e2 := c3 k2 q2 _ a2
  have e3 := a3 k3 q3 _ c1
  have e4 := a3 k4 q4 _ c2
  dsimp only at e1 e2 e3 e4
  omega
/-- What Keeps answers, as a property. -/
def KeepsIs (o : Ov) (tl th : Int) (h : Bool) (n : Nat) (f : Int → Bool) (r : Int) : Prop :=
  (r = -1 ∧ ∀ k, k ≤ n → ∀ m, o.At tl th h k m → f m.1 = true) ∨ ∃ k : Nat, k ≤ n ∧ r = k ∧ (∃ m, o.At tl th h k m ∧ f m.1 = false) ∧ ∀ j, j < k → ∀ m, o.At tl th h j m → f m.1 = true
theorem KeepsIs.same {o : Ov} {tl th : Int} {h : Bool} {n : Nat} {f : Int → Bool} {r r' : Int} (a : KeepsIs o tl th h n f r) (b : KeepsIs o tl th h n f r') : r = r' := by
  rcases a with ⟨rfl, a⟩ | ⟨k, hk, rfl, ⟨m, hm, hf⟩, a⟩ <;> rcases b with ⟨rfl, b⟩ | ⟨k', hk', rfl, ⟨m', hm', hf'⟩, b⟩
  · rfl
  · have := a k' hk' m' hm'; rw [hf'] at this; cases this
  · have := b k hk m hm; rw [hf] at this; cases this
  · rcases Nat.lt_trichotomy k k' with e | e | e
    · have := b k e m hm; rw [hf] at this; cases this
    · rw [e]
    · have := a k' e m' hm'; rw [hf'] at this; cases this
theorem ends_true : ∀ (xs : List Int), xs ≠ [] → (endsOf xs).some = true ∧ (endsOf xs).lo ∈ xs ∧ (endsOf xs).hi ∈ xs ∧ ∀ x ∈ xs, (endsOf xs).lo ≤ x ∧ x ≤ (endsOf xs).hi := by
  intro xs
  suffices H : ∀ n (xs : List Int), xs.length = n → xs ≠ [] → (endsOf xs).some = true ∧ (endsOf xs).lo ∈ xs ∧ (endsOf xs).hi ∈ xs ∧ ∀ x ∈ xs, (endsOf xs).lo ≤ x ∧ x ≤ (endsOf xs).hi from H _ xs rfl
  intro n
  induction n with
  | zero => intro xs hl hn; exact (hn (List.eq_nil_of_length_eq_zero hl)).elim
  | succ n ih =>
    intro xs hl hn
    obtain ⟨p, v, rfl⟩ : ∃ p v, xs = p ++ [v] := ⟨xs.dropLast, xs.getLast hn, (List.dropLast_concat_getLast hn).symm⟩
    rw [endsOf_snoc]
    have hp : p.length = n := by simpa using hl
    by_cases e : p = []
    · subst e
      simp [endsOf, endsStep]
    · obtain ⟨h1, h2, h3, h4⟩ := ih p hp e
      generalize endsOf p = q at *
      obtain ⟨lo, hi, sm⟩ := q
      dsimp only at h1 h2 h3 h4
      subst h1
      simp only [endsStep, if_true, true_and]
      refine ⟨?_, ?_, ?_⟩
      · split
        · simp
        · simp [h2]
      · split
        · simp
        · simp [h3]
      · intro x hx
        rcases List.mem_append.1 hx with hx | hx
        · have := h4 x hx
          constructor <;> split <;> omega
        · simp at hx
          subst hx
          constructor <;> split <;> omega
/-- The ends of all moments. -/
theorem oven_ends {o : Ov} (ok : o.Ok) {tl th : Int} (hs : tl ≤ th) (h : Bool) (n : Nat) :
    (endsOf ((Pq.upto o tl th h (n + 1)).map fun x => x.2.1)).some = true ∧ OvenIs o tl th h n (endsOf ((Pq.upto o tl th h (n + 1)).map fun x => x.2.1)).lo (endsOf ((Pq.upto o tl th h (n + 1)).map fun x => x.2.1)).hi := by
  have h0 : ((0 : Int), (tl, h)) ∈ Pq.upto o tl th h (n + 1) := (Pq.upto_mem ok hs).2 ⟨0, rfl, by omega, ⟨Int.le_refl _, hs, rfl⟩, fun j hj => by omega⟩
  have hne : ((Pq.upto o tl th h (n + 1)).map fun x => x.2.1) ≠ [] := by
    intro e
    rw [List.map_eq_nil_iff] at e
    rw [e] at h0
    simp at h0
  obtain ⟨h1, h2, h3, h4⟩ := ends_true _ hne
  have back : ∀ t, t ∈ ((Pq.upto o tl th h (n + 1)).map fun x => x.2.1) → ∃ k, k ≤ n ∧ ∃ b, o.At tl th h k (t, b) := by
    intro t ht
    obtain ⟨⟨k, m⟩, hx, e⟩ := List.mem_map.1 ht
    obtain ⟨j, _, hj, hN⟩ := (Pq.upto_mem ok hs).1 hx
    obtain ⟨t', b⟩ := m
    dsimp only at e
    subst e
    exact ⟨j, by omega, b, hN.1⟩
  refine ⟨h1, back _ h2, back _ h3, fun k hk m hm => h4 _ ?_⟩
  obtain ⟨j, hj, hN⟩ := Ov.at_new hm
  exact List.mem_map.2 ⟨((j : Int), m), (Pq.upto_mem ok hs).2 ⟨j, rfl, by omega, hN⟩, rfl⟩
/-- The first moment that is not safe. -/
theorem keeps_none {o : Ov} (ok : o.Ok) {tl th : Int} (hs : tl ≤ th) (h : Bool) (n : Nat) (f : Int → Bool) (hall : ∀ x ∈ Pq.upto o tl th h (n + 1), f x.2.1 = true) : KeepsIs o tl th h n f (-1) := by
  refine .inl ⟨rfl, fun k hk m hm => ?_⟩
  obtain ⟨j, hj, hN⟩ := Ov.at_new hm
  exact hall _ ((Pq.upto_mem ok hs).2 ⟨j, rfl, by omega, hN⟩)
theorem keeps_some {o : Ov} (ok : o.Ok) {tl th : Int} (hs : tl ≤ th) (h : Bool) (n : Nat) (f : Int → Bool) {p : List (Int × Mo)} {k : Int} {m : Mo} (hp : p ++ [(k, m)] <+: Pq.upto o tl th h (n + 1)) (hall : ∀ x ∈ p, f x.2.1 = true) (hf : f m.1 = false) : KeepsIs o tl th h n f k := by
  obtain ⟨t, ht⟩ := hp
  have hx : (k, m) ∈ Pq.upto o tl th h (n + 1) := by rw [← ht]; simp
  obtain ⟨j, rfl, hj, hN⟩ := (Pq.upto_mem ok hs).1 hx
  refine .inr ⟨j, by omega, rfl, ⟨m, hN.1, hf⟩, fun i hi m' hm' => ?_⟩
  obtain ⟨i', hi', hN'⟩ := Ov.at_new hm'
  -- what has come before the minute j is in p
  obtain ⟨s, hs2⟩ := Pq.upto_prefix (o := o) (tl := tl) (th := th) (h := h) (show j ≤ n + 1 by omega)
  have hmem : ((i' : Int), m') ∈ Pq.upto o tl th h j := (Pq.upto_mem ok hs).2 ⟨i', rfl, by omega, hN'⟩
  have hsub : Pq.upto o tl th h j <+: p := by
    have e : Pq.upto o tl th h j ++ s = p ++ ([((j : Int), m)] ++ t) := by rw [hs2, ← ht, List.append_assoc]
    rcases List.append_eq_append_iff.1 e with ⟨c, hc1, hc2⟩ | ⟨c, hc1, hc2⟩
    · exact ⟨c, hc1.symm⟩
    · cases c with
      | nil => exact ⟨[], by simpa using hc1⟩
      | cons y c =>
        have hy : y = ((j : Int), m) := by simp at hc2; exact hc2.1.symm
        have : ((j : Int), m) ∈ Pq.upto o tl th h j := by rw [hc1, hy]; simp
        obtain ⟨i2, e2, hi2, _⟩ := (Pq.upto_mem ok hs).1 this
        omega
  obtain ⟨c, hc⟩ := hsub
  exact hall ((i' : Int), m') (by rw [← hc]; exact List.mem_append_left _ hmem)
end Go.Proofs.Ytplipfcnjmgicaa
