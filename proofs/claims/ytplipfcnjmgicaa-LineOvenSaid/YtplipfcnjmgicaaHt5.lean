/-
  THE MOMENTS THAT ARE MET: reach, the walk. No statement is proved here.
-/
import Derived.Test.YtplipfcnjmgicaaHt4
namespace Go.Proofs.Ytplipfcnjmgicaa
open Go.RowKit Go.Maps
set_option linter.unusedVariables false
set_option linter.unusedSimpArgs false

def ReachOut (base sB fB mB : Nat) (q : Pq) (w : World) (e : Ending) (w' : World) : Prop :=
  e = .returned (.tuple #[]) ∧ (∃ v, HeatAt base sB fB mB q v w') ∧ Touch base fB mB w w'

set_option maxRecDepth 100000 in
set_option maxHeartbeats 1000000 in
theorem reach_any (base sB fB mB : Nat) (p : Pq) (hp : p.Fine) (lo hi : Int) (h : Bool) (hlo : -600 ≤ lo) (hhi : hi ≤ 1100) (hlh : lo ≤ hi + 1) (w : World) (v : Value) (hH : HeatAt base sB fB mB p v w) :
    Calls Try.prog 93 #[.agg #[.int .i64 lo, .int .i64 hi], .bool h, .pointer (some ⟨sB, 0, none⟩), .pointer (some ⟨fB, 0, none⟩)] w (ReachOut base sB fB mB (p.reach h lo (hi - lo + 1).toNat) w) := by
  obtain ⟨n, hn⟩ : ∃ n, (hi - lo + 1).toNat = n := ⟨_, rfl⟩
  have hN : Hid (lo + n = hi + 1) := Lib.hid (by omega)
  rw [hn]
  clear hn
  go_enter Try.func93, Try.ntmps93
  go_wp2
  go_loopw [6] (fun i wr => ∃ (k : Nat) (v' : Value), k ≤ n ∧ i = .int .i64 (lo + k) ∧ HeatAt base sB fB mB (p.reach h lo k) v' wr ∧ Touch base fB mB w wr ∧ w.heap.size < wr.heap.size ∧ wr.cell? ⟨w.heap.size, 1, none⟩ = some (.int .i64 hi) ∧ v'.ownBlock ≠ some w.heap.size) (fun i _ => (hi + 1 - intOf i).toNat)
  case atStart =>
    refine ⟨0, v, by omega, by simp, hH.below ((Below.refl _ _).alloc (Nat.le_refl _) _), .of_below ((Below.refl _ _).alloc hH.h4 _), by simp, by simp [go_sem], fun e => ?_⟩
    have := (hH.row.lt _ e).2
    omega
  case round =>
    obtain ⟨k, v', hk, rfl, hHk, hT, hlt, hc, hne⟩ := hrel
    obtain ⟨x, hx⟩ : ∃ x, x = lo + (k : Int) := ⟨_, rfl⟩
    have HX := Lib.hid hx
    have hfine := hp.reach h lo k hlo (by have := hN.out; omega)
    rw [← hx]
    clear hx
    by_cases hlt2 : k < n
    · have hxh : x ≤ hi := by have := hN.out; have := HX.out; omega
      have hxl : -600 ≤ x := by have := HX.out; omega
      have hq : Hid (p.reach h lo (k + 1) = (p.reach h lo k).push (x, h)) := Lib.hid (by rw [HX.out]; rfl)
      obtain ⟨q, hqq⟩ : ∃ q, q = p.reach h lo k := ⟨_, rfl⟩
      rw [← hqq] at hHk hfine hq
      clear hqq
      have HB := Lib.hid hfine.box
      have HL := Lib.hid hfine.fr_length
      clear hfine
      have hbox : -600 ≤ x ∧ x ≤ 1100 := ⟨hxl, by omega⟩
      have hH1 := hHk.below ((Below.refl _ _).alloc (Nat.le_refl _) (.cells #[.int .i64 x, .bool h] 107))
      have hsc := hH1.sc
      have hL0 : ∀ r : Bool, (r = true ↔ (x, h) ∈ q.all) → (Instr.lookup 124 (.map (some mB)) (.agg #[.int .i64 x, .bool h]) false).run Try.prog (wr.alloc (.cells #[.int .i64 x, .bool h] 107)) = .ok (.bool r) (wr.alloc (.cells #[.int .i64 x, .bool h] 107)) :=
        fun r hr => seen_lookup (kv := moV) moKeyed Try.underlying124 moKey moV_inj mapZero hH1.seen HB.out (x, h) hbox r hr
      have hc1 : (wr.alloc (.cells #[.int .i64 x, .bool h] 107)).cell? ⟨w.heap.size, 1, none⟩ = some (.int .i64 hi) := cell_alloc_v _ hc
      have hT1 : Touch base fB mB w (wr.alloc (.cells #[.int .i64 x, .bool h] 107)) := hT.trans (.of_below ((Below.refl _ _).alloc hHk.h4 _))
      have hxw : wrap64 (x + 1) = x + 1 := wrap_in (by omega) (by omega)
      by_cases hm : (x, h) ∈ q.all
      · have hL := hL0 true ⟨fun _ => hm, fun _ => rfl⟩
        clear hL0
        have hpu : q.push (x, h) = q := by unfold Pq.push; rw [if_pos hm]
        have HQ : Hid (p.reach h lo (k + 1) = q) := Lib.hid (hq.out.trans hpu)
        clear hm hpu hq
        have HH := Lib.hid hH1
        have HT := Lib.hid hT1
        clear hHk hT hH1 hT1 hbox
        go_wp2
        go_roundw
        case rel => exact ⟨k + 1, v', by omega, by rw [HX.out]; simp; omega, by rw [HQ.out]; exact HH.out, HT.out, by simp; omega, hc1, hne⟩
        case measure => simp [intOf]; omega
      · have hL := hL0 false ⟨fun e => (by cases e), fun e => (hm e).elim⟩
        clear hL0
        obtain ⟨V1, hrun0, hs1, hg1, hz1⟩ := seen_update (kv := moV) moKeyed Try.underlying124 moKey moV_inj hH1.seen HB.out (x, h) hbox
        have hrun : (Instr.mapUpdate 124 (.map (some mB)) (.agg #[.int .i64 x, .bool h]) (.bool true)).run Try.prog (wr.alloc (.cells #[.int .i64 x, .bool h] 107)) = .ok () V1 := hrun0
        clear hrun0
        have hlt1 : wr.heap.size < V1.heap.size := by rw [hz1]; simp
        have blk : ∀ j, V1.cell? ⟨wr.heap.size, j, none⟩ = (wr.alloc (.cells #[.int .i64 x, .bool h] 107)).cell? ⟨wr.heap.size, j, none⟩ := fun j =>
          World.cell?_of_block (a := ⟨wr.heap.size, j, none⟩) (hg1.block wr.heap.size (by simp) fun e => by cases e; have := hHk.h3; have := hHk.h4; omega)
        have m0 : V1.cell? ⟨wr.heap.size, 0, none⟩ = some (.int .i64 x) := by rw [blk]; simp [go_sem]
        have m1 : V1.cell? ⟨wr.heap.size, 1, none⟩ = some (.bool h) := by rw [blk]; simp [go_sem]
        have f0 : V1.cell? ⟨fB, 0, none⟩ = some v' := by
          rw [World.cell?_of_block (a := ⟨fB, 0, none⟩) (hg1.block fB (by have := hH1.h2; have := hH1.h4; omega) fun e => by cases e; exact hH1.n2 rfl)]
          exact hH1.fc
        have c1 : V1.cell? ⟨w.heap.size, 1, none⟩ = some (.int .i64 hi) := by
          rw [World.cell?_of_block (a := ⟨w.heap.size, 1, none⟩) (hg1.block w.heap.size (by simp; omega) fun e => by cases e; have := hH.h3; have := hH.h4; omega)]
          exact hc1
        obtain ⟨i0, hi0, hz0, hzz, hzb⟩ := info_parts moInfo
        have hrow1 : V1.ownsRow base 107 2 v' q.fr.length (moC q.fr) := hH1.row.kept hg1 (.inr fun e => by have := (hH1.row.lt _ e).1; have := hH1.h3; omega)
        have hbz : base ≤ V1.heap.size := by rw [hz1]; exact hH1.h4
        have hlen := HL.out
        have hl1 : q.fr.length + 1 ≤ maxLen := by unfold maxLen; omega
        have hl2 : (q.fr.length + 1) * 16 ≤ 140737488355328 := by omega
        have HH := Lib.hid hH1
        have HT := Lib.hid hT1
        have HM := Lib.hid hm
        have HS := Lib.hid hs1
        have HG := Lib.hid hg1
        have HZ := Lib.hid hz1
        clear hHk hT hH1 hT1 hm hs1 hg1 blk hlen hz1
        go_wp2_with (at_builtin; refine wpList_append_own_at _ rfl _ _ 125 rfl base 107 i0 _ 2 16 Try.underlying125 hi0 hz0 hzz hzb rfl (by decide) _ _ _ rfl (hrow1.alloc _) ⟨V1.heap.size, 0, none⟩ 1 1 [.int .i64 x, .bool h] rfl rfl (two_new _ _ _ _) (by simp [Value.oneCell']) hl1 hl2 (by simp; omega) ?_; intro v2 V2 hown2 hgrow2 hnil hat; obtain ⟨g2, cap2, rfl⟩ := ownsRow_succ hown2; obtain ⟨hfc2, hff2⟩ := HH.out.fresh2 HG.out ((Below.refl _ _).alloc (Nat.le_refl _) _) hgrow2)
        have hz := HZ.out
        simp only [World.size_alloc] at hz
        have hsz2 := hgrow2.size
        simp only [World.size_alloc] at hsz2
        obtain ⟨hH3, hT3⟩ := HH.out.pushed HM.out HS.out HG.out ((Below.refl _ _).alloc (Nat.le_refl _) _) hown2 hgrow2
        have hb2 : V2.heap[w.heap.size]? = V1.heap[w.heap.size]? := (hgrow2.block w.heap.size (by simp; omega) (fun e => hne e.symm)).trans (Below.heap_alloc _ _ _ (by omega))
        go_roundw
        case rel =>
          refine ⟨k + 1, _, by omega, by rw [HX.out]; simp; omega, by rw [hq.out]; exact hH3, HT.out.trans hT3, by simp [World.setCell]; omega, ?_, ?_⟩
          · rw [World.cell?_setCell_far _ _ _ _ (by have := hH.h2; have := hH.h4; show fB ≠ w.heap.size; omega), World.cell?_of_block (a := ⟨w.heap.size, 1, none⟩) hb2]
            exact c1
          · rcases hat with e | e
            · rw [e]; exact hne
            · rw [e]; intro e2; simp at e2; omega
        case measure => simp [intOf]; omega
    · obtain rfl : k = n := by omega
      have hxh : ¬ x ≤ hi := by have := hN.out; have := HX.out; omega
      go_wp2
      go_end0
      exact ⟨rfl, ⟨_, hHk⟩, hT⟩
end Go.Proofs.Ytplipfcnjmgicaa
