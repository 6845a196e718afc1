/-
  Whether the two disks are the same; any call, done to both.
-/
import Derived.Test.YtebiebbbkdbffaaDiskDoesW
import Derived.Test.YtebiebbbkdbffaaDiskDoesF
import Derived.Test.YtebiebbbkdbffaaDiskDoesC
import Derived.Test.YtebiebbbkdbffaaDiskDoesX
namespace Go.Proofs.Ytebiebbbkdbffaa.Disk
open Go Go.RowKit
open Go.Proofs.Ytebiebbbkdbffaa.Sha (Kept wp_region_drawn_tail wp_region_kept_tail quiet_load_row)

section
variable {w : World} {d : Dk} {B : Nat} {S : St}
theorem does_any (lv cv : Value) (a : Act) (h : Both w d B lv cv S) (ha : OkA w d a) (hn : S.ops < 1000000) (hpos : 0 < S.dur.length) :
    Calls Try.prog 10 #[ptr d.pb, qV S lv cv, actV a] w fun e w' => ∃ s lv' cv', e = .returned (.tuple #[qV (stepS S a s) lv' cv', .bool true]) ∧ DoneB w d B lv cv (stepS S a s) w' lv' cv' := by
  unfold stepS
  by_cases h0 : a.kind = 0
  · simp only [if_pos h0]
    exact does_write lv cv a h ha hn h0
  · simp only [if_neg h0]
    by_cases h1 : a.kind = 1
    · simp only [if_pos h1]
      exact (does_flush lv cv a h ha hn hpos h1).mono fun e w' ⟨x, y, z⟩ => ⟨⟨#[]⟩, x, y, z⟩
    · simp only [if_neg h1]
      by_cases h2 : a.kind = 2
      · simp only [if_pos h2]
        exact (does_cut lv cv a h ha h2).mono fun e w' ⟨x, y, z⟩ => ⟨⟨#[]⟩, x, y, z⟩
      · simp only [if_neg h2]
        by_cases h3 : a.kind = 3
        · simp only [if_pos h3]
          exact (does_fill lv cv a h ha h3).mono fun e w' ⟨x, y, z⟩ => ⟨⟨#[]⟩, x, y, z⟩
        · simp only [if_neg h3]
          by_cases h4 : a.kind = 4
          · simp only [if_pos h4]
            exact (does_crash lv cv a h ha hpos h4).mono fun e w' ⟨x, y, z⟩ => ⟨⟨#[]⟩, x, y, z⟩
          · simp only [if_neg h4]
            exact (does_read lv cv a h ha h0 h1 h2 h3 h4).mono fun e w' ⟨x, y, z⟩ => ⟨⟨#[]⟩, x, y, z⟩
theorem step_ops (S : St) (a : Act) (s : ByteArray) : (stepS S a s).ops ≤ S.ops + 1 := by
  unfold stepS putS flushS
  repeat' split
  all_goals first | exact Nat.le_succ _ | exact Nat.le_refl _
theorem step_len (S : St) (a : Act) (s : ByteArray) : (stepS S a s).dur.length = S.dur.length := by
  unfold stepS putS flushS
  repeat' split
  all_goals first | rfl | exact con_length S | exact crashL_length _ _ _ _
theorem step_z (S : St) (a : Act) (s : ByteArray) : (stepS S a s).z = S.z := by
  unfold stepS putS flushS
  repeat' split
  all_goals rfl
theorem same_sym {v : Value} {w : World} {P : Program} {f : FuncId} {args : Array Value} (h : Calls P f args w fun e w' => e = .returned v ∧ w = w') : Calls P f args w fun e w' => e = .returned v ∧ w' = w :=
  h.mono fun _ _ ⟨he, hw⟩ => ⟨he, hw.symm⟩
theorem offIs (h : Is w d S) : Calls Try.prog 13 #[ptr d.pb] w fun e w' => e = .returned (.bool S.off) ∧ w' = w := by
  obtain ⟨_, l, _, _, _, hm⟩ := h
  exact same_sym (off_any hm)
theorem cachedIs (h : Is w d S) : Calls Try.prog 16 #[ptr d.pb] w fun e w' => e = .returned (.int .i64 S.cache.length) ∧ w' = w := by
  obtain ⟨_, l, _, _, _, hm⟩ := h
  exact same_sym (cached_any hm)
theorem opsIs (h : Is w d S) : Calls Try.prog 27 #[ptr d.pb] w fun e w' => e = .returned (.int .i64 S.ops) ∧ w' = w := by
  obtain ⟨_, l, _, _, _, hm⟩ := h
  exact same_sym (ops_any hm)
theorem sectorsIs (h : Is w d S) : Calls Try.prog 28 #[ptr d.pb] w fun e w' => e = .returned (.int .i64 S.dur.length) ∧ w' = w := by
  obtain ⟨_, l, _, _, _, hm⟩ := h
  exact same_sym (sectors_any hm)
theorem sizeIs (h : Is w d S) : Calls Try.prog 29 #[ptr d.pb] w fun e w' => e = .returned (.int .i64 S.z) ∧ w' = w := by
  obtain ⟨_, l, _, _, _, hm⟩ := h
  exact same_sym (size_any hm)
theorem durableIs (h : Is w d S) (i : Nat) (hi : i < S.dur.length) : Calls Try.prog 15 #[ptr d.pb, .int .i64 i] w fun e w' => e = .returned (.string (at0 S.dur i)) ∧ w' = w := by
  obtain ⟨_, l, _, _, _, hm⟩ := h
  exact same_sym (durable_in hm i hi)
theorem durableNo (h : Is w d S) : Calls Try.prog 15 #[ptr d.pb, .int .i64 (-1)] w fun e w' => e = .returned (.string ⟨#[]⟩) ∧ w' = w := by
  obtain ⟨_, l, _, _, _, hm⟩ := h
  exact same_sym (durable_out hm (-1) (.inl (by omega)))
set_option maxRecDepth 100000 in
set_option maxHeartbeats 4000000 in
theorem same_any (lv cv : Value) (h : Both w d B lv cv S) (hpos : 0 < S.dur.length) :
    Calls Try.prog 11 #[ptr d.pb, qV S lv cv] w fun e w' => e = .returned (.bool true) ∧ Below w.heap.size w w' := by
  obtain ⟨lg, lc, rfl, _, hlg, hlc, _⟩ := owns_block h.q.l hpos
  obtain ⟨ca, cc, rfl⟩ := owns_slice h.q.c
  have hcl : S.cache.length ≤ 1000000 := Nat.le_trans h.is.ok.cache h.is.ok.ops
  have hfew : S.dur.length ≤ 4096 := h.is.ok.few
  have HB : Hid (∀ o n, Below w.heap.size w ((w.alloc o).drewN n)) := fun o n => below_drewN ((Below.refl _ _).alloc (Nat.le_refl _) o) n
  have HI : Hid (∀ o n, Is ((w.alloc o).drewN n) d S) := fun o n => h.is.below (below_drewN ((Below.refl _ _).alloc (Nat.le_refl _) o) n)
  have HC := Lib.hid hlc
  have HH := Lib.hid h
  obtain ⟨z, dur, cache, left, full, off, ops⟩ := S
  clear h hlc
  go_enter Try.func11, Try.ntmps11
  go_wp2_with fail
  go_quiet ((first
    | (go_at_call 13; exact Calls.quiet_of_same (offIs (HI.out _ _)))
    | (go_at_call 16; exact Calls.quiet_of_same (cachedIs (HI.out _ _)))
    | (go_at_call 27; exact Calls.quiet_of_same (opsIs (HI.out _ _)))
    | (go_at_call 28; exact Calls.quiet_of_same (sectorsIs (HI.out _ _)))
    | (go_at_call 29; exact Calls.quiet_of_same (sizeIs (HI.out _ _)))))
  go_wp2_with fail
  have HS : Hid (∀ n, Both ((w.alloc (.cells #[.int .i64 z, .slice (some ⟨lg, 0, none⟩) dur.length lc, .slice ca cache.length cc, .int .i64 left, .bool off, .bool full, .int .i64 ops] qT)).drewN n) d B (.slice (some ⟨lg, 0, none⟩) dur.length lc) (.slice ca cache.length cc) ⟨z, dur, cache, left, full, off, ops⟩ ∧
      Lies ((w.alloc (.cells #[.int .i64 z, .slice (some ⟨lg, 0, none⟩) dur.length lc, .slice ca cache.length cc, .int .i64 left, .bool off, .bool full, .int .i64 ops] qT)).drewN n) w.heap.size #[.int .i64 z, .slice (some ⟨lg, 0, none⟩) dur.length lc, .slice ca cache.length cc, .int .i64 left, .bool off, .bool full, .int .i64 ops] qT) := fun n =>
    ⟨HH.out.below (HB.out _ n), (Lies.new w _ _).drewN n⟩
  generalize hW0 : World.drewN _ nq = W0
  have HS0 : Hid (Both W0 d B (.slice (some ⟨lg, 0, none⟩) dur.length lc) (.slice ca cache.length cc) ⟨z, dur, cache, left, full, off, ops⟩ ∧ Lies W0 w.heap.size #[.int .i64 z, .slice (some ⟨lg, 0, none⟩) dur.length lc, .slice ca cache.length cc, .int .i64 left, .bool off, .bool full, .int .i64 ops] qT ∧ Below w.heap.size w W0) := by
    rw [← hW0]
    exact ⟨(HS.out nq).1, (HS.out nq).2, HB.out _ nq⟩
  clear hW0
  go_loopw [5] (fun i wr => ∃ k : Nat, k ≤ dur.length ∧ k ≤ 12 ∧ i = .int .i64 k ∧ Both wr d B (.slice (some ⟨lg, 0, none⟩) dur.length lc) (.slice ca cache.length cc) ⟨z, dur, cache, left, full, off, ops⟩ ∧ Lies wr w.heap.size #[.int .i64 z, .slice (some ⟨lg, 0, none⟩) dur.length lc, .slice ca cache.length cc, .int .i64 left, .bool off, .bool full, .int .i64 ops] qT ∧ Below w.heap.size w wr) (fun i _ => dur.length - (intOf i).toNat)
  case atStart => exact ⟨0, Nat.zero_le _, by omega, rfl, HS0.out⟩
  case round =>
    obtain ⟨k, hk, hk12, rfl, hB, hL, hW⟩ := hrel
    have HR := Lib.hid (And.intro hB (And.intro hL hW))
    have q1 : wr.cell? ⟨w.heap.size, 1, none⟩ = some (.slice (some ⟨lg, 0, none⟩) dur.length lc) := hL.cell 1
    clear hB hL hW
    by_cases hlt : k < dur.length ∧ k < 12
    · have h1 := hlt.1
      have h2 := hlt.2
      obtain ⟨lg2, lc2, he, _, _, hcs, _⟩ := owns_block HR.out.1.q.l (show 0 < dur.length by omega)
      obtain ⟨he2, -, -⟩ := Value.slice.inj he
      obtain rfl : lg = lg2 := by simpa using he2
      have kc : wr.cell? ⟨lg, k, none⟩ = some (.string (at0 dur k)) := hcs _ _ (by rw [List.getElem?_map, List.getElem?_eq_getElem h1]; unfold at0; rw [List.getD_eq_getElem?_getD, List.getElem?_eq_getElem h1]; rfl)
      have HD : Hid (∀ n, Calls Try.prog 15 #[ptr d.pb, .int .i64 k] (wr.drewN n) fun e w' => e = .returned (.string (at0 dur k)) ∧ w' = wr.drewN n) := fun n => durableIs (HR.out.1.is.below (below_drewN (Below.refl _ _) n)) k h1
      have HN : Hid (∀ n, Both (wr.drewN n) d B (.slice (some ⟨lg, 0, none⟩) dur.length lc) (.slice ca cache.length cc) ⟨z, dur, cache, left, full, off, ops⟩ ∧ Lies (wr.drewN n) w.heap.size #[.int .i64 z, .slice (some ⟨lg, 0, none⟩) dur.length lc, .slice ca cache.length cc, .int .i64 left, .bool off, .bool full, .int .i64 ops] qT ∧ Below w.heap.size w (wr.drewN n)) := fun n =>
        ⟨HR.out.1.below (below_drewN (Below.refl _ _) n), HR.out.2.1.drewN n, below_drewN HR.out.2.2 n⟩
      have hi0 : (0 : Int) ≤ (k : Int) := by omega
      have hi1 : (k : Int) < (dur.length : Int) := by omega
      generalize at0 dur k = x at kc HD
      clear hlt he he2 hcs
      go_wp2_with fail
      go_quiet ((go_at_call 15; exact Calls.quiet_of_same (HD.out _)))
      go_wp2_with fail
      go_roundw
      case rel => exact ⟨k + 1, by omega, by omega, by simp, HN.out _⟩
      case measure => simp [intOf]; omega
    · have HD := Lib.hid (durableNo HR.out.1.is)
      rcases (show ¬ k < dur.length ∨ (k < dur.length ∧ ¬ k < 12) by omega) with hg | ⟨hg, hg2⟩
      all_goals
        clear hlt
        go_wp2_with fail
        refine HD.out.mono ?_
        rintro e w' ⟨rfl, rfl⟩
        go_wp2_with fail
        go_ret
        exact ⟨rfl, HR.out.2.2⟩
end
end Go.Proofs.Ytebiebbbkdbffaa.Disk
