/-
  The document's roots are the listed words and constants.
-/
import Derived.Test.YtkoidcepamgidaaDoorRootB
import Derived.Test.YtkoidcepamgidaaDoorRootC
import Derived.Test.YtkoidcepamgidaaDoorWalkC
namespace Go.Proofs.YtkoidcepamgidaaDoor
open Go.RowKit

theorem roots_k : ∀ i, i < 64 → rootF (pAt i) true = kAt i := by decide +kernel
theorem roots_v : ∀ i, i < 8 → rootF (pAt i) false = stAt initSt i := by decide +kernel
theorem root_k (i : Nat) (w : World) (h : i < 64) : Calls Tryd.prog 19 #[.int .u64 (pAt i), .bool true] w fun e w' => e = .returned (.int .u32 (kAt i)) ∧ w = w' := by
  obtain ⟨⟨_, h2⟩, _⟩ := pAt_ok i h
  have := root_any (pAt i) true w (by omega)
  rw [roots_k i h] at this
  exact this
theorem root_v (i : Nat) (w : World) (h : i < 8) : Calls Tryd.prog 19 #[.int .u64 (pAt i), .bool false] w fun e w' => e = .returned (.int .u32 (stAt initSt i)) ∧ w = w' := by
  obtain ⟨⟨_, h2⟩, _⟩ := pAt_ok i (by omega)
  have := root_any (pAt i) false w (by omega)
  rw [roots_v i h] at this
  exact this
theorem root_kv (i : Nat) (c : Bool) (w : World) (h : i < 8) : Calls Tryd.prog 19 #[.int .u64 (pAt i), .bool c] w fun e w' => e = .returned (.int .u32 ((cond c (kAt i) (stAt initSt i) : Nat) : Int)) ∧ w = w' := by
  cases c
  · exact root_v i w h
  · exact root_k i w (by omega)
/-- A new row, filled at once. -/
theorem Holds.laid (w : World) (cs cs' : Array Value) (t : TypeId) : Holds ((w.alloc (.cells cs t)).setRow w.heap.size cs') w.heap.size cs' t := (Holds.new w cs t).row cs'
theorem below_laid (w : World) (cs cs' : Array Value) (t : TypeId) : Below w.heap.size w ((w.alloc (.cells cs t)).setRow w.heap.size cs') := below_row ((Below.refl _ _).alloc (Nat.le_refl _) _) _ _ (Nat.le_refl _)
def RootsAt (A B : Nat) (w : World) (i : Value) (wr : World) : Prop :=
  ∃ k : Nat, k ≤ 64 ∧ i = .int .i64 k ∧ Holds wr A (rowOf .u32 8 (stAt initSt)) 34 ∧ Holds wr B (rowOf .u32 64 kAt) 36 ∧ Below w.heap.size w wr
theorem RootsAt.drewN {A B : Nat} {w wr : World} {k : Nat} (hk : k ≤ 64) (h1 : Holds wr A (rowOf .u32 8 (stAt initSt)) 34) (h2 : Holds wr B (rowOf .u32 64 kAt) 36) (h3 : Below w.heap.size w wr) (n : Nat) : RootsAt A B w (.int .i64 (k : Int)) (wr.drewN n) :=
  ⟨k, hk, rfl, h1.drewN n, h2.drewN n, below_drewN h3 n⟩

set_option maxRecDepth 100000 in
set_option maxHeartbeats 1000000 in
theorem byRoots_any (w : World) : Calls Tryd.prog 9 #[] w fun e w' => e = .returned (.bool true) ∧ Below w.heap.size w w' := by
  go_enter Tryd.func9, Tryd.ntmps9
  go_wp2_with fail
  refine (begin_any _).mono ?_
  rintro e W1 ⟨rfl, hb1⟩
  go_wp2_with (first | (refine wpList_store_row rfl 34 (.tmp 1) (.tmp 4) rfl _ (rowOf .u32 8 (stAt initSt)) rfl rfl 34 _ (heap_alloc_new _ _) (rsize34 _ _) (by rw [rowOf_size]; rfl) (rowOf_one _ _ _) ?_) | fail)
  have hA := Holds.laid W1 (rowOf .u32 8 fun _ => 0) (rowOf .u32 8 (stAt initSt)) 34
  have hB := hb1.trans ((below_laid W1 (rowOf .u32 8 fun _ => 0) (rowOf .u32 8 (stAt initSt)) 34).mono hb1.size)
  have hz : ((W1.alloc (.cells (rowOf .u32 8 fun _ => 0) 34)).setRow W1.heap.size (rowOf .u32 8 (stAt initSt))).heap.size = W1.heap.size + 1 := by simp
  generalize hw5 : World.setRow _ _ _ = w5
  have hA : Holds w5 W1.heap.size (rowOf .u32 8 (stAt initSt)) 34 := by rw [← hw5]; exact hA
  have hB : Below w.heap.size w w5 := by rw [← hw5]; exact hB
  have hz : w5.heap.size = W1.heap.size + 1 := by rw [← hw5]; exact hz
  clear hw5
  obtain ⟨A, hAe⟩ : ∃ A, W1.heap.size = A := ⟨_, rfl⟩
  rw [hAe] at hA hz ⊢
  have hs1 := hb1.size
  rw [hAe] at hs1
  clear hAe hb1
  refine (constants_any _).mono ?_
  rintro e W2 ⟨rfl, hb2⟩
  go_wp2_with (first | (refine wpList_store_row rfl 36 (.tmp 2) (.tmp 5) rfl _ (rowOf .u32 64 kAt) rfl rfl 36 _ (heap_alloc_new _ _) (rsize36 _ _) (by rw [rowOf_size]; rfl) (rowOf_one _ _ _) ?_))
  have hs2 := hb2.size
  have hA2 : Holds ((W2.alloc (.cells (rowOf .u32 64 fun _ => 0) 36)).setRow W2.heap.size (rowOf .u32 64 kAt)) A (rowOf .u32 8 (stAt initSt)) 34 := (hA.below hb2 (by omega)).below (below_laid W2 _ _ 36) (by omega)
  have hC2 := Holds.laid W2 (rowOf .u32 64 fun _ => 0) (rowOf .u32 64 kAt) 36
  have hB1 := hB.trans (hb2.mono hB.size)
  have hB2 := hB1.trans ((below_laid W2 (rowOf .u32 64 fun _ => 0) (rowOf .u32 64 kAt) 36).mono hB1.size)
  generalize hw6 : World.setRow _ _ _ = w6
  have HI : Hid (RootsAt A W2.heap.size w (.int .i64 0) w6) := by
    rw [← hw6]
    exact ⟨0, by omega, rfl, hA2, hC2, hB2⟩
  clear hw6 hA2 hC2 hB1 hB2 hA hB hb2 hs2 hs1 hz
  generalize W2.heap.size = B at HI ⊢
  go_loopw [3] (fun i wr => RootsAt A B w i wr) (fun i _ => 64 - (intOf i).toNat)
  case atStart => exact HI.out
  case round =>
    clear HI
    obtain ⟨k, hk, rfl, hA, hC, hB⟩ := hrel
    by_cases hk8 : k < 64
    · have cC := hC.num hk8
      have hk2 : (k : Int) < 64 := by omega
      have hP := fun W => prime_any k W hk8
      have HN := Lib.hid (fun n => RootsAt.drewN (w := w) (by omega : k + 1 ≤ 64) hA hC hB n)
      by_cases hk7 : k < 8
      · have cA := hA.num hk7
        have hR := fun W c => root_kv k c W hk7
        have d8 : decide ((k : Int) < 8) = true := by simp; omega
        clear hA hC hB
        generalize pAt k = p at hP hR
        generalize kAt k = x at cC hR
        generalize stAt initSt k = y at cA hR
        go_wp2
        go_quiet ((first | (go_at_call 20; exact Calls.quiet_of_same (same_sym (hP _))) | (go_at_call 19; exact Calls.quiet_of_same (same_sym (hR _ _)))))
        go_wp2
        go_roundw
        case rel => exact HN.out _
        case measure => simp [intOf]; omega
      · have d8 : decide ((k : Int) < 8) = false := by simp; omega
        have hR := fun W => root_k k W hk8
        clear hA hC hB
        generalize pAt k = p at hP hR
        generalize kAt k = x at cC hR
        go_wp2
        go_quiet ((first | (go_at_call 20; exact Calls.quiet_of_same (same_sym (hP _))) | (go_at_call 19; exact Calls.quiet_of_same (same_sym (hR _)))))
        go_wp2
        go_roundw
        case rel => exact HN.out _
        case measure => simp [intOf]; omega
    · have HB := Lib.hid hB
      obtain rfl : k = 64 := by omega
      clear hA hC hB
      go_wp2
      go_ret
      exact ⟨rfl, HB.out⟩
end Go.Proofs.YtkoidcepamgidaaDoor
