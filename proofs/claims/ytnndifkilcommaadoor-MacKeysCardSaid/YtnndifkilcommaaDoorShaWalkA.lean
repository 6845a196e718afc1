/-
  The schedule.
-/
import Derived.Test.YtnndifkilcommaaDoorShaPlainB
import Derived.StillTailTactics
import Derived.IntWalk
namespace Go.Proofs.YtnndifkilcommaaDoor.Sha
open Go.RowKit

/-- The memory while the schedule is filled. -/
def Sched (b : List UInt8) (f : Nat → Nat) (w wr : World) : Prop :=
  Holds wr w.heap.size (rowOf .u8 64 (byteAt b)) 33 ∧ Holds wr (w.heap.size + 1) (rowOf .u32 64 fun _ => 0) 39 ∧ Holds wr (w.heap.size + 1 + 1) (rowOf .u32 64 f) 39 ∧ Below w.heap.size w wr
theorem Sched.drew {b : List UInt8} {f : Nat → Nat} {w wr : World} (h : Sched b f w wr) : Sched b f w wr.drew := ⟨h.1, h.2.1, h.2.2.1, h.2.2.2.drew⟩
theorem Sched.set {b : List UInt8} {f : Nat → Nat} {w wr : World} (h : Sched b f w wr) (i v : Nat) : Sched b (upd f i v) w (wr.setCell ⟨w.heap.size + 1 + 1, i, none⟩ (.int .u32 v)) :=
  ⟨h.1.other _ (by omega), h.2.1.other _ (by omega), h.2.2.1.set i v, h.2.2.2.setCell (p := ⟨w.heap.size + 1 + 1, i, none⟩) (by show w.heap.size ≤ w.heap.size + 1 + 1; omega) _⟩
theorem Sched.as {b : List UInt8} {f f' : Nat → Nat} {w wr : World} (h : Sched b f w wr) (e : ∀ j, j < 64 → f j = f' j) : Sched b f' w wr := by
  unfold Sched; rw [← rowOf_congr (k := .u32) e]; exact h
theorem sched_start (b : List UInt8) (w : World) : Sched b (fun _ => 0) w (((w.alloc (.cells (rowOf .u8 64 (byteAt b)) 33)).alloc (.cells (rowOf .u32 64 fun _ => 0) 39)).alloc (.cells (rowOf .u32 64 fun _ => 0) 39)) := by
  have s1 : (w.alloc (.cells (rowOf .u8 64 (byteAt b)) 33)).heap.size = w.heap.size + 1 := by simp
  have s2 : ((w.alloc (.cells (rowOf .u8 64 (byteAt b)) 33)).alloc (.cells (rowOf .u32 64 fun _ => 0) 39)).heap.size = w.heap.size + 1 + 1 := by simp
  refine ⟨((Holds.new w _ _).alloc _).alloc _, ?_, ?_, ?_⟩
  · rw [← s1]; exact (Holds.new _ _ _).alloc _
  · rw [← s2]; exact Holds.new _ _ _
  · exact (((Below.refl _ _).alloc (Nat.le_refl _) _).alloc (by simp) _).alloc (by simp; omega) _
theorem fillV_eq (b : List UInt8) (k x : Nat) : bits .or .u32 ((x : Int) * 256 % 4294967296) (byteAt b k : Int) = ((fillV b k x : Nat) : Int) := by
  have := u32_or_nat (x * 256 % 4294967296) (byteAt b k) (Nat.mod_lt _ (by decide)) (by have := byteAt_lt b k; omega)
  have e2 : (x : Int) * 256 % 4294967296 = ((x * 256 % 4294967296 : Nat) : Int) := by simp
  rw [e2, this]; rfl
theorem more_eq (a b c d : Nat) : ((((a : Int) + b) % 4294967296 + c) % 4294967296 + d) % 4294967296 = (((a + b + c + d) % 4294967296 : Nat) : Int) := by omega
theorem same_sym {v : Value} {w : World} {P : Program} {f : FuncId} {args : Array Value} (h : Calls P f args w fun e w' => e = .returned v ∧ w = w') : Calls P f args w fun e w' => e = .returned v ∧ w' = w :=
  h.mono fun _ _ ⟨h1, h2⟩ => ⟨h1, h2.symm⟩
def FillAt (b : List UInt8) (w : World) (i : Value) (wr : World) : Prop := ∃ k : Nat, k ≤ 64 ∧ i = .int .i64 k ∧ Sched b (fillF b k) w wr
def MoreAt (b : List UInt8) (w : World) (i : Value) (wr : World) : Prop := ∃ k : Nat, 16 ≤ k ∧ k ≤ 64 ∧ i = .int .i64 k ∧ Sched b (wUpto b k) w wr

set_option maxRecDepth 100000 in
set_option maxHeartbeats 400000 in
theorem schedule_any (b : List UInt8) (w : World) :
    Calls Tryd.prog 30 #[.agg (rowOf .u8 64 (byteAt b))] w fun e w' => e = .returned (.agg (rowOf .u32 64 (wAt b))) ∧ Below w.heap.size w w' := by
  go_enter Tryd.func30, Tryd.ntmps30
  go_wp2
  go_loopw [4, 6] (fun _ i wr => FillAt b w i wr) (fun _ i _ => 64 - (intOf i).toNat)
  case atStart => exact ⟨0, by omega, rfl, sched_start b w⟩
  case round =>
    obtain ⟨k, hk, rfl, HS⟩ := hrel
    by_cases hk8 : k < 64
    · obtain ⟨q, hq⟩ : ∃ q, k / 4 = q := ⟨_, rfl⟩
      have c1 : wr.drew.cell? ⟨w.heap.size, k, none⟩ = some (.int .u8 (byteAt b k)) := HS.drew.1.num hk8
      have c2 : wr.drew.cell? ⟨w.heap.size + 1 + 1, q, none⟩ = some (.int .u32 (fillF b k q)) := HS.drew.2.2.1.num (j := q) (by omega)
      have f2 : wr.drew.frozen? ⟨w.heap.size + 1 + 1, q, none⟩ = false := HS.drew.2.2.1.free q
      have hw : IntKind.i64.wrap ((k : Int) / 4) = (q : Int) := by rw [IntWalk.i64_in _ (by omega)]; omega
      have hq2 : (q : Int) < 64 := by omega
      have hk2 : (k : Int) < 64 := by omega
      have HH := Lib.hid HS
      have HV := Lib.hid (fillV_eq b k (fillF b k q))
      have HQ := Lib.hid hq
      clear HS hq
      have hb := byteAt_lt b k
      have hx := fillF_lt b k q
      go_wp2
      go_still_tail 13, (by kernel_rfl)
      change wpList _ _ _ _ _ wr.drew
      go_wp2
      go_roundw
      case rel =>
        refine ⟨k + 1, by omega, by go_num, ?_⟩
        rw [HV.out]
        have h := HH.out.drew.set q (fillV b k (fillF b k q))
        show Sched b (upd (fillF b k) (k / 4) (fillV b k (fillF b k (k / 4)))) w _
        rw [HQ.out]
        exact h
      case measure => simp [intOf]; omega
    · have h64 : 64 ≤ k := by omega
      have HH : Hid (Sched b (wUpto b 16) w wr) := by
        have e : k = 64 := by omega
        rw [e] at HS
        exact HS.as (fill_done b)
      clear HS hk8
      go_wp2
      go_loopw [5] (fun i wr => MoreAt b w i wr) (fun i _ => 64 - (intOf i).toNat)
      case atStart => exact ⟨16, by omega, by omega, rfl, HH.out⟩
      case round =>
        clear HH
        obtain ⟨k, h16, hk, rfl, HS⟩ := hrel
        by_cases hk8 : k < 64
        · obtain ⟨p2, e2⟩ : ∃ q, k - 2 = q := ⟨_, rfl⟩
          obtain ⟨p7, e7⟩ : ∃ q, k - 7 = q := ⟨_, rfl⟩
          obtain ⟨p15, e15⟩ : ∃ q, k - 15 = q := ⟨_, rfl⟩
          obtain ⟨p16, e16⟩ : ∃ q, k - 16 = q := ⟨_, rfl⟩
          have HN := Lib.hid (wAt_hi b k h16 hk8)
          rw [e2, e7, e15, e16] at HN
          have c2 : wr.drew.cell? ⟨w.heap.size + 1 + 1, p2, none⟩ = some (.int .u32 (wAt b p2)) := by
            have := HS.drew.2.2.1.num (j := p2) (by omega); rwa [wUpto_at b k p2 (by omega)] at this
          have c7 : wr.drew.cell? ⟨w.heap.size + 1 + 1, p7, none⟩ = some (.int .u32 (wAt b p7)) := by
            have := HS.drew.2.2.1.num (j := p7) (by omega); rwa [wUpto_at b k p7 (by omega)] at this
          have c15 : wr.drew.cell? ⟨w.heap.size + 1 + 1, p15, none⟩ = some (.int .u32 (wAt b p15)) := by
            have := HS.drew.2.2.1.num (j := p15) (by omega); rwa [wUpto_at b k p15 (by omega)] at this
          have c16 : wr.drew.cell? ⟨w.heap.size + 1 + 1, p16, none⟩ = some (.int .u32 (wAt b p16)) := by
            have := HS.drew.2.2.1.num (j := p16) (by omega); rwa [wUpto_at b k p16 (by omega)] at this
          have c0 : wr.drew.cell? ⟨w.heap.size + 1 + 1, k, none⟩ = some (.int .u32 (wUpto b k k)) := HS.drew.2.2.1.num (j := k) hk8
          have f0 : wr.drew.frozen? ⟨w.heap.size + 1 + 1, k, none⟩ = false := HS.drew.2.2.1.free k
          have w2 : IntKind.i64.wrap ((k : Int) - 2) = (p2 : Int) := by rw [IntWalk.i64_in _ (by omega)]; omega
          have w7 : IntKind.i64.wrap ((k : Int) - 7) = (p7 : Int) := by rw [IntWalk.i64_in _ (by omega)]; omega
          have w15 : IntKind.i64.wrap ((k : Int) - 15) = (p15 : Int) := by rw [IntWalk.i64_in _ (by omega)]; omega
          have w16 : IntKind.i64.wrap ((k : Int) - 16) = (p16 : Int) := by rw [IntWalk.i64_in _ (by omega)]; omega
          have i2 : (p2 : Int) < 64 := by omega
          have i7 : (p7 : Int) < 64 := by omega
          have i15 : (p15 : Int) < 64 := by omega
          have i16 : (p16 : Int) < 64 := by omega
          have hk2 : (k : Int) < 64 := by omega
          have HH := Lib.hid HS
          clear HS e2 e7 e15 e16
          have x2 := wAt_lt b p2
          have x15 := wAt_lt b p15
          go_wp2
          refine wp_region_still_tail 23 (by kernel_rfl) (by kernel_rfl) ?_
          simp only [List.take_succ_cons, List.take_zero, List.drop_succ_cons, List.drop_zero]
          repeat (first | still_step | (still_call (same_sym (sL_any _ _ x2))) | (still_call (same_sym (sE_any _ _ x15))))
          refine wpStill_nil ?_
          change wpList _ _ _ _ _ wr.drew
          go_wp2
          go_roundw
          case rel =>
            refine ⟨k + 1, by omega, by omega, by go_num, ?_⟩
            have e : (((sL (wAt b p2) : Nat) : Int) + (wAt b p7 : Nat) + (sE (wAt b p15) : Nat) + (wAt b p16 : Nat)) % 4294967296 = ((wAt b k : Nat) : Int) := by rw [HN.out]; omega
            rw [e]
            exact (HH.out.set k (wAt b k)).drew.as (fun j _ => wUpto_next b k j)
          case measure => simp [intOf]; omega
        · obtain rfl : k = 64 := by omega
          have h1 := HS.2.1
          have h2 := HS.2.2.1
          have hb := HS.2.2.2
          clear HS
          go_wp2_with (first | (refine wpList_load_row rfl 39 _ rfl (w.heap.size + 1 + 1) rfl 39 (rowOf .u32 64 (wUpto b 64)) (0, 0) _ h2 Tryd.underlying39 rfl (rsize36 _ _) ?_) | (refine wpList_store_row rfl 39 _ _ rfl (w.heap.size + 1) (rowOf .u32 64 (wUpto b 64)) rfl rfl 39 _ h1 (rsize36 _ _) (by rw [rowOf_size, rowOf_size]) (rowOf_one _ _ _) ?_))
          refine bodyPost_ret (v := .agg (rowOf .u32 64 (wUpto b 64))) (results_cell_row Tryd.results30 _ _ (w.heap.size + 1) 39 _ (0, 0) _ rfl (h1.row _) Tryd.underlying39 rfl (rsize36 _ _)) rfl ⟨?_, below_row hb _ _ (by omega)⟩
          rw [rowOf_congr (fun j hj => wUpto_at b 64 j hj)]
end Go.Proofs.YtnndifkilcommaaDoor.Sha
