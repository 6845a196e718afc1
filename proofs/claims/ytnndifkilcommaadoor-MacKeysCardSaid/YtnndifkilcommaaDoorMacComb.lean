/-
  The bytes of a key's block, each put together with a byte: the program's, the document's.
-/
import Derived.Test.YtnndifkilcommaaDoorMacPads
import Derived.Test.YtnndifkilcommaaDoorShaRefSum
namespace Go.Proofs.YtnndifkilcommaaDoor.Mac
open Go.RowKit Sha

def combF (g : Nat → Nat) (b k : Nat) : Nat → Nat := fun j => if j < k then g j ^^^ b else g j
theorem combF_next (g : Nat → Nat) (b k j : Nat) : upd (combF g b k) k (g k ^^^ b) j = combF g b (k + 1) j := by
  unfold upd combF
  by_cases h : j = k
  · subst h; rw [if_pos rfl, if_pos (by omega)]
  · rw [if_neg h]
    by_cases g' : j < k
    · rw [if_pos g', if_pos (by omega)]
    · rw [if_neg g', if_neg (by omega)]
theorem comb_done (k : List UInt8) (b : Nat) : ((List.range 64).map fun j => byt (combF (byteAt (keyOf k)) b 64 j)) = padK k b := by
  unfold padK
  apply List.map_congr_left
  intro j hj
  unfold combF padN
  rw [if_pos (by simpa using hj)]
def CombAt (g : Nat → Nat) (b : Nat) (w : World) (i : Value) (wr : World) : Prop := ∃ k : Nat, k ≤ 64 ∧ i = .int .i64 k ∧ Holds wr w.heap.size (rowOf .u8 64 (combF g b k)) 33 ∧ Below w.heap.size w wr
theorem comb_start (g : Nat → Nat) (b : Nat) (w : World) : CombAt g b w (.int .i64 0) (w.alloc (.cells (rowOf .u8 64 g) 33)) := by
  refine ⟨0, by omega, rfl, ?_, (Below.refl _ _).alloc (Nat.le_refl _) _⟩
  rw [rowOf_congr (k := .u8) (g := combF g b 0) (g' := g) (fun j _ => if_neg (by omega))]
  exact Holds.new _ _ _
set_option maxRecDepth 100000 in
set_option maxHeartbeats 400000 in
theorem combine_any (k : List UInt8) (b : Nat) (w : World) (hb : b < 256) :
    Calls Tryd.prog 16 #[.agg (rowOf .u8 64 (byteAt (keyOf k))), .int .u8 b] w fun e w' => e = .returned (.string (ba (padK k b))) ∧ Below w.heap.size w w' := by
  have hlt := byteAt_lt8 (keyOf k)
  have HD := Lib.hid (comb_done k b)
  generalize byteAt (keyOf k) = g at hlt HD
  go_enter Tryd.func16, Tryd.ntmps16
  go_wp2
  go_loopw [5, 6] (fun _ i wr => CombAt g b w i wr) (fun _ i _ => 64 - (intOf i).toNat)
  case atStart => exact comb_start g b w
  case round =>
    obtain ⟨k, hk, rfl, HR, HB⟩ := hrel
    by_cases hk8 : k < 64
    · have c0 := HR.num hk8
      have f0 := HR.free k
      have e0 : combF g b k k = g k := by unfold combF; rw [if_neg (by omega)]
      rw [e0] at c0
      have hl := hlt k
      have hs : CombAt g b w (.int .i64 ((k + 1 : Nat) : Int)) (wr.setCell ⟨w.heap.size, k, none⟩ (.int .u8 ((g k ^^^ b : Nat) : Int))) := by
        refine ⟨k + 1, by omega, rfl, ?_, HB.setCell (Nat.le_refl _) _⟩
        rw [← rowOf_congr (k := .u8) (fun j _ => combF_next g b k j)]
        exact HR.set k _
      have HX := Lib.hid (u8_xor_nat (g k) b hl hb)
      have HS := Lib.hid hs
      generalize g k = x at c0 hl HX HS
      have hk2 : (k : Int) < 64 := by omega
      clear hs HR HB e0
      go_wp2
      go_roundw
      case rel => exact (by rw [HX.out]; exact HS.out)
      case measure => simp [intOf]; omega
    · obtain rfl : k = 64 := by omega
      have hc := conv_row wr _ _ _ _ HR
      rw [HD.out] at hc
      have HH := Lib.hid HB
      clear HR HB
      go_wp2
      go_ret
      exact ⟨rfl, HH.out⟩
theorem combine_out (k : List UInt8) (w : World) :
    Calls Tryd.prog 16 #[.agg (rowOf .u8 64 (byteAt (keyOf k))), .int .u8 92] w fun e w' => e = .returned (.string (ba (padK k 92))) ∧ Below w.heap.size w w' := combine_any k 92 w (by decide)
theorem combine_in (k : List UInt8) (w : World) :
    Calls Tryd.prog 16 #[.agg (rowOf .u8 64 (byteAt (keyOf k))), .int .u8 54] w fun e w' => e = .returned (.string (ba (padK k 54))) ∧ Below w.heap.size w w' := combine_any k 54 w (by decide)
end Go.Proofs.YtnndifkilcommaaDoor.Mac
