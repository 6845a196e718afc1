/-
  The bytes of numbers and of words.
-/
import Derived.Test.YtnndifkilcommaaDoorShaWalkB
import Derived.IntWalk
namespace Go.Proofs.YtnndifkilcommaaDoor.Sha
open Go.RowKit

theorem conv_row (w : World) (b n : Nat) (g : Nat → Nat) (t : TypeId) (h : Holds w b (rowOf .u8 n g) t) :
    (convert 30 9 (.slice (some ⟨b, 0, none⟩) n n)).run Tryd.prog w = .ok (.string (ba ((List.range n).map fun j => byt (g j)))) w := by
  have e := run_convert_bytes_arg (P := Tryd.prog) w 30 5 Tryd.underlying30 Tryd.underlying5 b 0 n n ((List.range n).map fun j => (g j : Int)) (by simp) (fun i hi => by
    rw [Nat.zero_add, h.num hi]
    simp [hi]) 9 Tryd.underlying9
  rw [e]
  have : strOfNums ((List.range n).map fun j => (g j : Int)) = ba ((List.range n).map fun j => byt (g j)) := by
    unfold strOfNums ba byt
    simp
  rw [this]

/- The bytes of a number of 64 bits. -/
def lenD (j : Nat) : Nat := match j with | 0 => 72057594037927936 | 1 => 281474976710656 | 2 => 1099511627776 | 3 => 4294967296 | 4 => 16777216 | 5 => 65536 | 6 => 256 | _ => 1
def lenF (n k : Nat) : Nat → Nat := fun j => if j < k then n / lenD j % 256 else 0
theorem lenF_next (n k j : Nat) : upd (lenF n k) k (n / lenD k % 256) j = lenF n (k + 1) j := by
  unfold upd lenF
  by_cases h : j = k
  · subst h; rw [if_pos rfl, if_pos (by omega)]
  · rw [if_neg h]
    by_cases g : j < k
    · rw [if_pos g, if_pos (by omega)]
    · rw [if_neg g, if_neg (by omega)]
theorem byt_mod (n : Nat) : byt (n % 256) = byt n := by
  unfold byt
  apply UInt8.toNat.inj
  simp
theorem len_done (n : Nat) : ((List.range 8).map fun j => byt (lenF n 8 j)) = lenBytes n := by
  show [byt (n / 72057594037927936 % 256), byt (n / 281474976710656 % 256), byt (n / 1099511627776 % 256), byt (n / 4294967296 % 256), byt (n / 16777216 % 256), byt (n / 65536 % 256), byt (n / 256 % 256), byt (n / 1 % 256)] = lenBytes n
  simp only [byt_mod, Nat.div_one]
  rfl
def LenAt (n : Nat) (w : World) (i : Value) (wr : World) : Prop := ∃ k : Nat, k ≤ 8 ∧ i = .int .i64 k ∧ Holds wr w.heap.size (rowOf .u8 8 (lenF n k)) 71 ∧ Below w.heap.size w wr
set_option maxRecDepth 100000 in
set_option maxHeartbeats 400000 in
theorem lengthBytes_any (n : Nat) (w : World) (hn : n < 18446744073709551616) : Calls Tryd.prog 36 #[.int .u64 n] w fun e w' => e = .returned (.string (ba (lenBytes n))) ∧ Below w.heap.size w w' := by
  go_enter Tryd.func36, Tryd.ntmps36
  go_wp2
  go_loopw [4, 5] (fun _ i wr => LenAt n w i wr) (fun _ i _ => 8 - (intOf i).toNat)
  case atStart => exact ⟨0, by omega, rfl, Holds.new _ _ _, (Below.refl _ _).alloc (Nat.le_refl _) _⟩
  case round =>
    obtain ⟨k, hk, rfl, HR, HB⟩ := hrel
    by_cases hk8 : k < 8
    · have c0 := HR.num hk8
      have f0 := HR.free k
      have hs : Holds (wr.setCell ⟨w.heap.size, k, none⟩ (.int .u8 ((n / lenD k % 256 : Nat) : Int))) w.heap.size (rowOf .u8 8 (lenF n (k + 1))) 71 := by
        rw [← rowOf_congr (k := .u8) (fun j _ => lenF_next n k j)]
        exact HR.set k _
      have hb : Below w.heap.size w (wr.setCell ⟨w.heap.size, k, none⟩ (.int .u8 ((n / lenD k % 256 : Nat) : Int))) := HB.setCell (Nat.le_refl _) _
      have HS := Lib.hid (And.intro hs hb)
      clear hs hb HR HB
      obtain rfl | rfl | rfl | rfl | rfl | rfl | rfl | rfl : k = 0 ∨ k = 1 ∨ k = 2 ∨ k = 3 ∨ k = 4 ∨ k = 5 ∨ k = 6 ∨ k = 7 := by omega
      · have e : (n : Int) / 72057594037927936 = ((n / lenD 0 % 256 : Nat) : Int) := by
          show _ = ((n / 72057594037927936 % 256 : Nat) : Int)
          omega
        have HE := Lib.hid e
        clear e
        go_wp2
        go_roundw
        case rel => exact ⟨1, by decide, rfl, by rw [HE.out]; exact HS.out.1, by rw [HE.out]; exact HS.out.2⟩
        case measure => simp [intOf]
      · have e : (n : Int) / 281474976710656 % 256 = ((n / lenD 1 % 256 : Nat) : Int) := by
          show _ = ((n / 281474976710656 % 256 : Nat) : Int)
          omega
        have HE := Lib.hid e
        clear e
        go_wp2
        go_roundw
        case rel => exact ⟨2, by decide, rfl, by rw [HE.out]; exact HS.out.1, by rw [HE.out]; exact HS.out.2⟩
        case measure => simp [intOf]
      · have e : (n : Int) / 1099511627776 % 256 = ((n / lenD 2 % 256 : Nat) : Int) := by
          show _ = ((n / 1099511627776 % 256 : Nat) : Int)
          omega
        have HE := Lib.hid e
        clear e
        go_wp2
        go_roundw
        case rel => exact ⟨3, by decide, rfl, by rw [HE.out]; exact HS.out.1, by rw [HE.out]; exact HS.out.2⟩
        case measure => simp [intOf]
      · have e : (n : Int) / 4294967296 % 256 = ((n / lenD 3 % 256 : Nat) : Int) := by
          show _ = ((n / 4294967296 % 256 : Nat) : Int)
          omega
        have HE := Lib.hid e
        clear e
        go_wp2
        go_roundw
        case rel => exact ⟨4, by decide, rfl, by rw [HE.out]; exact HS.out.1, by rw [HE.out]; exact HS.out.2⟩
        case measure => simp [intOf]
      · have e : (n : Int) / 16777216 % 256 = ((n / lenD 4 % 256 : Nat) : Int) := by
          show _ = ((n / 16777216 % 256 : Nat) : Int)
          omega
        have HE := Lib.hid e
        clear e
        go_wp2
        go_roundw
        case rel => exact ⟨5, by decide, rfl, by rw [HE.out]; exact HS.out.1, by rw [HE.out]; exact HS.out.2⟩
        case measure => simp [intOf]
      · have e : (n : Int) / 65536 % 256 = ((n / lenD 5 % 256 : Nat) : Int) := by
          show _ = ((n / 65536 % 256 : Nat) : Int)
          omega
        have HE := Lib.hid e
        clear e
        go_wp2
        go_roundw
        case rel => exact ⟨6, by decide, rfl, by rw [HE.out]; exact HS.out.1, by rw [HE.out]; exact HS.out.2⟩
        case measure => simp [intOf]
      · have e : (n : Int) / 256 % 256 = ((n / lenD 6 % 256 : Nat) : Int) := by
          show _ = ((n / 256 % 256 : Nat) : Int)
          omega
        have HE := Lib.hid e
        clear e
        go_wp2
        go_roundw
        case rel => exact ⟨7, by decide, rfl, by rw [HE.out]; exact HS.out.1, by rw [HE.out]; exact HS.out.2⟩
        case measure => simp [intOf]
      · have e : (n : Int) % 256 = ((n / lenD 7 % 256 : Nat) : Int) := by
          show _ = ((n / 1 % 256 : Nat) : Int)
          omega
        have HE := Lib.hid e
        clear e
        go_wp2
        go_roundw
        case rel => exact ⟨8, by decide, rfl, by rw [HE.out]; exact HS.out.1, by rw [HE.out]; exact HS.out.2⟩
        case measure => simp [intOf]
    · obtain rfl : k = 8 := by omega
      have hc := conv_row wr _ _ _ _ HR
      rw [len_done] at hc
      have HH := Lib.hid HB
      clear HR HB
      go_wp2
      go_ret
      exact ⟨rfl, HH.out⟩

/- The bytes of eight words. -/
def outD (j : Nat) : Nat := match j with | 0 => 16777216 | 1 => 65536 | 2 => 256 | _ => 1
def outB (v : St) (j : Nat) : Nat := stAt v (j / 4) / outD (j % 4) % 256
def outF (v : St) (k : Nat) : Nat → Nat := fun j => if j < k then outB v j else 0
theorem outF_next (v : St) (k j : Nat) : upd (outF v k) k (outB v k) j = outF v (k + 1) j := by
  unfold upd outF
  by_cases h : j = k
  · subst h; rw [if_pos rfl, if_pos (by omega)]
  · rw [if_neg h]
    by_cases g : j < k
    · rw [if_pos g, if_pos (by omega)]
    · rw [if_neg g, if_neg (by omega)]
theorem out_done (v : St) : ((List.range 32).map fun j => byt (outF v 32 j)) = stBytes v := by
  show [byt (v.a / 16777216 % 256), byt (v.a / 65536 % 256), byt (v.a / 256 % 256), byt (v.a / 1 % 256), byt (v.b / 16777216 % 256), byt (v.b / 65536 % 256), byt (v.b / 256 % 256), byt (v.b / 1 % 256), byt (v.c / 16777216 % 256), byt (v.c / 65536 % 256), byt (v.c / 256 % 256), byt (v.c / 1 % 256), byt (v.d / 16777216 % 256), byt (v.d / 65536 % 256), byt (v.d / 256 % 256), byt (v.d / 1 % 256), byt (v.e / 16777216 % 256), byt (v.e / 65536 % 256), byt (v.e / 256 % 256), byt (v.e / 1 % 256), byt (v.f / 16777216 % 256), byt (v.f / 65536 % 256), byt (v.f / 256 % 256), byt (v.f / 1 % 256), byt (v.g / 16777216 % 256), byt (v.g / 65536 % 256), byt (v.g / 256 % 256), byt (v.g / 1 % 256), byt (v.h / 16777216 % 256), byt (v.h / 65536 % 256), byt (v.h / 256 % 256), byt (v.h / 1 % 256)] = stBytes v
  simp only [byt_mod, Nat.div_one]
  rfl
theorem stAt_lt {v : St} (hv : v.Ok) : ∀ j, stAt v j < 4294967296
  | 0 => hv.a | 1 => hv.b | 2 => hv.c | 3 => hv.d | 4 => hv.e | 5 => hv.f | 6 => hv.g | 7 => hv.h
  | _ + 8 => by show 0 < 4294967296; decide
def OutAt (v : St) (w : World) (i : Value) (wr : World) : Prop := ∃ k : Nat, k ≤ 32 ∧ i = .int .i64 k ∧ Holds wr w.heap.size (rowOf .u32 8 (stAt v)) 37 ∧ Holds wr (w.heap.size + 1) (rowOf .u8 32 (outF v k)) 58 ∧ Below w.heap.size w wr
theorem out_start (v : St) (w : World) : OutAt v w (.int .i64 0) ((w.alloc (.cells (rowOf .u32 8 (stAt v)) 37)).alloc (.cells (rowOf .u8 32 (outF v 0)) 58)) := by
  have s1 : (w.alloc (.cells (rowOf .u32 8 (stAt v)) 37)).heap.size = w.heap.size + 1 := by simp
  refine ⟨0, by omega, rfl, (Holds.new _ _ _).alloc _, ?_, ?_⟩
  · rw [← s1]; exact Holds.new _ _ _
  · exact ((Below.refl _ _).alloc (Nat.le_refl _) _).alloc (by rw [s1]; omega) _
set_option maxRecDepth 100000 in
set_option maxHeartbeats 400000 in
theorem bytesOf_any (v : St) (w : World) (hv : v.Ok) : Calls Tryd.prog 29 #[.agg (rowOf .u32 8 (stAt v))] w fun e w' => e = .returned (.string (ba (stBytes v))) ∧ Below w.heap.size w w' := by
  go_enter Tryd.func29, Tryd.ntmps29
  go_wp2
  go_loopw [4, 5] (fun _ i wr => OutAt v w i wr) (fun _ i _ => 32 - (intOf i).toNat)
  case atStart => exact out_start v w
  case round =>
    obtain ⟨k, hk, rfl, HV, HR, HB⟩ := hrel
    by_cases hk8 : k < 32
    · obtain ⟨q, hq⟩ : ∃ q, k / 4 = q := ⟨_, rfl⟩
      have cv := HV.num (j := q) (by omega)
      have c0 := HR.num hk8
      have f0 := HR.free k
      have hx := stAt_lt hv q
      have hs : OutAt v w (.int .i64 ((k + 1 : Nat) : Int)) (wr.setCell ⟨w.heap.size + 1, k, none⟩ (.int .u8 ((outB v k : Nat) : Int))) := by
        refine ⟨k + 1, by omega, rfl, HV.other _ (by omega), ?_, HB.setCell (p := ⟨w.heap.size + 1, k, none⟩) (by show w.heap.size ≤ w.heap.size + 1; omega) _⟩
        rw [← rowOf_congr (k := .u8) (fun j _ => outF_next v k j)]
        exact HR.set k _
      unfold outB at hs
      rw [hq] at hs
      generalize stAt v q = x at hs hx cv
      have HS := Lib.hid hs
      clear hs HR HB HV
      have hq8 : (q : Int) < 8 := by omega
      have hk2 : (k : Int) < 32 := by omega
      obtain h | h | h | h : k = 4 * q ∨ k = 4 * q + 1 ∨ k = 4 * q + 2 ∨ k = 4 * q + 3 := by omega
      · have hm : k % 4 = 0 := by omega
        rw [hm] at HS
        have e : (x : Int) / 16777216 = ((x / outD 0 % 256 : Nat) : Int) := by
          show _ = ((x / 16777216 % 256 : Nat) : Int)
          omega
        have HE := Lib.hid e
        have w1 : IntKind.i64.wrap ((k : Int) / 4) = (q : Int) := by rw [IntWalk.i64_in _ (by omega)]; omega
        have w2 : (k : Int).tmod 4 = 0 := by rw [Int.tmod_eq_emod_of_nonneg (by omega)]; omega
        have w3 : (k : Int) % 4 = 0 := by omega
        clear e h hq hm
        go_wp2
        go_roundw
        case rel => exact (by rw [HE.out]; exact HS.out)
        case measure => simp [intOf]; omega
      · have hm : k % 4 = 1 := by omega
        rw [hm] at HS
        have e : (x : Int) / 65536 % 256 = ((x / outD 1 % 256 : Nat) : Int) := by
          show _ = ((x / 65536 % 256 : Nat) : Int)
          omega
        have HE := Lib.hid e
        have w1 : IntKind.i64.wrap ((k : Int) / 4) = (q : Int) := by rw [IntWalk.i64_in _ (by omega)]; omega
        have w2 : (k : Int).tmod 4 = 1 := by rw [Int.tmod_eq_emod_of_nonneg (by omega)]; omega
        have w3 : (k : Int) % 4 = 1 := by omega
        clear e h hq hm
        go_wp2
        go_roundw
        case rel => exact (by rw [HE.out]; exact HS.out)
        case measure => simp [intOf]; omega
      · have hm : k % 4 = 2 := by omega
        rw [hm] at HS
        have e : (x : Int) / 256 % 256 = ((x / outD 2 % 256 : Nat) : Int) := by
          show _ = ((x / 256 % 256 : Nat) : Int)
          omega
        have HE := Lib.hid e
        have w1 : IntKind.i64.wrap ((k : Int) / 4) = (q : Int) := by rw [IntWalk.i64_in _ (by omega)]; omega
        have w2 : (k : Int).tmod 4 = 2 := by rw [Int.tmod_eq_emod_of_nonneg (by omega)]; omega
        have w3 : (k : Int) % 4 = 2 := by omega
        clear e h hq hm
        go_wp2
        go_roundw
        case rel => exact (by rw [HE.out]; exact HS.out)
        case measure => simp [intOf]; omega
      · have hm : k % 4 = 3 := by omega
        rw [hm] at HS
        have e : (x : Int) % 256 = ((x / outD 3 % 256 : Nat) : Int) := by
          show _ = ((x / 1 % 256 : Nat) : Int)
          omega
        have HE := Lib.hid e
        have w1 : IntKind.i64.wrap ((k : Int) / 4) = (q : Int) := by rw [IntWalk.i64_in _ (by omega)]; omega
        have w2 : (k : Int).tmod 4 = 3 := by rw [Int.tmod_eq_emod_of_nonneg (by omega)]; omega
        have w3 : (k : Int) % 4 = 3 := by omega
        clear e h hq hm
        go_wp2
        go_roundw
        case rel => exact (by rw [HE.out]; exact HS.out)
        case measure => simp [intOf]; omega
    · obtain rfl : k = 32 := by omega
      have hc := conv_row wr _ _ _ _ HR
      rw [out_done] at hc
      have HH := Lib.hid HB
      clear HR HB HV
      go_wp2
      go_ret
      exact ⟨rfl, HH.out⟩
end Go.Proofs.YtnndifkilcommaaDoor.Sha
