/-
  The document's block of a key.
-/
import Derived.Test.YtnndifkilcommaaDoorMacPads
import Derived.Test.YtnndifkilcommaaDoorShaRefSum
namespace Go.Proofs.YtnndifkilcommaaDoor.Mac
open Go.RowKit Sha

/- One byte, just laid. -/
theorem one_laid (w : World) (x : Nat) : (convert 30 9 (.slice (some ⟨w.heap.size, 0, none⟩) 1 1)).run Tryd.prog (w.alloc (.cells #[.int .u8 x] 5)) = .ok (.string (ba [byt x])) (w.alloc (.cells #[.int .u8 x] 5)) := by
  have hN := Holds.new w #[.int .u8 x] 5
  have h := run_convert_bytes_arg (P := Tryd.prog) (w.alloc (.cells #[.int .u8 x] 5)) 30 5 Tryd.underlying30 Tryd.underlying5 w.heap.size 0 1 1 [(x : Int)] rfl (fun i hi => by
    rw [hN.cell]
    match i, hi with
    | 0, _ => rfl) 9 Tryd.underlying9
  rw [h]
  rfl
def BlkAt (k : List UInt8) (b : Nat) (w : World) (o i : Value) (wr : World) : Prop :=
  ∃ j : Nat, j ≤ 64 ∧ i = .int .i64 j ∧ o = .string (ba ((padK k b).take j)) ∧ Below w.heap.size w wr
theorem blk_next (k : List UInt8) (b j : Nat) (hj : j < 64) : ba ((padK k b).take j) ++ ba [byt (padN k b j)] = ba ((padK k b).take (j + 1)) := by
  rw [ba_append, List.take_succ_eq_append_getElem (by rw [padK_len]; exact hj)]
  unfold padK
  simp
theorem blk_size (k : List UInt8) (b j : Nat) : (ba ((padK k b).take j)).size ≤ 64 := by
  rw [ba_size, List.length_take, padK_len]; omega
theorem blk_done (k : List UInt8) (b : Nat) : ba ((padK k b).take 64) = ba (padK k b) := by rw [List.take_of_length_le (by rw [padK_len]; omega)]
set_option maxRecDepth 100000 in
set_option maxHeartbeats 400000 in
theorem block_short (K : ByteArray) (k : List UInt8) (b : Nat) (w : World) (hb : b < 256) (hs : K.size ≤ 64) (hK : bl K = keyOf k) :
    Calls Tryd.prog 13 #[.string K, .int .u8 b] w fun e w' => e = .returned (.string (ba (padK k b))) ∧ Below w.heap.size w w' := by
  go_enter Tryd.func13, Tryd.ntmps13
  go_wp2
  have HI : Hid (BlkAt k b w (.string ⟨#[]⟩) (.int .i64 0) w) := ⟨0, by omega, rfl, rfl, Below.refl _ _⟩
  go_loopw [5, 6, 7] (fun o i _ wr => BlkAt k b w o i wr) (fun _ i _ _ => 64 - (intOf i).toNat)
  case atStart => exact HI.out
  case round =>
    clear HI
    obtain ⟨j, hj, rfl, rfl, hB⟩ := hrel
    by_cases hj8 : j < 64
    · have HN := Lib.hid (blk_next k b j hj8)
      have ho := blk_size k b j
      have hl := padN_lt k b j hb
      have HB := Lib.hid hB
      have hj2 : (j : Int) < 64 := by omega
      by_cases hjs : j < K.size
      · have HX : Hid (bits .xor .u8 (K[j].toNat : Int) (b : Int) = ((padN k b j : Nat) : Int)) := by
          show _ = _
          rw [← byteAt_str K j hjs, u8_xor_nat _ _ (byteAt_lt8 _ _) hb, hK]; rfl
        have hc := one_laid wr (padN k b j)
        rw [← HX.out] at hc
        clear hB
        generalize ba ((padK k b).take j) = o at HN ho ⊢
        have hz : (ba [byt (padN k b j)]).size = 1 := rfl
        generalize ba [byt (padN k b j)] = x at HN hc hz
        go_wp2
        go_roundw
        case rel => exact ⟨j + 1, by omega, by go_num, by rw [← HN.out], HB.out.alloc HB.out.size _⟩
        case measure => simp [intOf]; omega
      · have HX : Hid (bits .xor .u8 0 (b : Int) = ((padN k b j : Nat) : Int)) := by
          show _ = _
          have := u8_xor_nat (byteAt (bl K) j) b (byteAt_lt8 _ _) hb
          rw [byteAt_out (bl K) j (by rw [bl_len]; omega)] at this
          rw [show (0 : Int) = ((0 : Nat) : Int) from rfl, this]
          unfold padN
          rw [← hK, byteAt_out (bl K) j (by rw [bl_len]; omega)]
        have hc := one_laid wr (padN k b j)
        rw [← HX.out] at hc
        clear hB
        generalize ba ((padK k b).take j) = o at HN ho ⊢
        have hz : (ba [byt (padN k b j)]).size = 1 := rfl
        generalize ba [byt (padN k b j)] = x at HN hc hz
        go_wp2
        go_roundw
        case rel => exact ⟨j + 1, by omega, by go_num, by rw [← HN.out], HB.out.alloc HB.out.size _⟩
        case measure => simp [intOf]; omega
    · obtain rfl : j = 64 := by omega
      have HD := Lib.hid (blk_done k b)
      generalize ba ((padK k b).take 64) = o at HD ⊢
      go_wp2
      go_ret
      exact ⟨by rw [← HD.out]; rfl, hB⟩
set_option maxRecDepth 100000 in
set_option maxHeartbeats 400000 in
theorem block_long (s : ByteArray) (b : Nat) (w : World) (hb : b < 256) (hs : 64 < s.size) (hs2 : s.size ≤ 1000000) :
    Calls Tryd.prog 13 #[.string s, .int .u8 b] w fun e w' => e = .returned (.string (ba (padK (bl s) b))) ∧ Below w.heap.size w w' := by
  have hK : bl (ba (digest (bl s))) = keyOf (bl s) := by rw [bl_ba]; exact (if_pos (by rw [bl_len]; exact hs)).symm
  have hds : (ba (digest (bl s))).size = 32 := by rw [ba_size]; exact digest_len _
  have HC := Lib.hid (fun w => refSum_any s w hs2)
  generalize ba (digest (bl s)) = K at hK hds HC
  generalize bl s = k at hK ⊢
  go_enter Tryd.func13, Tryd.ntmps13
  go_wp2_with fail
  refine (HC.out _).mono ?_
  rintro e w1 ⟨rfl, hb1⟩
  have HI : Hid (BlkAt k b w (.string ⟨#[]⟩) (.int .i64 0) w1) := ⟨0, by omega, rfl, rfl, hb1⟩
  clear hb1 HC
  go_wp2
  go_loopw [5, 6, 7] (fun o i _ wr => BlkAt k b w o i wr) (fun _ i _ _ => 64 - (intOf i).toNat)
  case atStart => exact HI.out
  case round =>
    clear HI
    obtain ⟨j, hj, rfl, rfl, hB⟩ := hrel
    by_cases hj8 : j < 64
    · have HN := Lib.hid (blk_next k b j hj8)
      have ho := blk_size k b j
      have hl := padN_lt k b j hb
      have HB := Lib.hid hB
      have hj2 : (j : Int) < 64 := by omega
      by_cases hjs : j < K.size
      · have HX : Hid (bits .xor .u8 (K[j].toNat : Int) (b : Int) = ((padN k b j : Nat) : Int)) := by
          show _ = _
          rw [← byteAt_str K j hjs, u8_xor_nat _ _ (byteAt_lt8 _ _) hb, hK]; rfl
        have hc := one_laid wr (padN k b j)
        rw [← HX.out] at hc
        clear hB
        generalize ba ((padK k b).take j) = o at HN ho ⊢
        have hz : (ba [byt (padN k b j)]).size = 1 := rfl
        generalize ba [byt (padN k b j)] = x at HN hc hz
        go_wp2
        go_roundw
        case rel => exact ⟨j + 1, by omega, by go_num, by rw [← HN.out], HB.out.alloc HB.out.size _⟩
        case measure => simp [intOf]; omega
      · have HX : Hid (bits .xor .u8 0 (b : Int) = ((padN k b j : Nat) : Int)) := by
          show _ = _
          have := u8_xor_nat (byteAt (bl K) j) b (byteAt_lt8 _ _) hb
          rw [byteAt_out (bl K) j (by rw [bl_len]; omega)] at this
          rw [show (0 : Int) = ((0 : Nat) : Int) from rfl, this]
          unfold padN
          rw [← hK, byteAt_out (bl K) j (by rw [bl_len]; omega)]
        have hc := one_laid wr (padN k b j)
        rw [← HX.out] at hc
        clear hB
        generalize ba ((padK k b).take j) = o at HN ho ⊢
        have hz : (ba [byt (padN k b j)]).size = 1 := rfl
        generalize ba [byt (padN k b j)] = x at HN hc hz
        go_wp2
        go_roundw
        case rel => exact ⟨j + 1, by omega, by go_num, by rw [← HN.out], HB.out.alloc HB.out.size _⟩
        case measure => simp [intOf]; omega
    · obtain rfl : j = 64 := by omega
      have HD := Lib.hid (blk_done k b)
      generalize ba ((padK k b).take 64) = o at HD ⊢
      go_wp2
      go_ret
      exact ⟨by rw [← HD.out]; rfl, hB⟩
theorem block_any (s : ByteArray) (b : Nat) (w : World) (hb : b < 256) (hs2 : s.size ≤ 1000000) :
    Calls Tryd.prog 13 #[.string s, .int .u8 b] w fun e w' => e = .returned (.string (ba (padK (bl s) b))) ∧ Below w.heap.size w w' := by
  by_cases h : s.size ≤ 64
  · exact block_short s (bl s) b w hb h (if_neg (by rw [bl_len]; omega)).symm
  · exact block_long s b w hb (by omega) hs2
theorem block_out (s : ByteArray) (w : World) (hs : s.size ≤ 1000000) :
    Calls Tryd.prog 13 #[.string s, .int .u8 92] w fun e w' => e = .returned (.string (ba (padK (bl s) 92))) ∧ Below w.heap.size w w' := block_any s 92 w (by decide) hs
theorem block_in (s : ByteArray) (w : World) (hs : s.size ≤ 1000000) :
    Calls Tryd.prog 13 #[.string s, .int .u8 54] w fun e w' => e = .returned (.string (ba (padK (bl s) 54))) ∧ Below w.heap.size w w' := block_any s 54 w (by decide) hs
end Go.Proofs.YtnndifkilcommaaDoor.Mac
