/-
  The law MacKeys, walked.
-/
import Derived.Test.YtnndifkilcommaaDoorMacWorks
import Derived.Laws.MakeOwn
namespace Go.Proofs.YtnndifkilcommaaDoor
open Go.RowKit Sha Mac

/- 'make([]byte, n)', and as a string. -/
theorem made_row (n : Nat) : madeCells #[.int .u8 0] n = rowOf .u8 n fun _ => 0 := by
  apply Array.ext_getElem?
  intro j
  by_cases h : j < n
  · rw [rowOf_get _ _ _ h, Array.getElem?_eq_getElem (by rw [size_madeCells]; exact h)]
    unfold madeCells
    simp [Nat.mod_one]
  · rw [Array.getElem?_eq_none (by rw [size_madeCells]; omega), Array.getElem?_eq_none (by rw [rowOf_size]; omega)]
theorem make_bytes (n : Nat) (hn : n ≤ 1000) (W : World) : (Instr.makeSlice 30 (.int .i64 n) (.int .i64 n)).run Tryd.prog W = .ok (.slice (some ⟨W.heap.size, 0, none⟩) n n) (W.alloc (.cells (rowOf .u8 n fun _ => 0) 5)) := by
  cases hq : Tryd.prog.info? 5 with
  | none => have := info5; rw [hq] at this; cases this
  | some i =>
    have hi5 := info5
    rw [hq] at hi5
    have hz : i.zero = some (.int .u8 0) ∧ i.size = 1 ∧ i.bytes = 1 := by simpa using hi5
    obtain ⟨hz, hs, hb⟩ := hz
    have h := run_make (P := Tryd.prog) W 30 5 i (.int .u8 0) Tryd.underlying30 hq hz .i64 .i64 n n (by omega) (by omega) (by rw [hb]; omega) (by omega)
    rw [h, hs, Int.toNat_natCast, Nat.mul_one]
    show Result.ok _ (W.alloc (.cells (madeCells #[.int .u8 0] n) 5)) = _
    rw [made_row]
theorem zeros_str (n : Nat) (W : World) : (convert 30 9 (.slice (some ⟨W.heap.size, 0, none⟩) n n)).run Tryd.prog (W.alloc (.cells (rowOf .u8 n fun _ => 0) 5)) = .ok (.string (ba (List.replicate n 0))) (W.alloc (.cells (rowOf .u8 n fun _ => 0) 5)) := by
  have h := conv_row (W.alloc (.cells (rowOf .u8 n fun _ => 0) 5)) W.heap.size n (fun _ => 0) 5 (Holds.new _ _ _)
  have e : ((List.range n).map fun _ => byt 0) = List.replicate n 0 := by
    apply List.ext_getElem?
    intro j
    by_cases hj : j < n
    · simp [hj]; rfl
    · simp [hj]
  rw [e] at h
  exact h
theorem sum_zeros (key s : ByteArray) (n : Nat) (w : World) (h1 : n + key.size ≤ 64) (h2 : s.size ≤ 200) (ht : Tab w) :
    Calls Tryd.prog 9 #[.string (key ++ ba (List.replicate n 0)), .string s] w fun e w' => e = .returned (.string (ba (hmac (bl key) (bl s)))) ∧ Below w.heap.size w w' := by
  have hz : (key ++ ba (List.replicate n 0)).size ≤ 64 := by rw [ByteArray.size_append, ba_size (List.replicate n 0), List.length_replicate]; omega
  have h := macSum_any (key ++ ba (List.replicate n 0)) s w (by omega) (by omega) ht
  have e : bl (key ++ ba (List.replicate n 0)) = bl key ++ List.replicate n 0 := by
    show (key ++ ba (List.replicate n 0)).data.toList = _
    rw [ByteArray.data_append]
    simp
  rw [e, hmac_zeros _ _ _ (by rw [bl_len]; omega)] at h
  exact h
theorem fits_self (key s : ByteArray) (k : Nat) (w : World) (h1 : 1 ≤ k) (h2 : k ≤ 32) (hk : key.size ≤ 100000) (hs : s.size ≤ 100000) (ht : Tab w) :
    Calls Tryd.prog 10 #[.string key, .string s, .string ((ba (hmac (bl key) (bl s))).extract 0 k)] w fun e w' => e = .returned (.bool true) ∧ Below w.heap.size w w' := by
  have hz : (ba (hmac (bl key) (bl s))).size = 32 := (ba_size _).trans (hmac_len _ _)
  have hx : ((ba (hmac (bl key) (bl s))).extract 0 k).size = k := by rw [ByteArray.size_extract, hz]; omega
  have h := fits_any key s ((ba (hmac (bl key) (bl s))).extract 0 k) w (by omega) (by omega) hk hs ht
  rw [hx, beq_self_eq_true] at h
  exact h
def KeysAt (w : World) (i : Value) (wr : World) : Prop := ∃ k : Nat, 1 ≤ k ∧ k ≤ 33 ∧ i = .int .i64 k ∧ Below w.heap.size w wr
set_option maxRecDepth 100000 in
set_option maxHeartbeats 400000 in
theorem macKeys_most (key s : ByteArray) (n : Nat) (w : World) (h1 : key.size ≤ 64) (h2 : s.size ≤ 200) (h3 : n + key.size ≤ 64) (ht : Tab w) :
    Calls Tryd.prog 5 #[.string key, .string s, .int .i64 n] w fun e w' => e = .returned (.bool true) ∧ Below w.heap.size w w' := by
  have HT := Lib.hid ht
  clear ht
  have d1 : decide ((64 : Int) < (key.size : Int)) = false := by simp; omega
  have d2 : decide ((200 : Int) < (s.size : Int)) = false := by simp; omega
  have d3 : decide ((n : Int) < 0) = false := by simp
  have d4 : decide (64 - (key.size : Int) < (n : Int)) = false := by simp; omega
  have HB : Hid (Below w.heap.size w w) := Below.refl _ _
  have HM := Lib.hid (fun w => macSum_any key s w (by omega) (by omega))
  have HK := Lib.hid (fun w => sum_zeros key s n w h3 h2)
  have HF := Lib.hid (fun k w h1 h2 => fits_self key s k w h1 h2 (by omega) (by omega))
  have HE := Lib.hid (fun w => fits_out key s ⟨#[]⟩ w (Or.inl (by decide)))
  have hz : (ba (hmac (bl key) (bl s))).size = 32 := (ba_size _).trans (hmac_len _ _)
  have HL := Lib.hid (fun w => fits_out key s (ba (hmac (bl key) (bl s)) ++ ⟨#[97]⟩) w (Or.inr (by rw [ByteArray.size_append, hz]; decide)))
  generalize ba (hmac (bl key) (bl s)) = H at HM HK HF HL hz
  have hmk := make_bytes n (by omega)
  have hcv := zeros_str n
  have hZ : (ba (List.replicate n 0)).size = n := by rw [ba_size, List.length_replicate]
  generalize ba (List.replicate n 0) = Z at HK hcv hZ
  go_enter Tryd.func5, Tryd.ntmps5
  go_wp2_with fail
  refine (works_any _ (HT.out.next HB.out)).mono ?_
  rintro e w1 ⟨rfl, hb1⟩
  have HB := Lib.hid (HB.out.trans (hb1.mono HB.out.size))
  clear hb1
  go_wp2_with fail
  refine (HM.out _ (HT.out.next HB.out)).mono ?_
  rintro e w2 ⟨rfl, hb2⟩
  have HB := Lib.hid (HB.out.trans (hb2.mono HB.out.size))
  clear hb2
  go_wp2_with fail
  have HB := Lib.hid (HB.out.alloc HB.out.size (.cells (rowOf .u8 n fun _ => 0) 5))
  refine (HK.out _ (HT.out.next HB.out)).mono ?_
  rintro e w3 ⟨rfl, hb3⟩
  have HB := Lib.hid (HB.out.trans (hb3.mono HB.out.size))
  clear hb3 hmk hcv HK HM
  have HI : Hid (KeysAt w (.int .i64 1) w3) := ⟨1, by omega, by omega, rfl, HB.out⟩
  go_wp2_with fail
  go_loopw [8] (fun i wr => KeysAt w i wr) (fun i _ => 33 - (intOf i).toNat)
  case atStart => exact HI.out
  case round =>
    clear HI HB
    obtain ⟨k, hk1, hk2, rfl, hB⟩ := hrel
    by_cases hk : k ≤ 32
    · have HB := Lib.hid hB
      clear hB
      go_wp2_with fail
      refine (HF.out k _ hk1 hk (HT.out.next HB.out)).mono ?_
      rintro e w4 ⟨rfl, hb4⟩
      have HB := Lib.hid (HB.out.trans (hb4.mono HB.out.size))
      clear hb4
      go_wp2_with fail
      go_roundw
      case rel => exact ⟨k + 1, by omega, by omega, by go_num, HB.out⟩
      case measure => simp [intOf]; omega
    · have HB := Lib.hid hB
      clear hB
      go_wp2_with fail
      refine (HE.out _).mono ?_
      rintro e w4 ⟨rfl, hb4⟩
      have HB := Lib.hid (HB.out.trans (hb4.mono HB.out.size))
      clear hb4
      go_wp2_with fail
      refine (HL.out _).mono ?_
      rintro e w5 ⟨rfl, hb5⟩
      have HB := Lib.hid (HB.out.trans (hb5.mono HB.out.size))
      clear hb5
      go_wp2
      go_ret
      exact ⟨rfl, HB.out⟩
set_option maxHeartbeats 400000 in
theorem macKeys_any (key s : ByteArray) (n : Int) (w : World) (_hk : key.size ≤ 9223372036854775807) (_hs : s.size ≤ 9223372036854775807) (_hn : -9223372036854775808 ≤ n) (_hn2 : n ≤ 9223372036854775807) (ht : Tab w) :
    Calls Tryd.prog 5 #[.string key, .string s, .int .i64 n] w fun e w' => e = .returned (.bool true) ∧ Below w.heap.size w w' := by
  have HB : Hid (Below w.heap.size w w) := Below.refl _ _
  by_cases h1 : key.size ≤ 64
  · have d1 : decide ((64 : Int) < (key.size : Int)) = false := by simp; omega
    by_cases h2 : s.size ≤ 200
    · have d2 : decide ((200 : Int) < (s.size : Int)) = false := by simp; omega
      by_cases h3 : n < 0
      · have d3 : decide (n < 0) = true := by simp; omega
        have HT := Lib.hid ht
        clear ht
        go_enter Tryd.func5, Tryd.ntmps5
        go_wp2_with fail
        refine (works_any _ (HT.out.next HB.out)).mono ?_
        rintro e w1 ⟨rfl, hb1⟩
        have HB := Lib.hid (HB.out.trans (hb1.mono HB.out.size))
        clear hb1
        go_wp2
        go_ret
        exact ⟨rfl, HB.out⟩
      · obtain ⟨m, rfl⟩ : ∃ m : Nat, n = m := ⟨n.toNat, by omega⟩
        by_cases h4 : m + key.size ≤ 64
        · exact macKeys_most key s m w h1 h2 h4 ht
        · have d3 : decide ((m : Int) < 0) = false := by simp
          have d4 : decide (64 - (key.size : Int) < (m : Int)) = true := by simp; omega
          have HT := Lib.hid ht
          clear ht
          go_enter Tryd.func5, Tryd.ntmps5
          go_wp2_with fail
          refine (works_any _ (HT.out.next HB.out)).mono ?_
          rintro e w1 ⟨rfl, hb1⟩
          have HB := Lib.hid (HB.out.trans (hb1.mono HB.out.size))
          clear hb1
          go_wp2
          go_ret
          exact ⟨rfl, HB.out⟩
    · have d2 : decide ((200 : Int) < (s.size : Int)) = true := by simp; omega
      have HT := Lib.hid ht
      clear ht
      go_enter Tryd.func5, Tryd.ntmps5
      go_wp2_with fail
      refine (works_any _ (HT.out.next HB.out)).mono ?_
      rintro e w1 ⟨rfl, hb1⟩
      have HB := Lib.hid (HB.out.trans (hb1.mono HB.out.size))
      clear hb1
      go_wp2
      go_ret
      exact ⟨rfl, HB.out⟩
  · have d1 : decide ((64 : Int) < (key.size : Int)) = true := by simp; omega
    have HT := Lib.hid ht
    clear ht
    go_enter Tryd.func5, Tryd.ntmps5
    go_wp2_with fail
    refine (works_any _ (HT.out.next HB.out)).mono ?_
    rintro e w1 ⟨rfl, hb1⟩
    have HB := Lib.hid (HB.out.trans (hb1.mono HB.out.size))
    clear hb1
    go_wp2
    go_ret
    exact ⟨rfl, HB.out⟩
end Go.Proofs.YtnndifkilcommaaDoor
