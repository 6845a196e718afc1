/-
  Walks: escape, Byte, first; the document's Digit, Byte.
-/
import Derived.Test.YtobnckbpgckgjaaDoorQpSigns
import Derived.Test.YtobnckbpgckgjaaDoorShaKept
namespace Go.Proofs.YtobnckbpgckgjaaDoor.Qp
open Go Go.RowKit
open Go.Proofs.YtobnckbpgckgjaaDoor.Head

/-! Escapes. -/
abbrev hexB : ByteArray := ⟨#[48, 49, 50, 51, 52, 53, 54, 55, 56, 57, 65, 66, 67, 68, 69, 70]⟩
theorem hex_at : ∀ k : Nat, (h : k < 16) → hexB[k]'(by have : hexB.size = 16 := rfl; omega) = hexN k := by decide +kernel
theorem hex_run (k : Nat) (h : k < 16) (W : World) : (Instr.index 9 (.string hexB) (.int .u8 k)).run Tryd.prog W = .ok (.int .u8 (hexN k).toNat) W := by
  have hz : hexB.size = 16 := rfl
  rw [run_index_string W 9 hexB .u8 k Tryd.underlying9, dif_pos ⟨by omega, by omega⟩]
  have e := hex_at k h
  rw [← e]
  rfl
theorem nat_byte (x : UInt8) : UInt8.ofNat ((x.toNat : Int)).toNat = x := by
  rw [← UInt8.toNat_inj]
  simp
theorem or16 (a b : Nat) (ha : a < 16) (hb : b < 16) : bits .or .u8 ((a : Int) * 16) (b : Int) = ((16 * a + b : Nat) : Int) := by
  have : (List.range 256).all (fun n => bits .or .u8 (((n / 16 : Nat) : Int) * 16) ((n % 16 : Nat) : Int) == ((16 * (n / 16) + n % 16 : Nat) : Int)) = true := by decide +kernel
  have := all256 this (16 * a + b) (by omega)
  rw [show (16 * a + b) / 16 = a by omega, show (16 * a + b) % 16 = b by omega] at this
  simpa using this
/-- Bytes that the call laid down, as a text. -/
theorem conv2 (W : World) (b : Nat) (x y : UInt8) (h0 : W.cell? ⟨b, 0, none⟩ = some (.int .u8 x.toNat)) (h1 : W.cell? ⟨b, 1, none⟩ = some (.int .u8 y.toNat)) : (convert 35 9 (.slice (some ⟨b, 0, none⟩) 2 2)).run Tryd.prog W = .ok (.string (ba [x, y])) W := by
  rw [run_convert_bytes_arg (P := Tryd.prog) W 35 5 Tryd.underlying35 Tryd.underlying5 b 0 2 2 [(x.toNat : Int), (y.toNat : Int)] rfl (fun i hi => by
    match i, hi with
    | 0, _ => exact h0
    | 1, _ => exact h1) 9 Tryd.underlying9]
  unfold strOfNums
  simp only [List.map_cons, List.map_nil, nat_byte]
theorem conv1 (W : World) (b : Nat) (x : UInt8) (h0 : W.cell? ⟨b, 0, none⟩ = some (.int .u8 x.toNat)) : (convert 35 9 (.slice (some ⟨b, 0, none⟩) 1 1)).run Tryd.prog W = .ok (.string (ba [x])) W := by
  rw [run_convert_bytes_arg (P := Tryd.prog) W 35 5 Tryd.underlying35 Tryd.underlying5 b 0 1 1 [(x.toNat : Int)] rfl (fun i hi => by
    match i, hi with
    | 0, _ => exact h0) 9 Tryd.underlying9]
  unfold strOfNums
  simp only [List.map_cons, List.map_nil, nat_byte]
set_option maxRecDepth 100000 in
set_option maxHeartbeats 2000000 in
theorem escape_any (c : UInt8) (w : World) :
    Calls Tryd.prog 30 #[.int .u8 c.toNat] w fun e w' => e = .returned (.string (ba (esc c))) ∧ Below w.heap.size w w' := by
  have h8 := c.toNat_lt
  have r1 : ∀ W, (Instr.index 9 (.string hexB) (.int .u8 ((c.toNat : Int) / 16))).run Tryd.prog W = .ok (.int .u8 (hexN (c.toNat / 16)).toNat) W := fun W => hex_run (c.toNat / 16) (by omega) W
  have r2 : ∀ W, (Instr.index 9 (.string hexB) (.int .u8 ((c.toNat : Int) % 16))).run Tryd.prog W = .ok (.int .u8 (hexN (c.toNat % 16)).toNat) W := fun W => hex_run (c.toNat % 16) (by omega) W
  have HE : Hid (esc c = [61, hexN (c.toNat / 16), hexN (c.toNat % 16)]) := Lib.hid rfl
  have r3 : (convert 35 9 (.slice (some ⟨w.heap.size, 0, none⟩) 2 2)).run Tryd.prog ((w.alloc (.cells #[.int .u8 (hexN (c.toNat / 16)).toNat, .int .u8 (hexN (c.toNat % 16)).toNat] 5)).drew) = .ok (.string (ba [hexN (c.toNat / 16), hexN (c.toNat % 16)])) ((w.alloc (.cells #[.int .u8 (hexN (c.toNat / 16)).toNat, .int .u8 (hexN (c.toNat % 16)).toNat] 5)).drew) := conv2 _ _ _ _ (by simp) (by simp)
  generalize hexN (c.toNat / 16) = a at *
  generalize hexN (c.toNat % 16) = b at *
  go_enter Tryd.func30, Tryd.ntmps30
  go_wp2_with fail
  go_region
  all_goals go_wp2
  all_goals go_ret
  all_goals exact ⟨ret_str (by rw [HE.out]; rfl), ((Below.refl _ _).alloc (Nat.le_refl _) _).drew⟩

/-! The byte of two digits. -/
def byteN (l : List UInt8) : Nat := match byteL l with
  | some x => x.toNat
  | none => 0
def byteS (l : List UInt8) : Bool := (byteL l).isSome
theorem byte_two (s : ByteArray) (h : s.size = 2) : byteL (bl s) = hxL s[0] s[1] := by
  have e0 := drop_cons s 0 (by omega)
  have e1 := drop_cons s 1 (by omega)
  have e2 := drop_end s 2 (by omega)
  rw [List.drop_zero] at e0
  rw [e0, e1, e2]
  rfl
theorem byte_not (s : ByteArray) (h : s.size ≠ 2) : byteL (bl s) = none := by
  have : (bl s).length ≠ 2 := by rw [bl_len]; exact h
  unfold byteL
  split
  · rename_i a b e
    rw [e] at this
    exact absurd rfl this
  · rfl
theorem ret_dig' {a b : Int} {x y : Bool} (h1 : a = b) (h2 : x = y) : Ending.returned (.tuple #[.int .u8 a, .bool x]) = .returned (.tuple #[.int .u8 b, .bool y]) := by rw [h1, h2]
set_option maxRecDepth 100000 in
set_option maxHeartbeats 1000000 in
theorem byte_any (s : ByteArray) (w : World) :
    Calls Tryd.prog 13 #[.string s] w fun e w' => e = .returned (.tuple #[.int .u8 (byteN (bl s)), .bool (byteS (bl s))]) ∧ w = w' := by
  by_cases h : s.size = 2
  · have hn : ((s.size : Int) != 2) = false := by rw [h]; rfl
    have H0 : Hid (∀ W, Calls Tryd.prog 26 #[.int .u8 s[0].toNat] W fun e w' => e = .returned (.tuple #[.int .u8 (dgV s[0].toNat), .bool (dgOk s[0].toNat)]) ∧ W = w') := Lib.hid (fun W => digit_any s[0] W)
    have H1 : Hid (∀ W, Calls Tryd.prog 26 #[.int .u8 s[1].toNat] W fun e w' => e = .returned (.tuple #[.int .u8 (dgV s[1].toNat), .bool (dgOk s[1].toNat)]) ∧ W = w') := Lib.hid (fun W => digit_any s[1] W)
    have HB := Lib.hid (byte_two s h)
    have i0 : 0 < s.size := by omega
    have i1 : 1 < s.size := by omega
    have k0 : dgOk s[0].toNat = true → dgV s[0].toNat = dgN s[0].toNat ∧ dgN s[0].toNat < 16 := fun e => ⟨by unfold dgV; rw [e]; rfl, by unfold dgOk at e; simpa using e⟩
    have k1 : dgOk s[1].toNat = true → dgV s[1].toNat = dgN s[1].toNat ∧ dgN s[1].toNat < 16 := fun e => ⟨by unfold dgV; rw [e]; rfl, by unfold dgOk at e; simpa using e⟩
    have l0 : dgOk s[0].toNat = false → ¬ dgN s[0].toNat < 16 := fun e => by unfold dgOk at e; simpa using e
    have l1 : dgOk s[1].toNat = false → ¬ dgN s[1].toNat < 16 := fun e => by unfold dgOk at e; simpa using e
    unfold hxL at HB
    cases h0 : dgOk s[0].toNat
    · have HE : Hid (byteN (bl s) = 0 ∧ byteS (bl s) = false) := Lib.hid (by
        have := HB.out
        rw [if_neg (fun x => l0 h0 x.1)] at this
        unfold byteN byteS
        rw [this]
        exact ⟨rfl, rfl⟩)
      rw [h0] at H0
      clear HB k0 k1 l0 l1
      go_enter Tryd.func13, Tryd.ntmps13
      go_wp2_with fail
      refine (H0.out _).mono ?_
      rintro e w1 ⟨rfl, rfl⟩
      go_wp2_with fail
      refine (H1.out _).mono ?_
      rintro e w1 ⟨rfl, rfl⟩
      go_wp2_with fail
      go_ret2
      exact ⟨ret_dig' (by rw [HE.out.1]; rfl) HE.out.2.symm, rfl⟩
    · cases h1 : dgOk s[1].toNat
      · have HE : Hid (byteN (bl s) = 0 ∧ byteS (bl s) = false) := Lib.hid (by
          have := HB.out
          rw [if_neg (fun x => l1 h1 x.2)] at this
          unfold byteN byteS
          rw [this]
          exact ⟨rfl, rfl⟩)
        rw [h0] at H0
        rw [h1] at H1
        clear HB k0 k1 l0 l1
        go_enter Tryd.func13, Tryd.ntmps13
        go_wp2_with fail
        refine (H0.out _).mono ?_
        rintro e w1 ⟨rfl, rfl⟩
        go_wp2_with fail
        refine (H1.out _).mono ?_
        rintro e w1 ⟨rfl, rfl⟩
        go_wp2_with fail
        go_ret2
        exact ⟨ret_dig' (by rw [HE.out.1]; rfl) HE.out.2.symm, rfl⟩
      · obtain ⟨v0, b0⟩ := k0 h0
        obtain ⟨v1, b1⟩ := k1 h1
        have HE : Hid (byteN (bl s) = 16 * dgN s[0].toNat + dgN s[1].toNat ∧ byteS (bl s) = true) := Lib.hid (by
          have := HB.out
          rw [if_pos ⟨b0, b1⟩] at this
          unfold byteN byteS
          rw [this]
          refine ⟨?_, rfl⟩
          show (16 * dgN s[0].toNat + dgN s[1].toNat).toUInt8.toNat = _
          simp
          omega)
        rw [h0, v0] at H0
        rw [h1, v1] at H1
        have HO := Lib.hid (or16 _ _ b0 b1)
        generalize dgN s[0].toNat = a at *
        generalize dgN s[1].toNat = b at *
        clear HB k0 k1 l0 l1 v0 v1
        go_enter Tryd.func13, Tryd.ntmps13
        go_wp2_with fail
        refine (H0.out _).mono ?_
        rintro e w1 ⟨rfl, rfl⟩
        go_wp2_with fail
        refine (H1.out _).mono ?_
        rintro e w1 ⟨rfl, rfl⟩
        go_wp2_with fail
        go_ret2
        exact ⟨ret_dig' (by rw [HE.out.1]; exact HO.out) HE.out.2.symm, rfl⟩
  · have hn : ((s.size : Int) != 2) = true := by rw [bne_iff_ne]; omega
    have HE : Hid (byteN (bl s) = 0 ∧ byteS (bl s) = false) := Lib.hid (by
      unfold byteN byteS
      rw [byte_not s h]
      exact ⟨rfl, rfl⟩)
    clear h
    go_enter Tryd.func13, Tryd.ntmps13
    go_wp2_with fail
    go_ret2
    exact ⟨ret_dig' (by rw [HE.out.1]; rfl) HE.out.2.symm, rfl⟩
end Go.Proofs.YtobnckbpgckgjaaDoor.Qp
