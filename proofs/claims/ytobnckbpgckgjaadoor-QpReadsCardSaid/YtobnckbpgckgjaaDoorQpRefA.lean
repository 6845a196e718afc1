/-
  Walks of the document's answer: Lines, Digit, Byte, Line, Encode.
-/
import Derived.Test.YtobnckbpgckgjaaDoorQpMem
namespace Go.Proofs.YtobnckbpgckgjaaDoor.Qp
open Go Go.RowKit
open Go.Proofs.YtobnckbpgckgjaaDoor.Head

/-! Lines. -/
theorem bl_app (a b : ByteArray) : bl (a ++ b) = bl a ++ bl b := by
  show (a ++ b).data.toList = a.data.toList ++ b.data.toList
  simp
/-- The lines read so far, the line at hand, the place. -/
structure RlAt (s : ByteArray) (w wr : World) (u : Value) (O : List (List UInt8)) (L : ByteArray) (i : Nat) : Prop where
  own : TxAt w wr u (O.map ba)
  eq : spl (bl s) = O ++ glue (bl L) (spl ((bl s).drop i))
  few : O.length ≤ i
  size : L.size ≤ i
set_option maxRecDepth 100000 in
set_option maxHeartbeats 4000000 in
theorem rlines_any (s : ByteArray) (w : World) (hs : s.size ≤ 100000) :
    Calls Tryd.prog 19 #[.string s] w fun e w' => ∃ u, e = .returned u ∧ TxAt w w' u ((spl (bl s)).map ba) := by
  have HI : Hid (RlAt s w w (.slice none 0 0) [] ⟨#[]⟩ 0) := Lib.hid ⟨TxAt.start w, by rw [List.drop_zero, glue_nil (spl_ne _)]; rfl, Nat.le_refl _, Nat.le_refl _⟩
  go_enter Tryd.func19, Tryd.ntmps19
  go_wp2_with fail
  go_loopw [3, 4, 5] (fun u l i wr => ∃ (O : List (List UInt8)) (L : ByteArray) (k : Nat), k ≤ s.size ∧ i = .int .i64 k ∧ l = .string L ∧ L.size ≤ 100000 ∧ Hid (RlAt s w wr u O L k)) (fun _ _ i _ => s.size - (intOf i).toNat)
  case atStart => exact ⟨[], _, 0, Nat.zero_le _, rfl, rfl, Nat.zero_le _, HI⟩
  case round =>
    clear HI
    obtain ⟨O, L, i, hi, rfl, rfl, hLz, hI⟩ := hrel
    obtain ⟨ua, uc, rfl⟩ := owns_slice hI.out.own.1
    obtain ⟨m, hm⟩ : ∃ m, m = (O.map ba).length := ⟨_, rfl⟩
    have hmi : m ≤ i := by rw [hm, List.length_map]; exact hI.out.few
    rw [← hm] at hI ⊢
    have HMM := Lib.hid hm
    clear hm
    by_cases hlt : i < s.size
    · have hd := drop_cons s i hlt
      by_cases h13 : (s[i].toNat = 13 ∧ ∃ h : i + 1 < s.size, s[i + 1].toNat = 10)
      · obtain ⟨e13, h1, e10⟩ := h13
        have c13 : s[i] = 13 := by rw [← UInt8.toNat_inj]; exact e13
        have c10 : s[i + 1] = 10 := by rw [← UInt8.toNat_inj]; exact e10
        have t13 : ((s[i].toNat : Int) == 13) = true := by rw [e13]; rfl
        have t10 : ((s[i + 1].toNat : Int) == 10) = true := by rw [e10]; rfl
        obtain ⟨a', c', w4, hr, hh⟩ := hI.out.own.add HMM.out.symm L (by omega)
        have HR := Lib.hid hr
        have HN : Hid (RlAt s w w4 (.slice a' (m + 1) c') (O ++ [bl L]) ⟨#[]⟩ (i + 1 + 1)) := Lib.hid ⟨by rw [List.map_append, List.map_cons, List.map_nil, ba_bl]; exact hh.out, by
          rw [hI.out.eq, hd, drop_cons s (i + 1) h1, c13, c10, glue_here]
          simp, by rw [List.length_append]; have := hI.out.few; simp only [List.length_cons, List.length_nil]; omega, Nat.zero_le _⟩
        clear hr hh hd e13 e10 c13 c10
        go_wp2_with (at_builtin; refine Lib.wpList_append_run _ rfl _ _ _ _ rfl _ _ rfl rfl _ _ HR.out ?_)
        go_roundw
        case rel => exact ⟨_, _, i + 1 + 1, by omega, by simp, rfl, by decide, HN⟩
        case measure => simp [intOf]; omega
      · have hcr : crlf (s[i] :: (bl s).drop (i + 1)) = false := by
          cases hc : crlf (s[i] :: (bl s).drop (i + 1))
          · rfl
          · exfalso
            apply h13
            by_cases h1 : i + 1 < s.size
            · rw [drop_cons s (i + 1) h1] at hc
              simp only [crlf, Bool.and_eq_true, beq_iff_eq] at hc
              exact ⟨by rw [hc.1]; rfl, h1, by rw [hc.2]; rfl⟩
            · rw [drop_end s (i + 1) h1] at hc
              cases hc
        have hls := hI.out.size
        have hxz : (s.extract i (i + 1)).size = 1 := by rw [ByteArray.size_extract]; omega
        have hex : bl (s.extract i (i + 1)) = [s[i]] := by
          rw [bl_extract, hd, show i + 1 - i = 1 by omega]
          rfl
        have hNz : (L ++ s.extract i (i + 1)).size ≤ i + 1 := by rw [ByteArray.size_append, hxz]; omega
        have HN : Hid (RlAt s w wr (.slice ua m uc) O (L ++ s.extract i (i + 1)) (i + 1)) := Lib.hid ⟨hI.out.own, by
          rw [hI.out.eq, hd, glue_cons _ hcr, bl_app, hex], by have := hI.out.few; omega, hNz⟩
        clear hd hcr hex hls
        rcases (show s[i].toNat ≠ 13 ∨ (s[i].toNat = 13 ∧ ¬ i + 1 < s.size) ∨ (s[i].toNat = 13 ∧ ∃ h : i + 1 < s.size, s[i + 1].toNat ≠ 10) from by
          by_cases e : s[i].toNat = 13
          · by_cases h1 : i + 1 < s.size
            · exact .inr (.inr ⟨e, h1, fun h => h13 ⟨e, h1, h⟩⟩)
            · exact .inr (.inl ⟨e, h1⟩)
          · exact .inl e) with e | ⟨e, h1⟩ | ⟨e, h1, e2⟩
        · have t13 : ((s[i].toNat : Int) == 13) = false := by rw [beq_eq_false_iff_ne]; omega
          clear h13
          go_wp2_with fail
          go_roundw
          case rel => exact ⟨_, _, i + 1, by omega, by simp, rfl, by omega, HN⟩
          case measure => simp [intOf]; omega
        · have t13 : ((s[i].toNat : Int) == 13) = true := by rw [e]; rfl
          have d1 : ¬ (i : Int) + 1 < (s.size : Int) := by omega
          clear h13 e
          go_wp2_with fail
          go_roundw
          case rel => exact ⟨_, _, i + 1, by omega, by simp, rfl, by omega, HN⟩
          case measure => simp [intOf]; omega
        · have t13 : ((s[i].toNat : Int) == 13) = true := by rw [e]; rfl
          have t10 : ((s[i + 1].toNat : Int) == 10) = false := by rw [beq_eq_false_iff_ne]; omega
          clear h13 e e2
          go_wp2_with fail
          go_roundw
          case rel => exact ⟨_, _, i + 1, by omega, by simp, rfl, by omega, HN⟩
          case measure => simp [intOf]; omega
    · have hsp : spl (bl s) = O ++ [bl L] := by
        rw [hI.out.eq, drop_end s i hlt, glue_end]
      obtain ⟨a', c', w4, hr, hh⟩ := hI.out.own.add HMM.out.symm L (by omega)
      have HR := Lib.hid hr
      have HF : Hid (TxAt w w4 (.slice a' (m + 1) c') ((spl (bl s)).map ba)) := Lib.hid (by
        rw [hsp, List.map_append, List.map_cons, List.map_nil, ba_bl]
        exact hh.out)
      clear hr hh hsp
      go_wp2_with (at_builtin; refine Lib.wpList_append_run _ rfl _ _ _ _ rfl _ _ rfl rfl _ _ HR.out ?_)
      go_ret
      exact ⟨_, rfl, HF.out⟩

/-! Digits. -/
abbrev allB : ByteArray := ⟨#[48, 49, 50, 51, 52, 53, 54, 55, 56, 57, 65, 66, 67, 68, 69, 70, 48, 49, 50, 51, 52, 53, 54, 55, 56, 57, 97, 98, 99, 100, 101, 102]⟩
def allAt (k : Nat) : UInt8 := (bl allB).getD k 0
theorem all_at : ∀ k : Nat, (h : k < 32) → allB[k]'(by have : allB.size = 32 := rfl; omega) = allAt k := by decide +kernel
theorem all_run (k : Nat) (h : k < 32) (W : World) : (Instr.index 9 (.string allB) (.int .i64 k)).run Tryd.prog W = .ok (.int .u8 (allAt k).toNat) W := by
  have hz : allB.size = 32 := rfl
  rw [run_index_string W 9 allB .i64 k Tryd.underlying9, dif_pos ⟨by omega, by omega⟩]
  have e := all_at k h
  rw [← e]
  rfl
/-- What the document's Digit answers. -/
def dgI (n : Nat) : Int := if dgOk n then (dgN n : Int) else -1
theorem all_hit : ∀ k : Nat, k < 32 → dgN (allAt k).toNat = k % 16 := by decide +kernel
theorem all_miss (n : Nat) (hn : n < 256) (h : ∀ k, k < 32 → (allAt k).toNat ≠ n) : dgN n = 16 := by
  have := all256 (p := fun n => dgN n == 16 || (List.range 32).any fun k => (allAt k).toNat == n) (by decide +kernel) n hn
  simp only [Bool.or_eq_true, beq_iff_eq, List.any_eq_true, List.mem_range] at this
  rcases this with h1 | ⟨k, h1, h2⟩
  · exact h1
  · exact absurd h2 (h k h1)
theorem ret_i64 {a b : Int} (h : a = b) : Ending.returned (.int .i64 a) = .returned (.int .i64 b) := by rw [h]
set_option maxRecDepth 100000 in
set_option maxHeartbeats 1000000 in
theorem rdigit_any (c : UInt8) (w : World) :
    Calls Tryd.prog 27 #[.int .u8 c.toNat] w fun e w' => e = .returned (.int .i64 (dgI c.toNat)) ∧ w = w' := by
  have h8 := c.toNat_lt
  have HI : Hid (∀ k, k < 0 → (allAt k).toNat ≠ c.toNat) := Lib.hid (by intro k hk; omega)
  go_enter Tryd.func27, Tryd.ntmps27
  go_wp2_with fail
  go_loopw [4] (fun i wr => ∃ k : Nat, k ≤ 32 ∧ i = .int .i64 k ∧ Hid (∀ j, j < k → (allAt j).toNat ≠ c.toNat) ∧ w = wr) (fun i _ => 32 - (intOf i).toNat)
  case atStart => exact ⟨0, Nat.zero_le _, rfl, HI, rfl⟩
  case round =>
    clear HI
    obtain ⟨k, hk, rfl, hM, rfl⟩ := hrel
    by_cases hlt : k < 32
    · have hr := all_run k hlt
      have hhit := all_hit k hlt
      by_cases he : (allAt k).toNat = c.toNat
      · have hq : (((allAt k).toNat : Int) == (c.toNat : Int)) = true := by rw [he]; exact beq_self_eq_true _
        have HE : Hid (dgI c.toNat = ((k % 16 : Nat) : Int)) := Lib.hid (by
          rw [he] at hhit
          unfold dgI dgOk
          rw [hhit, decide_eq_true (by omega), if_pos rfl])
        clear he hhit hM
        generalize allAt k = x at *
        go_wp2_with fail
        go_ret
        exact ⟨ret_i64 (by rw [HE.out]; rfl), rfl⟩
      · have hq : (((allAt k).toNat : Int) == (c.toNat : Int)) = false := by rw [beq_eq_false_iff_ne]; omega
        have HN : Hid (∀ j, j < k + 1 → (allAt j).toNat ≠ c.toNat) := Lib.hid (fun j hj => by
          rcases Nat.lt_or_ge j k with h | h
          · exact hM.out j h
          · obtain rfl : j = k := by omega
            exact he)
        clear he hhit hM
        generalize allAt k = x at *
        go_wp2_with fail
        go_roundw
        case rel => exact ⟨k + 1, by omega, by simp, HN, trivial⟩
        case measure => simp [intOf]; omega
    · have HE : Hid (dgI c.toNat = -1) := Lib.hid (by
        have := all_miss c.toNat h8 fun j hj => hM.out j (by omega)
        unfold dgI dgOk
        rw [this]
        rfl)
      clear hM
      go_wp2_with fail
      go_ret
      exact ⟨ret_i64 HE.out.symm, rfl⟩
set_option maxRecDepth 100000 in
set_option maxHeartbeats 1000000 in
theorem rbyte_any (s : ByteArray) (w : World) :
    Calls Tryd.prog 14 #[.string s] w fun e w' => e = .returned (.tuple #[.int .u8 (byteN (bl s)), .bool (byteS (bl s))]) ∧ w = w' := by
  by_cases h : s.size = 2
  · have hn : ((s.size : Int) != 2) = false := by rw [h]; rfl
    have H0 : Hid (∀ W, Calls Tryd.prog 27 #[.int .u8 s[0].toNat] W fun e w' => e = .returned (.int .i64 (dgI s[0].toNat)) ∧ W = w') := Lib.hid (fun W => rdigit_any s[0] W)
    have H1 : Hid (∀ W, Calls Tryd.prog 27 #[.int .u8 s[1].toNat] W fun e w' => e = .returned (.int .i64 (dgI s[1].toNat)) ∧ W = w') := Lib.hid (fun W => rdigit_any s[1] W)
    have HB := Lib.hid (byte_two s h)
    have i0 : 0 < s.size := by omega
    have i1 : 1 < s.size := by omega
    have k0 : dgOk s[0].toNat = true → dgI s[0].toNat = (dgN s[0].toNat : Int) ∧ dgN s[0].toNat < 16 := fun e => ⟨by unfold dgI; rw [e]; rfl, by unfold dgOk at e; simpa using e⟩
    have k1 : dgOk s[1].toNat = true → dgI s[1].toNat = (dgN s[1].toNat : Int) ∧ dgN s[1].toNat < 16 := fun e => ⟨by unfold dgI; rw [e]; rfl, by unfold dgOk at e; simpa using e⟩
    have l0 : dgOk s[0].toNat = false → dgI s[0].toNat = -1 ∧ ¬ dgN s[0].toNat < 16 := fun e => ⟨by unfold dgI; rw [e]; rfl, by unfold dgOk at e; simpa using e⟩
    have l1 : dgOk s[1].toNat = false → dgI s[1].toNat = -1 ∧ ¬ dgN s[1].toNat < 16 := fun e => ⟨by unfold dgI; rw [e]; rfl, by unfold dgOk at e; simpa using e⟩
    unfold hxL at HB
    cases h0 : dgOk s[0].toNat
    · have HE : Hid (byteN (bl s) = 0 ∧ byteS (bl s) = false) := Lib.hid (by
        have := HB.out
        rw [if_neg (fun x => (l0 h0).2 x.1)] at this
        unfold byteN byteS
        rw [this]
        exact ⟨rfl, rfl⟩)
      rw [(l0 h0).1] at H0
      clear HB k0 k1 l0 l1
      go_enter Tryd.func14, Tryd.ntmps14
      go_wp2_with fail
      refine (H0.out _).mono ?_
      rintro e w1 ⟨rfl, rfl⟩
      go_wp2_with fail
      refine (H1.out _).mono ?_
      rintro e w1 ⟨rfl, rfl⟩
      go_wp2_with fail
      go_ret2
      exact ⟨ret_dig' (by rw [HE.out.1]; rfl) HE.out.2.symm, rfl⟩
    · cases h1 : dgOk s[1].toNat
      · have HE : Hid (byteN (bl s) = 0 ∧ byteS (bl s) = false) := Lib.hid (by
          have := HB.out
          rw [if_neg (fun x => (l1 h1).2 x.2)] at this
          unfold byteN byteS
          rw [this]
          exact ⟨rfl, rfl⟩)
        rw [(k0 h0).1] at H0
        rw [(l1 h1).1] at H1
        have b0 : ¬ (dgN s[0].toNat : Int) < 0 := by omega
        clear HB k0 k1 l0 l1
        generalize dgN s[0].toNat = a at *
        go_enter Tryd.func14, Tryd.ntmps14
        go_wp2_with fail
        refine (H0.out _).mono ?_
        rintro e w1 ⟨rfl, rfl⟩
        go_wp2_with fail
        refine (H1.out _).mono ?_
        rintro e w1 ⟨rfl, rfl⟩
        go_wp2_with fail
        go_ret2
        exact ⟨ret_dig' (by rw [HE.out.1]; rfl) HE.out.2.symm, rfl⟩
      · obtain ⟨v0, b0⟩ := k0 h0
        obtain ⟨v1, b1⟩ := k1 h1
        have HE : Hid (byteN (bl s) = 16 * dgN s[0].toNat + dgN s[1].toNat ∧ byteS (bl s) = true) := Lib.hid (by
          have := HB.out
          rw [if_pos ⟨b0, b1⟩] at this
          unfold byteN byteS
          rw [this]
          refine ⟨?_, rfl⟩
          show (16 * dgN s[0].toNat + dgN s[1].toNat).toUInt8.toNat = _
          simp
          omega)
        rw [v0] at H0
        rw [v1] at H1
        have p0 : ¬ (dgN s[0].toNat : Int) < 0 := by omega
        have p1 : ¬ (dgN s[1].toNat : Int) < 0 := by omega
        generalize dgN s[0].toNat = a at *
        generalize dgN s[1].toNat = b at *
        clear HB k0 k1 l0 l1 v0 v1
        go_enter Tryd.func14, Tryd.ntmps14
        go_wp2_with fail
        refine (H0.out _).mono ?_
        rintro e w1 ⟨rfl, rfl⟩
        go_wp2_with fail
        refine (H1.out _).mono ?_
        rintro e w1 ⟨rfl, rfl⟩
        go_wp2_with fail
        go_ret2
        exact ⟨ret_dig' (by rw [HE.out.1]; simp) HE.out.2.symm, rfl⟩
  · have hn : ((s.size : Int) != 2) = true := by rw [bne_iff_ne]; omega
    have HE : Hid (byteN (bl s) = 0 ∧ byteS (bl s) = false) := Lib.hid (by
      unfold byteN byteS
      rw [byte_not s h]
      exact ⟨rfl, rfl⟩)
    clear h
    go_enter Tryd.func14, Tryd.ntmps14
    go_wp2_with fail
    go_ret2
    exact ⟨ret_dig' (by rw [HE.out.1]; rfl) HE.out.2.symm, rfl⟩
end Go.Proofs.YtobnckbpgckgjaaDoor.Qp
