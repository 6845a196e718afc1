/-
  Walks: the document's Plain, Bare.
-/
import Derived.Test.YtlkfkgkolaaomaaDoorB64Bits
namespace Go.Proofs.YtlkfkgkolaaomaaDoor.B64
open Go Go.RowKit
open Go.Proofs.YtlkfkgkolaaomaaDoor.Code
open Go.Proofs.YtlkfkgkolaaomaaDoor.Lex (bl ba bl_len ba_size bl_ba ba_bl bl_extract bl_from drop_cons drop_end index_any)

/- One byte, just laid, as a string. -/
theorem one_laid (w : World) (x : UInt8) : (convert 35 9 (.slice (some ⟨w.heap.size, 0, none⟩) 1 1)).run Tryd.prog (w.alloc (.cells #[.int .u8 x.toNat] 5)) = .ok (.string (ba [x])) (w.alloc (.cells #[.int .u8 x.toNat] 5)) := by
  have h := run_convert_bytes_arg (P := Tryd.prog) (w.alloc (.cells #[.int .u8 x.toNat] 5)) 35 5 Tryd.underlying35 Tryd.underlying5 w.heap.size 0 1 1 [(x.toNat : Int)] rfl (fun i hi => by
    obtain rfl : i = 0 := by omega
    rw [Lib.cell_of_heap (heap_alloc_new w _)]
    rfl) 9 Tryd.underlying9
  rw [h]
  have e : strOfNums [(x.toNat : Int)] = ba [x] := by
    unfold strOfNums
    simp
  rw [e]

/-! Plain. -/
/-- The first so many letters. -/
def encP (l : List UInt8) (e : Nat) : List UInt8 := (List.range e).map fun j => digOf d64 (sg (strL l) (6 * j) 6)
theorem encP_len (l : List UInt8) (e : Nat) : (encP l e).length = e := by simp [encP]
theorem encP_add (l : List UInt8) (j a : Nat) (ha : a = 6 * j) : ba (encP l j) ++ ba [digOf d64 (sg (strL l) a 6)] = ba (encP l (j + 1)) := by
  subst ha
  rw [ba_app]
  unfold encP
  rw [List.range_succ]
  simp
theorem encP_done (l : List UInt8) : encP l (elen 6 l.length) = enc 6 d64 l := rfl
def PlAt (l : List UInt8) (w : World) (o i : Value) (wr : World) : Prop :=
  ∃ j a : Nat, a = 6 * j ∧ a ≤ 8 * l.length + 5 ∧ i = .int .i64 a ∧ o = .string (ba (encP l j)) ∧ Below w.heap.size w wr
def SumAt (f : Nat → Nat) (a : Nat) (w : World) (n k : Value) (wr : World) : Prop := ∃ i : Nat, i ≤ 6 ∧ k = .int .i64 i ∧ n = .int .i64 (sg f a i : Nat) ∧ w = wr
def strSz : Value → Nat
  | .string s => s.size
  | _ => 0
/-- So many signs are put behind. -/
def PdAt (l : List UInt8) (w : World) (o : Value) (wr : World) : Prop :=
  ∃ (k : Nat) (t : ByteArray), k ≤ padN l.length ∧ o = .string t ∧ bl t = enc 6 d64 l ++ List.replicate k 61 ∧ Below w.heap.size w wr
set_option maxRecDepth 100000 in
set_option maxHeartbeats 1000000 in
theorem rplain_any (s : ByteArray) (w : World) (hs : s.size ≤ 5000) :
    Calls Tryd.prog 10 #[.string s] w fun e w' => e = .returned (.string (ba (plainL (bl s)))) ∧ Below w.heap.size w w' := by
  have hlen := bl_len s
  go_enter Tryd.func10, Tryd.ntmps10
  have HI : Hid (PlAt (bl s) w (.string ⟨#[]⟩) (.int .i64 0) w) := Lib.hid ⟨0, 0, rfl, by omega, rfl, rfl, Below.refl _ _⟩
  have HL := Lib.hid hlen
  clear hlen
  go_wp2
  go_loopw [3, 4, 5, 6] (fun o i _ _ wr => PlAt (bl s) w o i wr) (fun _ i _ _ _ => 8 * s.size + 6 - (intOf i).toNat)
  case atStart => exact HI.out
  case round =>
    clear HI
    obtain ⟨j, a, ha, hal, rfl, rfl, hb⟩ := hrel
    rw [HL.out] at hal
    have hja : j ≤ a := by omega
    have HA := Lib.hid ha
    clear ha
    have HB := Lib.hid hb
    clear hb
    have hos : (ba (encP (bl s) j)).size = j := by rw [ba_size, encP_len]
    by_cases hlt : a < 8 * s.size
    · have HN := Lib.hid (encP_add (bl s) j a HA.out)
      have hmul : (a : Int) < 8 * (s.size : Int) := by omega
      have HI : Hid (SumAt (strL (bl s)) a wr (.int .i64 0) (.int .i64 0) wr) := Lib.hid ⟨0, by omega, rfl, rfl, rfl⟩
      have hos2 : (ba (encP (bl s) j)).size ≤ 50000 := by omega
      clear hos
      generalize ba (encP (bl s) j) = o at HN hos2 ⊢
      go_wp2
      go_loopw [5, 6] (fun n k w' => SumAt (strL (bl s)) a wr n k w') (fun _ k _ => 6 - (intOf k).toNat)
      case atStart => exact HI.out
      case round =>
        clear HI
        obtain ⟨i, hi, rfl, rfl, rfl⟩ := hrel
        have hx := sg_lt (strL (bl s)) (strL_bit _) a i
        have hx2 : sg (strL (bl s)) a i < 64 := Nat.lt_of_lt_of_le hx (Nat.pow_le_pow_right (by decide) hi)
        clear hx
        have hbit := strL_bit (bl s) (a + i)
        by_cases hi5 : i < 6
        · have HS : Hid (sg (strL (bl s)) a (i + 1) = 2 * sg (strL (bl s)) a i + strL (bl s) (a + i)) := Lib.hid rfl
          generalize sg (strL (bl s)) a i = x at hx2 HS ⊢
          go_wp2_with fail
          refine (bit_at s a i _ (by omega) (by omega) (by omega)).mono ?_
          rintro e w1 ⟨rfl, rfl⟩
          go_wp2
          go_roundw
          case rel => exact ⟨i + 1, by omega, by go_num, int_eq (by rw [HS.out]; omega), rfl⟩
          case measure => simp [intOf]; omega
        · obtain rfl : i = 6 := by omega
          have hc := one_laid wr (digOf d64 (sg (strL (bl s)) a 6))
          have hS := letter_at (sg (strL (bl s)) a 6) wr hx2 _ rfl
          have hS2 := Lib.hid hS
          have hz : (ba [digOf d64 (sg (strL (bl s)) a 6)]).size = 1 := rfl
          clear hS
          generalize hC : digOf d64 (sg (strL (bl s)) a 6) = c at hc HN hS2 hz
          clear hC hbit
          generalize sg (strL (bl s)) a 6 = x at hx2 hS2 ⊢
          generalize ba [c] = b at hc HN hz
          go_wp2_with fail
          refine hS2.out.mono ?_
          rintro e w1 ⟨rfl, rfl⟩
          go_wp2
          go_roundw
          case rel => exact ⟨j + 1, a + 6, by have := HA.out; omega, by rw [HL.out]; omega, by go_num, by rw [HN.out], HB.out.alloc HB.out.size _⟩
          case measure => simp [intOf]; omega
    · have hj : elen 6 (bl s).length = j := by
        rw [HL.out]
        have := HA.out
        unfold elen
        omega
      have HI : Hid (PdAt (bl s) w (.string (ba (encP (bl s) j))) wr) := Lib.hid ⟨0, _, Nat.zero_le _, rfl, by rw [bl_ba, ← hj, encP_done]; simp, HB.out⟩
      have HJ := Lib.hid hj
      have hmul : ¬ (a : Int) < 8 * (s.size : Int) := by omega
      have hj5 : j ≤ 7000 := by have := HA.out; omega
      clear hos hj HA hal hja
      generalize ba (encP (bl s) j) = o at HI ⊢
      go_wp2
      go_loopw [3] (fun o w' => PdAt (bl s) w o w') (fun o _ => j + 4 - strSz o)
      case atStart => exact HI.out
      case round =>
        clear HI HB
        obtain ⟨k, t, hk, rfl, ht, hb⟩ := hrel
        have hp := pad_le (bl s).length
        have hz : t.size = j + k := by
          have := congrArg List.length ht
          rw [bl_len, List.length_append, enc_len, List.length_replicate, HJ.out] at this
          exact this
        have HP : Hid (padN (bl s).length = (4 - j % 4) % 4) := Lib.hid (by unfold padN; rw [HJ.out])
        have HB := Lib.hid hb
        have HT := Lib.hid ht
        clear hb ht
        by_cases hlt : k < padN (bl s).length
        · have hg : (((t.size : Int) % 4) != 0) = true := by
            rw [bne_iff_ne]
            have := HP.out
            omega
          have HN : Hid (bl (t ++ (⟨#[61]⟩ : ByteArray)) = enc 6 d64 (bl s) ++ List.replicate (k + 1) 61) := Lib.hid (by
            rw [bl_app, HT.out, List.replicate_succ', List.append_assoc])
          have h1 : (⟨#[61]⟩ : ByteArray).size = 1 := rfl
          go_wp2
          go_roundw
          case rel => exact ⟨k + 1, _, by omega, rfl, HN.out, HB.out⟩
          case measure => simp [strSz, ByteArray.size_append]; omega
        · have hg : (((t.size : Int) % 4) != 0) = false := by
            rw [bne_eq_false_iff_eq]
            have := HP.out
            omega
          have HD : Hid (t = ba (plainL (bl s))) := Lib.hid (bl_inj (by
            rw [HT.out, bl_ba, show k = padN (bl s).length by omega]
            rfl))
          go_wp2
          go_ret
          exact ⟨ret_str HD.out, HB.out⟩

/-! Bare. -/
theorem ws_int (c : UInt8) : (!wsB c) = (((c.toNat : Int) != 32) && (((c.toNat : Int) != 9) && (((c.toNat : Int) != 13) && ((c.toNat : Int) != 10)))) := by
  have h : ∀ n : UInt8, (c == n) = ((c.toNat : Int) == (n.toNat : Int)) := fun n => by
    rw [Bool.eq_iff_iff, beq_iff_eq, beq_iff_eq]
    constructor
    · rintro rfl; rfl
    · intro e; exact UInt8.toNat.inj (by omega)
  unfold wsB
  rw [h 32, h 9, h 13, h 10]
  show (!(((c.toNat : Int) == 32) || (((c.toNat : Int) == 9) || (((c.toNat : Int) == 13) || ((c.toNat : Int) == 10))))) = _
  simp only [bne, Bool.not_or]
def BrAt (s : ByteArray) (w : World) (o i : Value) (wr : World) : Prop :=
  ∃ (k : Nat) (t : ByteArray), k ≤ s.size ∧ i = .int .i64 k ∧ o = .string t ∧ t.size ≤ k ∧ bareL (bl s) = bl t ++ bareL ((bl s).drop k) ∧ w = wr
theorem one_cut (s : ByteArray) (k : Nat) (h : k < s.size) : bl (s.extract k (k + 1)) = [s[k]] := by
  rw [bl_extract, drop_cons s k h, show k + 1 - k = 1 by omega]
  rfl
set_option maxRecDepth 100000 in
set_option maxHeartbeats 1000000 in
theorem rbare_any (s : ByteArray) (w : World) (hs : s.size ≤ 100000) :
    Calls Tryd.prog 17 #[.string s] w fun e w' => e = .returned (.string (ba (bareL (bl s)))) ∧ w = w' := by
  have HI : Hid (BrAt s w (.string ⟨#[]⟩) (.int .i64 0) w) := Lib.hid ⟨0, ⟨#[]⟩, Nat.zero_le _, rfl, rfl, Nat.le_refl _, rfl, rfl⟩
  go_enter Tryd.func17, Tryd.ntmps17
  go_wp2
  go_loopw [3, 4] (fun o i wr => BrAt s w o i wr) (fun _ i _ => s.size - (intOf i).toNat)
  case atStart => exact HI.out
  case round =>
    clear HI
    obtain ⟨k, t, hk, rfl, rfl, htz, ht, rfl⟩ := hrel
    by_cases hlt : k < s.size
    · rw [drop_cons s k hlt] at ht
      have hw := ws_int s[k]
      have hez : (s.extract k (k + 1)).size = 1 := by rw [ByteArray.size_extract]; omega
      have HO := Lib.hid (one_cut s k hlt)
      cases h1 : ((s[k].toNat : Int) != 32)
      · have HN : Hid (bareL (bl s) = bl t ++ bareL ((bl s).drop (k + 1))) := Lib.hid (by
          rw [h1] at hw
          rw [ht, bare_cons_out _ (by simpa using hw)])
        clear ht hw
        go_wp2
        go_roundw
        case rel => exact ⟨k + 1, t, by omega, by go_num, rfl, by omega, HN.out, rfl⟩
        case measure => simp [intOf]; omega
      cases h2 : ((s[k].toNat : Int) != 9)
      · have HN : Hid (bareL (bl s) = bl t ++ bareL ((bl s).drop (k + 1))) := Lib.hid (by
          rw [h1, h2] at hw
          rw [ht, bare_cons_out _ (by simpa using hw)])
        clear ht hw
        go_wp2
        go_roundw
        case rel => exact ⟨k + 1, t, by omega, by go_num, rfl, by omega, HN.out, rfl⟩
        case measure => simp [intOf]; omega
      cases h3 : ((s[k].toNat : Int) != 13)
      · have HN : Hid (bareL (bl s) = bl t ++ bareL ((bl s).drop (k + 1))) := Lib.hid (by
          rw [h1, h2, h3] at hw
          rw [ht, bare_cons_out _ (by simpa using hw)])
        clear ht hw
        go_wp2
        go_roundw
        case rel => exact ⟨k + 1, t, by omega, by go_num, rfl, by omega, HN.out, rfl⟩
        case measure => simp [intOf]; omega
      cases h4 : ((s[k].toNat : Int) != 10)
      · have HN : Hid (bareL (bl s) = bl t ++ bareL ((bl s).drop (k + 1))) := Lib.hid (by
          rw [h1, h2, h3, h4] at hw
          rw [ht, bare_cons_out _ (by simpa using hw)])
        clear ht hw
        go_wp2
        go_roundw
        case rel => exact ⟨k + 1, t, by omega, by go_num, rfl, by omega, HN.out, rfl⟩
        case measure => simp [intOf]; omega
      · have HN : Hid (bareL (bl s) = bl (t ++ s.extract k (k + 1)) ++ bareL ((bl s).drop (k + 1))) := Lib.hid (by
          rw [h1, h2, h3, h4] at hw
          rw [ht, bare_cons_in _ (by simpa using hw), bl_app, HO.out]
          simp)
        clear ht hw
        go_wp2
        go_roundw
        case rel => exact ⟨k + 1, _, by omega, by go_num, rfl, by rw [ByteArray.size_append, hez]; omega, HN.out, rfl⟩
        case measure => simp [intOf]; omega
    · have HD : Hid (t = ba (bareL (bl s))) := Lib.hid (bl_inj (by
        rw [bl_ba, ht, drop_end s k hlt]
        show _ = _ ++ []
        rw [List.append_nil]))
      clear ht
      go_wp2
      go_ret
      exact ⟨ret_str HD.out, rfl⟩
end Go.Proofs.YtlkfkgkolaaomaaDoor.B64
