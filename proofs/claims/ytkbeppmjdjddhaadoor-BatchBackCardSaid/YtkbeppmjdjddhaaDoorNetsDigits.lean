/-
  Walks of the document's answer: Digits (of any int from nought on), Put.
-/
import Derived.Test.YtkbeppmjdjddhaaDoorNetsBase
namespace Go.Proofs.YtkbeppmjdjddhaaDoor.Nets
open Go.RowKit

def digRel (N i n : Nat) (acc : List UInt8) : Prop :=
  i ≤ 20 ∧ n < 10 ^ (20 - i) ∧ n ≤ N ∧ ((i = 0 ∧ n = N ∧ acc = []) ∨ (0 < i ∧ Lib.decDigits N = (if n = 0 then [] else Lib.decDigits n) ++ acc))
theorem dig_step (N i n : Nat) (acc : List UInt8) (h : digRel N i n acc) (hc : i = 0 ∨ 0 < n) : digRel N (i + 1) (n / 10) (UInt8.ofNat (48 + n % 10) :: acc) := by
  obtain ⟨h1, h2, h4, h3⟩ := h
  have h10 : i < 20 := by
    rcases Nat.lt_or_ge i 20 with h | h
    · exact h
    · have : i = 20 := by omega
      subst this
      simp at h2
      omega
  refine ⟨by omega, ?_, by omega, .inr ⟨by omega, ?_⟩⟩
  · rw [show 20 - i = (20 - (i + 1)) + 1 by omega, Nat.pow_succ] at h2
    omega
  · have e : Lib.decDigits n = (if n / 10 = 0 then [] else Lib.decDigits (n / 10)) ++ [UInt8.ofNat (48 + n % 10)] := by
      by_cases hn : n < 10
      · rw [Lib.decDigits_one hn, if_pos (by omega), show n % 10 = n by omega]; rfl
      · rw [if_neg (by omega), Lib.decDigits, dif_neg hn]
    rcases h3 with ⟨_, rfl, rfl⟩ | ⟨hi, hd⟩
    · exact e
    · rw [hd, if_neg (by omega), e]; simp
theorem dig_end (N i n : Nat) (acc : List UInt8) (h : digRel N i n acc) (hc : ¬ (i = 0 ∨ 0 < n)) : acc = Lib.decDigits N := by
  obtain ⟨h1, h2, h4, h3⟩ := h
  rcases h3 with ⟨h0, _, _⟩ | ⟨hi, hd⟩
  · exact absurd (.inl h0) hc
  · rw [hd, if_pos (by omega)]; rfl
def oneB (n : Int) : ByteArray := ⟨#[UInt8.ofNat n.toNat]⟩
theorem oneB_size (n : Int) : (oneB n).size = 1 := rfl
/-- The text of one byte that was just laid. -/
theorem one_byte (w : World) (n : Int) : (convert 79 9 (.slice (some ⟨w.heap.size, 0, none⟩) 1 1)).run Tryd.prog (w.alloc (.cells #[.int .u8 n] 5)) = .ok (.string (oneB n)) (w.alloc (.cells #[.int .u8 n] 5)) := by
  have h := run_convert_bytes_arg (P := Tryd.prog) (w.alloc (.cells #[.int .u8 n] 5)) 79 5 Tryd.underlying79 Tryd.underlying5 w.heap.size 0 1 1 [n] rfl (fun i hi => by
    obtain rfl : i = 0 := by omega
    have hh : (w.alloc (.cells #[.int .u8 n] 5)).heap[w.heap.size]? = some (.cells #[.int .u8 n] 5) := by
      show (w.heap.push (.cells #[.int .u8 n] 5))[w.heap.size]? = _
      simp
    simp only [World.cell?, hh]
    rfl) 9 Tryd.underlying9
  exact h
def DigAt (N : Nat) (w : World) (n s i : Value) (wr : World) : Prop :=
  ∃ (k m : Nat) (acc : ByteArray), digRel N k m (bl acc) ∧ acc.size ≤ k ∧ n = .int .i64 m ∧ s = .string acc ∧ i = .int .i64 k ∧ Below w.heap.size w wr
theorem DigAt_step (N : Nat) (w wr : World) (k m : Nat) (acc : ByteArray) (hr : digRel N k m (bl acc)) (ha : acc.size ≤ k) (hb : Below w.heap.size w wr) (hc : k = 0 ∨ 0 < m) (o : Obj) :
    DigAt N w (.int .i64 ((m : Int) / 10)) (.string (oneB (48 + (m : Int) % 10) ++ acc)) (.int .i64 ((k : Int) + 1)) (wr.alloc o) := by
  refine ⟨k + 1, m / 10, oneB (48 + (m : Int) % 10) ++ acc, ?_, ?_, by simp, rfl, by simp, hb.alloc hb.size _⟩
  · have e : bl (oneB (48 + (m : Int) % 10) ++ acc) = UInt8.ofNat (48 + m % 10) :: bl acc := by
      have e1 : (48 + (m : Int) % 10).toNat = 48 + m % 10 := by omega
      unfold oneB
      rw [e1]
      simp
    rw [e]
    exact dig_step N k m (bl acc) hr hc
  · rw [ByteArray.size_append, oneB_size]; omega
set_option maxHeartbeats 400000 in
theorem digits_any (N : Nat) (w : World) (hN : N < 9223372036854775808) :
    Calls Tryd.prog 57 #[.int .i64 N] w fun e w' => e = .returned (str (Lib.decDigits N)) ∧ Below w.heap.size w w' := by
  have hone := one_byte
  have hsz := oneB_size
  go_enter Tryd.func57, Tryd.ntmps57
  go_wp2
  go_loopw [0, 3, 4] (fun n s i wr => DigAt N w n s i wr) (fun _ _ i _ => 21 - (intOf i).toNat)
  case atStart => exact ⟨0, N, ⟨#[]⟩, ⟨by omega, by simp; omega, Nat.le_refl _, .inl ⟨rfl, rfl, rfl⟩⟩, Nat.le_refl _, rfl, rfl, rfl, Below.refl _ _⟩
  case round =>
    obtain ⟨k, m, acc, hr, ha, rfl, rfl, rfl, hb⟩ := hrel
    have hk := hr.1
    have hm : m ≤ N := hr.2.2.1
    have hk2 : 0 < m → k ≤ 19 := fun h => by
      have h0 := hr.2.1
      rcases Nat.lt_or_ge k 20 with h1 | h1
      · omega
      · rw [show 20 - k = 0 by omega] at h0; omega
    have HR := Lib.hid hr
    clear hr
    by_cases hc : k = 0 ∨ 0 < m
    · have hk3 : k ≤ 19 := by
        rcases hc with h | h
        · omega
        · exact hk2 h
      clear hk2
      have h1 : ((k : Int) == 0) = true ∨ (((k : Int) == 0) = false ∧ 0 < m) := by
        by_cases h : k = 0
        · exact .inl (by simp [h])
        · exact .inr ⟨by simpa using h, by omega⟩
      rcases h1 with h1 | ⟨h1, h2⟩
      all_goals
        go_wp2
        go_roundw
        case rel => exact DigAt_step N w wr k m acc HR.out ha hb hc _
        case measure => simp [intOf]; omega
    · clear hk2
      have h1 : ((k : Int) == 0) = false := by simp; omega
      have h2 : ¬ (0 : Int) < m := by omega
      go_wp2
      go_ret
      exact ⟨by rw [← dig_end N k m (bl acc) HR.out hc]; rfl, hb⟩
theorem str_bl (s : ByteArray) : str (bl s) = .string s := rfl
theorem put_str (s : ByteArray) (x : ByteArray) (hx : bl x = Lib.decDigits s.size) : Value.string (x ++ ⟨#[58]⟩ ++ s ++ ⟨#[44]⟩) = str (putS (bl s)) := by
  apply str_of
  have e : (bl s).length = s.size := by simp
  unfold putS
  rw [e, ← hx]
  simp [ByteArray.data_append]
theorem dec_len (n : Nat) (h : n ≤ 100000) : (Lib.decDigits n).length ≤ 9 := by rw [Lib.decDigits_length]; exact nDigits_le9 n (by omega)
set_option maxHeartbeats 400000 in
theorem refPut_any (s : ByteArray) (w : World) (hs : s.size ≤ 100000) :
    Calls Tryd.prog 51 #[.string s] w fun e w' => e = .returned (str (putS (bl s))) ∧ Below w.heap.size w w' := by
  have hdl := dec_len s.size hs
  go_enter Tryd.func51, Tryd.ntmps51
  go_wp2_with (go_at_call 57; refine (digits_any _ _ (by omega)).mono ?_; rintro e w' ⟨rfl, hb⟩)
  go_ret
  exact ⟨by rw [← put_str s ⟨(Lib.decDigits s.size).toArray⟩ rfl]; rfl, hb⟩
end Go.Proofs.YtkbeppmjdjddhaaDoor.Nets
