/-
  Walks of the document's answer: Digits, Put, Take.
-/
import Derived.Test.YtpjbhcampfjgdaaDoorWalkA
import Derived.Laws.IdiomStrings
import Derived.Laws.BytesArg
import Derived.Deep.RegionWith
namespace Go.Proofs.YtpjbhcampfjgdaaDoor
open Go.RowKit

def digRel (N i n : Nat) (acc : List UInt8) : Prop :=
  i ≤ 10 ∧ n < 10 ^ (10 - i) ∧ ((i = 0 ∧ n = N ∧ acc = []) ∨ (0 < i ∧ Lib.decDigits N = (if n = 0 then [] else Lib.decDigits n) ++ acc))

theorem dig_step (N i n : Nat) (acc : List UInt8) (h : digRel N i n acc) (hc : i = 0 ∨ 0 < n) : digRel N (i + 1) (n / 10) (UInt8.ofNat (48 + n % 10) :: acc) := by
  obtain ⟨h1, h2, h3⟩ := h
  have h10 : i < 10 := by
    rcases Nat.lt_or_ge i 10 with h | h
    · exact h
    · have : i = 10 := by omega
      subst this
      simp at h2
      omega
  refine ⟨by omega, ?_, .inr ⟨by omega, ?_⟩⟩
  · rw [show 10 - i = (10 - (i + 1)) + 1 by omega, Nat.pow_succ] at h2
    omega
  · have e : Lib.decDigits n = (if n / 10 = 0 then [] else Lib.decDigits (n / 10)) ++ [UInt8.ofNat (48 + n % 10)] := by
      by_cases hn : n < 10
      · rw [Lib.decDigits_one hn, if_pos (by omega), show n % 10 = n by omega]; rfl
      · rw [if_neg (by omega), Lib.decDigits, dif_neg hn]
    rcases h3 with ⟨_, rfl, rfl⟩ | ⟨hi, hd⟩
    · exact e
    · rw [hd, if_neg (by omega), e]; simp
theorem dig_end (N i n : Nat) (acc : List UInt8) (h : digRel N i n acc) (hc : ¬ (i = 0 ∨ 0 < n)) : acc = Lib.decDigits N := by
  obtain ⟨h1, h2, h3⟩ := h
  rcases h3 with ⟨h0, _, _⟩ | ⟨hi, hd⟩
  · exact absurd (.inl h0) hc
  · rw [hd, if_pos (by omega)]; rfl

def oneB (n : Int) : ByteArray := ⟨#[UInt8.ofNat n.toNat]⟩
theorem oneB_size (n : Int) : (oneB n).size = 1 := rfl
/-- The text of one byte that was just laid. -/
theorem one_byte (w : World) (n : Int) : (convert 45 9 (.slice (some ⟨w.heap.size, 0, none⟩) 1 1)).run Tryd.prog (w.alloc (.cells #[.int .u8 n] 5)) = .ok (.string (oneB n)) (w.alloc (.cells #[.int .u8 n] 5)) := by
  have h := run_convert_bytes_arg (P := Tryd.prog) (w.alloc (.cells #[.int .u8 n] 5)) 45 5 Tryd.underlying45 Tryd.underlying5 w.heap.size 0 1 1 [n] rfl (fun i hi => by
    obtain rfl : i = 0 := by omega
    have hh : (w.alloc (.cells #[.int .u8 n] 5)).heap[w.heap.size]? = some (.cells #[.int .u8 n] 5) := by
      show (w.heap.push (.cells #[.int .u8 n] 5))[w.heap.size]? = _
      simp
    simp only [World.cell?, hh]
    rfl) 9 Tryd.underlying9
  exact h

def DigAt (N : Nat) (w : World) (n s i : Value) (wr : World) : Prop :=
  ∃ (k m : Nat) (acc : ByteArray), digRel N k m (bl acc) ∧ acc.size ≤ k ∧ n = .int .i64 m ∧ s = .string acc ∧ i = .int .i64 k ∧ Below w.heap.size w wr

theorem DigAt_step (N : Nat) (w wr : World) (k m : Nat) (acc : ByteArray) (hr : digRel N k m (bl acc)) (ha : acc.size ≤ k) (hb : Below w.heap.size w wr) (hc : k = 0 ∨ 0 < m) (o : Obj) :
    DigAt N w (.int .i64 ((m : Int) / 10)) (.string (oneB (48 + (m : Int) % 10) ++ acc)) (.int .i64 ((k : Int) + 1)) (wr.alloc o) := by
  refine ⟨k + 1, m / 10, oneB (48 + (m : Int) % 10) ++ acc, ?_, ?_, by simp, rfl, by simp, hb.alloc hb.size _⟩
  · have e : bl (oneB (48 + (m : Int) % 10) ++ acc) = UInt8.ofNat (48 + m % 10) :: bl acc := by
      have e1 : (48 + (m : Int) % 10).toNat = 48 + m % 10 := by omega
      unfold oneB
      rw [e1]
      simp
    rw [e]
    exact dig_step N k m (bl acc) hr hc
  · rw [ByteArray.size_append, oneB_size]; omega

set_option maxHeartbeats 400000 in
theorem digits_any (N : Nat) (w : World) (hN : N < 10000000000) :
    Calls Tryd.prog 21 #[.int .i64 N] w fun e w' => e = .returned (str (Lib.decDigits N)) ∧ Below w.heap.size w w' := by
  have hone := one_byte
  have hsz := oneB_size
  go_enter Tryd.func21, Tryd.ntmps21
  go_wp2
  go_loopw [0, 3, 4] (fun n s i wr => DigAt N w n s i wr) (fun _ _ i _ => 11 - (intOf i).toNat)
  case atStart => exact ⟨0, N, ⟨#[]⟩, ⟨by omega, by simpa using hN, .inl ⟨rfl, rfl, rfl⟩⟩, Nat.le_refl _, rfl, rfl, rfl, Below.refl _ _⟩
  case round =>
    obtain ⟨k, m, acc, hr, ha, rfl, rfl, rfl, hb⟩ := hrel
    have hk := hr.1
    have hm : m < 10000000000 := by
      have := hr.2.1
      have : (10:Nat) ^ (10 - k) ≤ 10 ^ 10 := Nat.pow_le_pow_right (by decide) (by omega)
      omega
    have HR := Lib.hid hr
    clear hr
    by_cases hc : k = 0 ∨ 0 < m
    · have h1 : ((k : Int) == 0) = true ∨ (((k : Int) == 0) = false ∧ 0 < m) := by
        by_cases h : k = 0
        · exact .inl (by simp [h])
        · exact .inr ⟨by simpa using h, by omega⟩
      rcases h1 with h1 | ⟨h1, h2⟩
      all_goals
        go_wp2
        go_roundw
        case rel => exact DigAt_step N w wr k m acc HR.out ha hb hc _
        case measure => simp [intOf]; omega
    · have h1 : ((k : Int) == 0) = false := by simp; omega
      have h2 : ¬ (0 : Int) < m := by omega
      go_wp2
      go_ret
      exact ⟨by rw [← dig_end N k m (bl acc) HR.out hc]; rfl, hb⟩

theorem str_bl (s : ByteArray) : str (bl s) = .string s := rfl
theorem put_str (s : ByteArray) (x : ByteArray) (hx : bl x = Lib.decDigits s.size) : Value.string (x ++ ⟨#[58]⟩ ++ s ++ ⟨#[44]⟩) = str (putS (bl s)) := by
  apply str_of
  have e : (bl s).length = s.size := by simp
  unfold putS
  rw [e, ← hx]
  simp [ByteArray.data_append]
theorem dec_len (n : Nat) (h : n ≤ 100000) : (Lib.decDigits n).length ≤ 9 := by rw [Lib.decDigits_length]; exact nDigits_le9 n (by omega)

set_option maxHeartbeats 400000 in
theorem refPut_any (s : ByteArray) (w : World) (hs : s.size ≤ 100000) :
    Calls Tryd.prog 11 #[.string s] w fun e w' => e = .returned (str (putS (bl s))) ∧ Below w.heap.size w w' := by
  have hdl := dec_len s.size hs
  go_enter Tryd.func11, Tryd.ntmps11
  go_wp2_with (go_at_call 21; refine (digits_any _ _ (by omega)).mono ?_; rintro e w' ⟨rfl, hb⟩)
  go_ret
  exact ⟨by rw [← put_str s ⟨(Lib.decDigits s.size).toArray⟩ rfl]; rfl, hb⟩

theorem dec_digs (l : List UInt8) (h0 : (digs l).length ≠ 0) : (decide (digs l = Lib.decDigits (val (digs l)))) = !decide (1 < (digs l).length ∧ l[0]? = some 48) := by
  have hne : digs l ≠ [] := by intro e; rw [e] at h0; exact h0 rfl
  have e0 : l[0]? = (digs l)[0]? := by
    rw [← digs_take l, List.getElem?_take, if_pos (by omega)]
  by_cases hz : 1 < (digs l).length ∧ l[0]? = some 48
  · rw [decide_eq_true hz]
    simp only [Bool.not_true, decide_eq_false_iff_not]
    intro e
    obtain ⟨h1, h2⟩ := hz
    rw [e0, e] at h2
    rw [e] at h1
    by_cases hv : 1 ≤ val (digs l)
    · exact dec_head _ hv h2
    · have : val (digs l) = 0 := by omega
      rw [this, Lib.decDigits_one (by decide)] at h1
      simp at h1
  · rw [decide_eq_false hz]
    simp only [Bool.not_false, decide_eq_true_eq]
    exact (dec_val _ (digs l) rfl hne (digs_all l) (by rw [← e0]; exact hz)).symm

theorem val_lt9 (l : List UInt8) (k : Nat) (hk : k ≤ 9) : val ((digs l).take k) < 1000000000 := by
  have h1 := val_lt _ ((digs l).take k) rfl (fun c hc => digs_all l c (List.mem_of_mem_take hc))
  have h2 : ((digs l).take k).length ≤ 9 := by simp; omega
  have h3 : (10:Nat) ^ ((digs l).take k).length ≤ 10 ^ 9 := Nat.pow_le_pow_right (by decide) h2
  omega
theorem val_digs_snoc (s : ByteArray) (j : Nat) (h : j < s.size) (hd : j + 1 ≤ (digs (bl s)).length) : val ((digs (bl s)).take (j + 1)) = 10 * val ((digs (bl s)).take j) + (s[j].toNat - 48) := by
  have e1 : (digs (bl s)).take (j + 1) = (bl s).take (j + 1) := by rw [← digs_take (bl s), List.take_take, Nat.min_eq_left hd]
  have e2 : (digs (bl s)).take j = (bl s).take j := by rw [← digs_take (bl s), List.take_take, Nat.min_eq_left (by omega)]
  rw [e1, e2, take_snoc s j h, val_snoc]
theorem digs_end (s : ByteArray) (j : Nat) (hj : j ≤ (digs (bl s)).length) (hjs : j ≤ s.size) (hD : ¬ ∃ h : j < s.size, isD s[j] = true) : (digs (bl s)).length = j := by
  have hl := digs_le (bl s)
  have e : (bl s).length = s.size := by simp
  by_cases h : j < s.size
  · refine digs_stop (bl s) j hj (by simpa using h) ?_
    rcases hb : isD (bl s)[j] with _ | _
    · rfl
    · exact absurd ⟨h, hb⟩ hD
  · omega

theorem take3 (s : ByteArray) (h0 : 0 < s.size) (hl : (digs (bl s)).length = 0) : takeS (bl s) = ([], [], 3) := by
  unfold takeS; rw [if_neg (bl_ne s h0), if_pos hl]
theorem take2 (s : ByteArray) (h0 : 0 < s.size) (hl : 9 < (digs (bl s)).length) : takeS (bl s) = ([], [], 2) := by
  unfold takeS; rw [if_neg (bl_ne s h0), if_neg (by omega), if_pos hl]
theorem take9 (s : ByteArray) (h0 : 0 < s.size) (h1 : (digs (bl s)).length = s.size) (hl : s.size ≤ 9) : takeS (bl s) = ([], [], 9) := by
  have e : (bl s).length = s.size := by simp
  unfold takeS; rw [if_neg (bl_ne s h0), if_neg (by omega), if_neg (by omega), if_pos (by omega)]
theorem take3b (s : ByteArray) (d : Nat) (h0 : 0 < s.size) (h1 : (digs (bl s)).length = d) (g1 : 1 ≤ d) (g9 : d ≤ 9) (hl : d < s.size) (h : ((s[d].toNat : Int) != 58) = true ∨ (1 < d ∧ (bl s)[0]? = some 48)) : takeS (bl s) = ([], [], 3) := by
  have e : (bl s).length = s.size := by simp
  unfold takeS; rw [if_neg (bl_ne s h0), if_neg (by omega), if_neg (by omega), if_neg (by omega), h1]
  rcases h with h | h
  · rw [if_pos]
    rw [bl_get? s d hl, ne_eq, some_u8]
    intro e
    rw [e] at h
    exact absurd h (by decide)
  · rw [if_pos h]
    split <;> rfl

theorem cmp_digs (s : ByteArray) (d v : Nat) (h1 : (digs (bl s)).length = d) (hv : v = val (digs (bl s))) (g1 : 1 ≤ d) : ((s.extract 0 d).toList == Lib.decDigits v) = !decide (1 < d ∧ (bl s)[0]? = some 48) := by
  have e : (s.extract 0 d).toList = digs (bl s) := by
    rw [Lib.toList_data, Lib.extract_data]
    simp only [List.drop_zero, Nat.sub_zero]
    rw [← h1]
    exact digs_take (bl s)
  have h := dec_digs (bl s) (by omega)
  rw [h1] at h
  rw [e, hv, ← h]
  rw [Bool.eq_iff_iff]
  simp
theorem take3c (s : ByteArray) (d v : Nat) (h0 : 0 < s.size) (h1 : (digs (bl s)).length = d) (hv : v = val (digs (bl s))) (g1 : 1 ≤ d) (g9 : d ≤ 9) (hl : d < s.size)
    (h : (!(s.extract 0 d).toList == Lib.decDigits v) = true) : takeS (bl s) = ([], [], 3) := by
  rw [cmp_digs s d v h1 hv g1] at h
  exact take3b s d h0 h1 g1 g9 hl (.inr (by simpa using h))
theorem takeT (s : ByteArray) (d v : Nat) (h0 : 0 < s.size) (h1 : (digs (bl s)).length = d) (hv : v = val (digs (bl s))) (g1 : 1 ≤ d) (g9 : d ≤ 9) (hl : d < s.size) (h58 : ((s[d].toNat : Int) != 58) = false)
    (h : (!(s.extract 0 d).toList == Lib.decDigits v) = false) : takeS (bl s) = if s.size < d + 1 + v + 1 then ([], [], 9) else if (bl s)[d + 1 + v]? ≠ some 44 then ([], [], 3) else (((bl s).drop (d + 1)).take v, (bl s).drop (d + 1 + v + 1), 0) := by
  rw [cmp_digs s d v h1 hv g1] at h
  have hz : ¬ (1 < d ∧ (bl s)[0]? = some 48) := by
    intro hc
    rw [decide_eq_true hc] at h
    cases h
  have e : (bl s).length = s.size := by simp
  have e58 : (bl s)[d]? = some 58 := by
    rw [bl_get? s d hl, some_u8]
    have : (s[d].toNat : Int) = 58 := by simpa using h58
    have e : (58 : UInt8).toNat = 58 := rfl
    omega
  unfold takeS
  rw [if_neg (bl_ne s h0), if_neg (by omega), if_neg (by omega), if_neg (by omega), h1, if_neg (by rw [e58]; simp), if_neg hz, ← hv, e]

set_option maxHeartbeats 2000000 in
theorem refTake_any (s : ByteArray) (w : World) (hs : s.size ≤ 100000) :
    Calls Tryd.prog 9 #[.string s] w fun e w' => e = .returned (tup (takeS (bl s))) ∧ Below w.heap.size w w' := by
  by_cases h0 : s.size = 0
  · have hE := emp_of s h0
    have HT : Hid (takeS (bl s) = ([], [], 9)) := by
      show takeS (bl s) = ([], [], 9)
      unfold takeS; rw [if_pos (emp_true s hE)]
    clear h0
    go_enter Tryd.func9, Tryd.ntmps9
    go_wp2
    go_ret3
    exact ⟨by rw [HT.out]; rfl, Below.refl _ _⟩
  · have hp : 0 < s.size := by omega
    have hE := emp_not s hp
    go_enter Tryd.func9, Tryd.ntmps9
    go_wp2
    go_loop [5, 6] (fun k n => ∃ j : Nat, j ≤ (digs (bl s)).length ∧ j ≤ s.size ∧ k = .int .i64 j ∧ n = .int .i64 (val ((digs (bl s)).take (min j 9)))) (fun k _ => s.size - (intOf k).toNat)
    case atStart => exact ⟨0, Nat.zero_le _, by omega, rfl, rfl⟩
    case round =>
      obtain ⟨j, hj, hjs, rfl, rfl⟩ := hrel
      by_cases hD : ∃ h : j < s.size, isD s[j] = true
      · obtain ⟨hlt, hd⟩ := hD
        obtain ⟨h1, h2⟩ := isD_bounds hd
        have hst := digs_step (bl s) j hj (by simpa using hlt) hd
        by_cases h9 : j < 9
        · have hv := val_lt9 (bl s) (min j 9) (by omega)
          have HS : Hid (val ((digs (bl s)).take (min (j + 1) 9)) = 10 * val ((digs (bl s)).take (min j 9)) + (s[j].toNat - 48)) := by
            show val ((digs (bl s)).take (min (j + 1) 9)) = 10 * val ((digs (bl s)).take (min j 9)) + (s[j].toNat - 48)
            rw [show min (j + 1) 9 = j + 1 by omega, show min j 9 = j by omega, val_digs_snoc s j hlt hst]
          clear hd
          go_wp2
          go_round
          case rel => exact ⟨j + 1, by omega, by omega, by go_num, by rw [HS.out]; go_num⟩
          case measure => simp [intOf]; omega
        · have HS : Hid (min (j + 1) 9 = min j 9) := by
            show min (j + 1) 9 = min j 9
            omega
          clear hd
          go_wp2
          go_round
          case rel => exact ⟨j + 1, by omega, by omega, by go_num, by rw [HS.out]⟩
          case measure => simp [intOf]; omega
      · have hend : (digs (bl s)).length = j := digs_end s j hj hjs hD
        have HE := Lib.hid hend
        clear hend hj
        by_cases hlt : j < s.size
        · have hn : s[j].toNat < 48 ∨ 57 < s[j].toNat := by
            rcases Nat.lt_or_ge s[j].toNat 48 with h | h
            · exact .inl h
            · rcases Nat.lt_or_ge 57 s[j].toNat with h' | h'
              · exact .inr h'
              · exact absurd ⟨hlt, isD_of h h'⟩ hD
          clear hD
          by_cases c0 : j = 0
          · subst c0
            have HT := Lib.hid (take3 s hp HE.out)
            rcases hn with hn | hn
            all_goals
              go_wp2
              go_ret3
              exact ⟨by rw [HT.out]; rfl, Below.refl _ _⟩
          have e0 : ((j : Int) == 0) = false := by simpa using c0
          by_cases c9 : 9 < j
          · have HT := Lib.hid (take2 s hp (by rw [HE.out]; exact c9))
            rcases hn with hn | hn
            all_goals
              go_wp2
              go_ret3
              exact ⟨by rw [HT.out]; rfl, Below.refl _ _⟩
          have hv := val_lt9 (bl s) (min j 9) (by omega)
          have HV : Hid (val ((digs (bl s)).take (min j 9)) = val (digs (bl s))) := by
            show val ((digs (bl s)).take (min j 9)) = val (digs (bl s))
            rw [List.take_of_length_le]
            have := HE.out
            omega
          generalize val ((digs (bl s)).take (min j 9)) = v at *
          by_cases c58 : ((s[j].toNat : Int) != 58) = true
          · have HT := Lib.hid (take3b s j hp HE.out (by omega) (by omega) hlt (.inl c58))
            rcases hn with hn | hn
            all_goals
              go_wp2
              go_quiet (fail)
              go_wp2
              go_ret3
              exact ⟨by rw [HT.out]; rfl, below_drewN (Below.refl _ _) _⟩
          have c58' : ((s[j].toNat : Int) != 58) = false := by simpa using c58
          have hn2 : 57 < s[j].toNat := by
            have : (s[j].toNat : Int) = 58 := by simpa using c58
            omega
          clear hn c58
          go_wp2
          go_region_with ((go_at_call 21; refine (digits_any _ _ (by omega)).mono ?_; rintro e w' ⟨rfl, hb1⟩))
          have hb : Below w.heap.size w w' := ((Below.refl w.heap.size w).drew).trans hb1
          clear hb1
          go_wp2
          · have hq : (!(s.extract 0 j).toList == Lib.decDigits v) = true := by assumption
            go_ret3
            exact ⟨by rw [take3c s j v hp HE.out HV.out (by omega) (by omega) hlt hq]; rfl, hb⟩
          · have hq : (!(s.extract 0 j).toList == Lib.decDigits v) = false := by assumption
            have T := takeT s j v hp HE.out HV.out (by omega) (by omega) hlt c58' hq
            go_ret3
            exact ⟨by rw [T, if_pos (by omega)]; rfl, hb⟩
          · have hq : (!(s.extract 0 j).toList == Lib.decDigits v) = false := by assumption
            have hx : v < (s.extract (j + 1) s.size).size := by simp [ByteArray.size_extract]; omega
            have h44 : (((s.extract (j + 1) s.size)[v].toNat : Int) != 44) = true := by assumption
            have T := takeT s j v hp HE.out HV.out (by omega) (by omega) hlt c58' hq
            go_ret3
            exact ⟨by rw [take_form s j v hx h44 (by omega) T]; rfl, hb⟩
          · have hq : (!(s.extract 0 j).toList == Lib.decDigits v) = false := by assumption
            have hx : v < (s.extract (j + 1) s.size).size := by simp [ByteArray.size_extract]; omega
            have h44 : (((s.extract (j + 1) s.size)[v].toNat : Int) != 44) = false := by assumption
            have T := Lib.hid (takeT s j v hp HE.out HV.out (by omega) (by omega) hlt c58' hq)
            have HX := Lib.hid hx
            go_quiet (fail)
            go_wp2
            go_ret3
            refine ⟨?_, below_drewN hb _⟩
            rw [take_fine_ret s j v HX.out h44 (by omega) T.out]
            rfl
        · have ej : j = s.size := by omega
          subst ej
          clear hD hlt hjs
          have e0 : ((s.size : Int) == 0) = false := beq_eq_false_iff_ne.2 (by omega)
          by_cases c9 : 9 < s.size
          · have HT := Lib.hid (take2 s hp (by rw [HE.out]; exact c9))
            go_wp2
            go_ret3
            exact ⟨by rw [HT.out]; rfl, Below.refl _ _⟩
          · have HT := Lib.hid (take9 s hp HE.out (by omega))
            go_wp2
            go_ret3
            exact ⟨by rw [HT.out]; rfl, Below.refl _ _⟩
end Go.Proofs.YtpjbhcampfjgdaaDoor
