/-
  Walks of the laws LexScans, LexDeep, LexWrites.
-/
import Derived.Test.YtjdlhfjmcghdlaaLexRefC
import Derived.Test.YtjdlhfjmcghdlaaLexLawA
namespace Go.Proofs.Ytjdlhfjmcghdlaa.Lex
open Go Go.RowKit

theorem scan_len (l : List UInt8) : (scan l).2.length ≤ 2 * l.length := by
  rcases scan_cases l with ⟨T, hT⟩ | ⟨c, hc, hT⟩
  · have h1 := (scan_ok hT).2
    have h2 := len_cost T
    rw [hT]
    show T.length ≤ _
    omega
  · rw [hT]
    exact Nat.zero_le _
set_option maxRecDepth 100000 in
set_option maxHeartbeats 4000000 in
theorem lexScans_any (s : ByteArray) (w : World) (_hs : s.size < 9223372036854775808) : Calls Try.prog 3 #[.string s] w (TruePost w) := by
  have HW := Lib.hid (fun W => works_any W)
  by_cases hlen : s.size ≤ 1000
  · have hd : decide ((1000 : Int) < (s.size : Int)) = false := decide_eq_false (by omega)
    have HS := Lib.hid (fun W => scan_any s W (by omega))
    have HR := Lib.hid (fun W => refScan_any s W (by omega))
    have hsl := scan_len (bl s)
    rw [bl_len] at hsl
    have HM := Lib.hid (fun v u W (h1 : ReadsT W v (scan (bl s)).2) (h2 : ReadsT W u (scan (bl s)).2) => same_any v u (scan (bl s)).2 W h1 h2 (by omega))
    unfold ScanPost at HS HR
    clear hsl
    generalize scan (bl s) = X at *
    obtain ⟨c, T⟩ := X
    have hcc : ((c : Int) == (c : Int)) = true := beq_self_eq_true _
    go_enter Try.func3, Try.ntmps3
    go_wp2_with fail
    refine (HS.out _).mono ?_
    rintro e w2 ⟨v, rfl, hr, hb⟩
    have HR2 := Lib.hid hr
    have HB2 := Lib.hid hb
    clear hr hb
    go_wp2_with fail
    refine (HR.out _).mono ?_
    rintro e w3 ⟨u, rfl, hr, hb⟩
    have HR3 := Lib.hid (And.intro (HR2.out.below hb) hr)
    have HB3 := Lib.hid (HB2.out.trans (hb.mono HB2.out.size))
    clear hr hb
    go_wp2_with fail
    refine (HM.out _ _ _ HR3.out.1 HR3.out.2).mono ?_
    rintro e w4 ⟨rfl, hb⟩
    have HB4 := Lib.hid (HB3.out.trans (hb.mono HB3.out.size))
    clear hb
    go_wp2_with fail
    refine (HW.out _).mono ?_
    rintro e w5 ⟨rfl, hb⟩
    have HB5 := Lib.hid (HB4.out.trans (hb.mono HB4.out.size))
    clear hb
    go_wp2_with fail
    go_ret
    exact ⟨rfl, HB5.out⟩
  · have hd : decide ((1000 : Int) < (s.size : Int)) = true := decide_eq_true (by omega)
    go_enter Try.func3, Try.ntmps3
    go_wp2_with fail
    refine (HW.out _).mono ?_
    rintro e w1 ⟨rfl, hb⟩
    have HB := Lib.hid hb
    clear hb
    go_wp2_with fail
    go_ret
    exact ⟨rfl, HB.out⟩
set_option maxRecDepth 100000 in
set_option maxHeartbeats 4000000 in
theorem lexDeep_in (n : Nat) (s : ByteArray) (w : World) (hn : n ≤ 40) (hs : s.size ≤ 100) : Calls Try.prog 5 #[.int .i64 n, .string s] w (TruePost w) := by
  have HW := Lib.hid (fun W => works_any W)
  have hd0 : decide ((n : Int) < 0) = false := decide_eq_false (by omega)
  have hd1 : decide ((40 : Int) < (n : Int)) = false := decide_eq_false (by omega)
  have hd2 : decide ((100 : Int) < (s.size : Int)) = false := decide_eq_false (by omega)
  have HSZ := Lib.hid hs
  go_enter Try.func5, Try.ntmps5
  go_wp2_with fail
  go_loopw [5, 6] (fun tv i wr => ∃ (k : Nat) (t : ByteArray), k ≤ n ∧ i = .int .i64 k ∧ tv = .string t ∧ t.size ≤ 100 + 2 * k ∧ wr = w) (fun _ i _ => n - (intOf i).toNat)
  case atStart => exact ⟨0, s, Nat.zero_le _, rfl, rfl, by have := HSZ.out; omega, rfl⟩
  case round =>
    obtain ⟨k, t, hk, rfl, rfl, ht, rfl⟩ := hrel
    by_cases hlt : k < n
    · have hz : ((⟨#[40]⟩ : ByteArray) ++ t).size = 1 + t.size := by rw [ByteArray.size_append]; rfl
      have hz2 : ((⟨#[40]⟩ : ByteArray) ++ t ++ ⟨#[41]⟩).size = 2 + t.size := by
        rw [ByteArray.size_append, hz]
        have : (⟨#[41]⟩ : ByteArray).size = 1 := rfl
        omega
      have HZ := Lib.hid hz2
      clear hz2
      go_wp2_with fail
      go_roundw
      case rel => exact ⟨k + 1, _, by omega, by simp, rfl, by rw [HZ.out]; omega, trivial⟩
      case measure => simp [intOf]; omega
    · have ht2 : t.size ≤ 1000 := by omega
      have HS := Lib.hid (fun W => scan_any t W (by omega))
      have HR := Lib.hid (fun W => refScan_any t W (by omega))
      have hsl := scan_len (bl t)
      rw [bl_len] at hsl
      have HM := Lib.hid (fun v u W (h1 : ReadsT W v (scan (bl t)).2) (h2 : ReadsT W u (scan (bl t)).2) => same_any v u (scan (bl t)).2 W h1 h2 (by omega))
      unfold ScanPost at HS HR
      clear hsl
      generalize scan (bl t) = X at *
      obtain ⟨c, T⟩ := X
      have hcc : ((c : Int) == (c : Int)) = true := beq_self_eq_true _
      go_wp2_with fail
      refine (HS.out _).mono ?_
      rintro e w2 ⟨v, rfl, hr, hb⟩
      have HR2 := Lib.hid hr
      have HB2 := Lib.hid hb
      clear hr hb
      go_wp2_with fail
      refine (HR.out _).mono ?_
      rintro e w3 ⟨u, rfl, hr, hb⟩
      have HR3 := Lib.hid (And.intro (HR2.out.below hb) hr)
      have HB3 := Lib.hid (HB2.out.trans (hb.mono HB2.out.size))
      clear hr hb
      go_wp2_with fail
      refine (HM.out _ _ _ HR3.out.1 HR3.out.2).mono ?_
      rintro e w4 ⟨rfl, hb⟩
      have HB4 := Lib.hid (HB3.out.trans (hb.mono HB3.out.size))
      clear hb
      go_wp2_with fail
      refine (HW.out _).mono ?_
      rintro e w5 ⟨rfl, hb⟩
      have HB5 := Lib.hid (HB4.out.trans (hb.mono HB4.out.size))
      clear hb
      go_wp2_with fail
      go_ret
      exact ⟨rfl, HB5.out⟩
set_option maxHeartbeats 4000000 in
theorem lexDeep_any (n : Int) (s : ByteArray) (w : World) (_h0 : -9223372036854775808 ≤ n) (_h1 : n ≤ 9223372036854775807) (_hs : s.size < 9223372036854775808) : Calls Try.prog 5 #[.int .i64 n, .string s] w (TruePost w) := by
  by_cases h0 : n < 0
  · have HW := Lib.hid (works_any w)
    have hd0 : decide (n < 0) = true := decide_eq_true h0
    go_enter Try.func5, Try.ntmps5
    go_wp2_with fail
    refine HW.out.mono ?_
    rintro e w1 ⟨rfl, hb⟩
    have HB := Lib.hid hb
    clear hb
    go_wp2_with fail
    go_ret
    exact ⟨rfl, HB.out⟩
  · have hd0 : decide (n < 0) = false := decide_eq_false h0
    by_cases h1 : 40 < n
    · have HW := Lib.hid (works_any w)
      have hd1 : decide (40 < n) = true := decide_eq_true h1
      go_enter Try.func5, Try.ntmps5
      go_wp2_with fail
      refine HW.out.mono ?_
      rintro e w1 ⟨rfl, hb⟩
      have HB := Lib.hid hb
      clear hb
      go_wp2_with fail
      go_ret
      exact ⟨rfl, HB.out⟩
    · have hd1 : decide (40 < n) = false := decide_eq_false h1
      by_cases h2 : s.size ≤ 100
      · obtain ⟨m, rfl⟩ : ∃ m : Nat, n = m := ⟨n.toNat, by omega⟩
        exact lexDeep_in m s w (by omega) h2
      · have HW := Lib.hid (works_any w)
        have hd2 : decide ((100 : Int) < (s.size : Int)) = true := decide_eq_true (by omega)
        go_enter Try.func5, Try.ntmps5
        go_wp2_with fail
        refine HW.out.mono ?_
        rintro e w1 ⟨rfl, hb⟩
        have HB := Lib.hid hb
        clear hb
        go_wp2_with fail
        go_ret
        exact ⟨rfl, HB.out⟩

/-! LexWrites. -/
theorem beq_any (s : ByteArray) : (s.toList == s.toList) = true := beq_self_eq_true _
theorem bool_eq (b : Bool) : (b == b) = true := by cases b <;> rfl
set_option maxRecDepth 100000 in
set_option maxHeartbeats 8000000 in
theorem lexWrites_in (s : ByteArray) (v : Value) (l : List Tk) (w : World) (hs : s.size ≤ 1000) (hl : l.length ≤ 50) (h : ReadsT w v l) : Calls Try.prog 4 #[.string s, v] w (TruePost w) := by
  obtain ⟨va, vc, rfl⟩ := h.shape
  obtain ⟨n, hn⟩ : ∃ n, n = l.length := ⟨_, rfl⟩
  have HH := Lib.hid h
  rw [← hn] at h hl HH ⊢
  have HV : Hid (∀ k e, l[k]? = some e → ∃ b off, va = some ⟨b, off, none⟩ ∧ b < w.heap.size ∧ w.rangeAt b (off + k * 2) (tkC e)) := Lib.hid (fun k e he => h.at_ k e he)
  have HW := Lib.hid (fun W => works_any W)
  have hd : decide ((1000 : Int) < (s.size : Int)) = false := decide_eq_false (by omega)
  have hd2 : decide ((50 : Int) < (n : Int)) = false := decide_eq_false (by omega)
  have HN := Lib.hid (And.intro hn hl)
  clear h hn
  go_enter Try.func4, Try.ntmps4
  go_wp2_with fail
  go_loopw [5] (fun i wr => ∃ k : Nat, k ≤ n ∧ i = .int .i64 k ∧ Hid (cost (l.take k) ≤ 101 * k) ∧ wr = w) (fun i _ => n - (intOf i).toNat)
  case atStart => exact ⟨0, Nat.zero_le _, rfl, Lib.hid (by simp [cost]), rfl⟩
  case round =>
    obtain ⟨k, hk, rfl, hc, rfl⟩ := hrel
    by_cases hlt : k < n
    · obtain ⟨e, he⟩ : ∃ e, l[k]? = some e := ⟨l[k]'(by have := HN.out.1; omega), List.getElem?_eq_getElem _⟩
      obtain ⟨b, off, rfl, hb0, hr0⟩ := HV.out k e he
      obtain ⟨c0, c1⟩ := two hr0
      have hct := costT he
      clear he hr0
      by_cases hz : e.text.size ≤ 100
      · have hd3 : decide ((100 : Int) < (e.text.size : Int)) = false := decide_eq_false (by omega)
        have HC : Hid (cost (l.take (k + 1)) ≤ 101 * (k + 1)) := Lib.hid (by have := hc.out; omega)
        clear hct
        go_wp2_with fail
        go_roundw
        case rel => exact ⟨k + 1, by omega, by simp, HC, trivial⟩
        case measure => simp [intOf]; omega
      · have hd3 : decide ((100 : Int) < (e.text.size : Int)) = true := decide_eq_true (by omega)
        clear hct
        by_cases hbig : e.text.size < 9223372036854775808
        · go_wp2_with fail
          refine (HW.out _).mono ?_
          rintro e w1 ⟨rfl, hb⟩
          have HB := Lib.hid hb
          clear hb
          go_wp2_with fail
          go_ret
          exact ⟨rfl, HB.out⟩
        · go_wp2_with fail
          refine (HW.out _).mono ?_
          rintro e w1 ⟨rfl, hb⟩
          have HB := Lib.hid hb
          clear hb
          go_wp2_with fail
          go_ret
          exact ⟨rfl, HB.out⟩
    · have hcost : cost l ≤ 10000 := by
        have h1 := hc.out
        rw [List.take_of_length_le (by have := HN.out.1; omega)] at h1
        have := HN.out.2
        omega
      have HA := Lib.hid (fun W => isAtom_any s W (by omega))
      have HA2 := Lib.hid (fun W => refIsAtom_any s W (by omega))
      have HQ := Lib.hid (fun W => quote_any s W (by omega))
      have HQ2 := Lib.hid (fun W => refQuote_any s W (by omega))
      have HD := Lib.hid (fun W => word_any s W (by omega))
      have HD2 := Lib.hid (fun W => refWord_any s W (by omega))
      have HTO := Lib.hid (fun v W (h : ReadsT W v l) => to_any v l W h (by have := HN.out; omega))
      have HP := Lib.hid (fun v W (h : ReadsT W v l) => print_any v l W h (by have := HN.out; omega) (by omega))
      have HP2 := Lib.hid (fun v W (h : ReadsT W v l) => refPrint_any v l W h (by have := HN.out; omega) (by omega))
      have q1 := beq_any (ba (quoteL (bl s)))
      have q2 := beq_any (ba (wordL (bl s)))
      have q3 := beq_any (ba (printL l))
      have q4 := bool_eq (atomB (bl s))
      generalize ba (quoteL (bl s)) = X1 at *
      generalize ba (wordL (bl s)) = X2 at *
      generalize ba (printL l) = X3 at *
      generalize atomB (bl s) = B at *
      clear hc hcost
      go_wp2_with fail
      refine (HA.out _).mono ?_
      rintro e w1 ⟨rfl, rfl⟩
      go_wp2_with fail
      refine (HA2.out _).mono ?_
      rintro e w1 ⟨rfl, rfl⟩
      go_wp2_with fail
      refine (HQ.out _).mono ?_
      rintro e w2 ⟨rfl, hb⟩
      have HR2 := Lib.hid (HH.out.below hb)
      have HB2 := Lib.hid hb
      clear hb
      go_wp2_with fail
      refine (HQ2.out _).mono ?_
      rintro e w3 ⟨rfl, rfl⟩
      go_wp2_with fail
      refine (HD.out _).mono ?_
      rintro e w3 ⟨rfl, hb⟩
      have HR3 := Lib.hid (HR2.out.below hb)
      have HB3 := Lib.hid (HB2.out.trans (hb.mono HB2.out.size))
      clear hb
      go_wp2_with fail
      refine (HD2.out _).mono ?_
      rintro e w4 ⟨rfl, rfl⟩
      go_wp2_with fail
      refine (HTO.out _ _ HR3.out).mono ?_
      rintro e w4 ⟨u, rfl, hr, hb⟩
      have HR4 := Lib.hid (And.intro (HR3.out.below hb) hr)
      have HB4 := Lib.hid (HB3.out.trans (hb.mono HB3.out.size))
      clear hb hr
      go_wp2_with fail
      refine (HP.out _ _ HR4.out.2).mono ?_
      rintro e w5 ⟨rfl, hb⟩
      have HR5 := Lib.hid (HR4.out.1.below hb)
      have HB5 := Lib.hid (HB4.out.trans (hb.mono HB4.out.size))
      clear hb
      go_wp2_with fail
      refine (HP2.out _ _ HR5.out).mono ?_
      rintro e w6 ⟨rfl, rfl⟩
      go_wp2_with fail
      refine (HW.out _).mono ?_
      rintro e w7 ⟨rfl, hb⟩
      have HB7 := Lib.hid (HB5.out.trans (hb.mono HB5.out.size))
      clear hb
      go_wp2_with fail
      go_ret
      exact ⟨rfl, HB7.out⟩
set_option maxHeartbeats 4000000 in
theorem lexWrites_any (s : ByteArray) (v : Value) (l : List Tk) (w : World) (_hs : s.size < 9223372036854775808) (hl : l.length < 9223372036854775808) (h : ReadsT w v l) : Calls Try.prog 4 #[.string s, v] w (TruePost w) := by
  by_cases hs : s.size ≤ 1000
  · by_cases hl2 : l.length ≤ 50
    · exact lexWrites_in s v l w hs hl2 h
    · obtain ⟨va, vc, rfl⟩ := h.shape
      have HW := Lib.hid (works_any w)
      have hd : decide ((1000 : Int) < (s.size : Int)) = false := decide_eq_false (by omega)
      have hd2 : decide ((50 : Int) < (l.length : Int)) = true := decide_eq_true (by omega)
      generalize l.length = n at *
      clear h
      go_enter Try.func4, Try.ntmps4
      go_wp2_with fail
      refine HW.out.mono ?_
      rintro e w1 ⟨rfl, hb⟩
      have HB := Lib.hid hb
      clear hb
      go_wp2_with fail
      go_ret
      exact ⟨rfl, HB.out⟩
  · have HW := Lib.hid (works_any w)
    have hd : decide ((1000 : Int) < (s.size : Int)) = true := decide_eq_true (by omega)
    go_enter Try.func4, Try.ntmps4
    go_wp2_with fail
    refine HW.out.mono ?_
    rintro e w1 ⟨rfl, hb⟩
    have HB := Lib.hid hb
    clear hb
    go_wp2_with fail
    go_ret
    exact ⟨rfl, HB.out⟩
end Go.Proofs.Ytjdlhfjmcghdlaa.Lex
