/-
  The walk of the law NetsRows.
-/
import Derived.Test.YtpjbhcampfjgdaaDoorWalkG
namespace Go.Proofs.YtpjbhcampfjgdaaDoor
open Go.RowKit

theorem texts_0 (s : ByteArray) (ts : List (List UInt8)) (w : World) (hs : s.size ≤ 100000) (H : Hid (textsS (bl s) = (ts, 0))) :
    Calls Tryd.prog 12 #[.string s] w fun e w' => ∃ a cap, e = .returned (.tuple #[.slice a ts.length cap, .int .i64 0]) ∧ Hid (Reads w' (.slice a ts.length cap) (ts.map ba)) ∧ Below w.heap.size w w' := by
  refine (texts_any s w hs).mono fun e w' h => ?_
  obtain ⟨v, rfl, hr, hb⟩ := h
  rw [H.out] at hr ⊢
  obtain ⟨a, cap, rfl⟩ := hr.form
  simp only [List.length_map] at hr ⊢
  exact ⟨a, cap, rfl, hr, hb⟩
theorem refTexts_0 (s : ByteArray) (ts : List (List UInt8)) (w : World) (hs : s.size ≤ 100000) (H : Hid (textsS (bl s) = (ts, 0))) :
    Calls Tryd.prog 13 #[.string s] w fun e w' => ∃ a cap, e = .returned (.tuple #[.slice a ts.length cap, .int .i64 0]) ∧ Hid (Reads w' (.slice a ts.length cap) (ts.map ba)) ∧ Below w.heap.size w w' := by
  refine (refTexts_any s w hs).mono fun e w' h => ?_
  obtain ⟨v, rfl, hr, hb⟩ := h
  rw [H.out] at hr ⊢
  obtain ⟨a, cap, rfl⟩ := hr.form
  simp only [List.length_map] at hr ⊢
  exact ⟨a, cap, rfl, hr, hb⟩
theorem texts_c (s : ByteArray) (c : Nat) (w : World) (hs : s.size ≤ 100000) (H : Hid (textsS (bl s) = ([], c))) :
    Calls Tryd.prog 12 #[.string s] w fun e w' => ∃ a cap, e = .returned (.tuple #[.slice a 0 cap, .int .i64 c]) ∧ Below w.heap.size w w' := by
  refine (texts_any s w hs).mono fun e w' h => ?_
  obtain ⟨v, rfl, hr, hb⟩ := h
  rw [H.out] at hr ⊢
  obtain ⟨a, cap, rfl⟩ := hr.form
  exact ⟨a, cap, rfl, hb⟩
theorem refTexts_c (s : ByteArray) (c : Nat) (w : World) (hs : s.size ≤ 100000) (H : Hid (textsS (bl s) = ([], c))) :
    Calls Tryd.prog 13 #[.string s] w fun e w' => ∃ a cap, e = .returned (.tuple #[.slice a 0 cap, .int .i64 c]) ∧ Below w.heap.size w w' := by
  refine (refTexts_any s w hs).mono fun e w' h => ?_
  obtain ⟨v, rfl, hr, hb⟩ := h
  rw [H.out] at hr ⊢
  obtain ⟨a, cap, rfl⟩ := hr.form
  exact ⟨a, cap, rfl, hb⟩
theorem pick_0 (s : ByteArray) (n : Int) (ts : List (List UInt8)) (w : World) (hs : s.size ≤ 100000) (h1 : -9223372036854775808 ≤ n) (h2 : n ≤ 9223372036854775807) (H : Hid (pickS (bl s) n = (ts, 0))) :
    Calls Tryd.prog 14 #[.string s, .int .i64 n] w fun e w' => ∃ a cap, e = .returned (.tuple #[.slice a ts.length cap, .int .i64 0]) ∧ Hid (Reads w' (.slice a ts.length cap) (ts.map ba)) ∧ Below w.heap.size w w' := by
  refine (pick_any s n w hs h1 h2).mono fun e w' h => ?_
  obtain ⟨v, rfl, hr, hb⟩ := h
  rw [H.out] at hr ⊢
  obtain ⟨a, cap, rfl⟩ := hr.form
  simp only [List.length_map] at hr ⊢
  exact ⟨a, cap, rfl, hr, hb⟩
theorem pick_3 (s : ByteArray) (n : Int) (w : World) (hs : s.size ≤ 100000) (h1 : -9223372036854775808 ≤ n) (h2 : n ≤ 9223372036854775807) (H : Hid (pickS (bl s) n = ([], 3))) :
    Calls Tryd.prog 14 #[.string s, .int .i64 n] w fun e w' => ∃ a cap, e = .returned (.tuple #[.slice a 0 cap, .int .i64 3]) ∧ Below w.heap.size w w' := by
  refine (pick_any s n w hs h1 h2).mono fun e w' h => ?_
  obtain ⟨v, rfl, hr, hb⟩ := h
  rw [H.out] at hr ⊢
  obtain ⟨a, cap, rfl⟩ := hr.form
  exact ⟨a, cap, rfl, hb⟩
theorem pick_c (s : ByteArray) (n : Int) (c : Nat) (w : World) (hs : s.size ≤ 100000) (h1 : -9223372036854775808 ≤ n) (h2 : n ≤ 9223372036854775807) (H : Hid (pickS (bl s) n = ([], c))) :
    Calls Tryd.prog 14 #[.string s, .int .i64 n] w fun e w' => ∃ a cap, e = .returned (.tuple #[.slice a 0 cap, .int .i64 c]) ∧ Below w.heap.size w w' := by
  refine (pick_any s n w hs h1 h2).mono fun e w' h => ?_
  obtain ⟨v, rfl, hr, hb⟩ := h
  rw [H.out] at hr ⊢
  obtain ⟨a, cap, rfl⟩ := hr.form
  exact ⟨a, cap, rfl, hb⟩
theorem same_true (v u : Value) (xs : List ByteArray) (w : World) (hx : Reads w v xs) (hy : Reads w u xs) (hl : xs.length ≤ 100000) :
    Calls Tryd.prog 15 #[v, u] w fun e w' => e = .returned (.bool true) ∧ Below w.heap.size w w' := by
  refine (same_any v u xs xs w hx hy hl hl).mono fun e w' h => ?_
  rw [decide_eq_true rfl] at h
  exact h
theorem row_b (v : Value) (ss : List ByteArray) (x : ByteArray) (w : World) (hr : Reads w v ss) (hs : Small ss) (ht : Tab w) (H : Hid (bl x = rowS (ss.map bl))) :
    Calls Tryd.prog 16 #[v] w fun e w' => e = .returned (.string x) ∧ Below w.heap.size w w' := by
  have h := row_any v ss w hr hs ht
  rw [← H.out] at h
  exact h
theorem refRow_b (v : Value) (ss : List ByteArray) (x : ByteArray) (w : World) (hr : Reads w v ss) (hs : Small ss) (H : Hid (bl x = rowS (ss.map bl))) :
    Calls Tryd.prog 17 #[v] w fun e w' => e = .returned (.string x) ∧ Below w.heap.size w w' := by
  have h := refRow_any v ss w hr hs
  rw [← H.out] at h
  exact h
theorem row_ge (ls : List (List UInt8)) : ls.length * 3 ≤ (rowS ls).length ∧ ∀ l ∈ ls, l.length ≤ (rowS ls).length := by
  induction ls with
  | nil => simp [rowS]
  | cons l ls ih =>
    have e : rowS (l :: ls) = putS l ++ rowS ls := by simp [rowS]
    have h1 : 1 ≤ (Lib.decDigits l.length).length := List.length_pos_iff.2 (dec_ne _)
    have h2 : (putS l).length = (Lib.decDigits l.length).length + (l.length + 1 + 1) := by unfold putS; simp
    rw [e, List.length_append, List.length_cons]
    refine ⟨by have := ih.1; omega, fun x hx => ?_⟩
    rcases List.mem_cons.1 hx with rfl | hx
    · omega
    · have := ih.2 x hx; omega
theorem texts_small (s : ByteArray) (ts : List (List UInt8)) (h : textsS (bl s) = (ts, 0)) : ts.length * 3 ≤ s.size ∧ (∀ t ∈ ts, t.length ≤ s.size) ∧ rowS ts = bl s := by
  have hr := row_texts _ (bl s) (Nat.le_refl _) (by rw [h])
  rw [h] at hr
  have hg := row_ge ts
  have hr' : rowS ts = bl s := hr
  rw [hr', bl_len] at hg
  exact ⟨hg.1, hg.2, hr'⟩
theorem small_of (ss : List ByteArray) (h1 : ss.length ≤ 100) (h : ∀ i, i < ss.length → (ss.getD i ByteArray.empty).size ≤ 300) : Small ss := by
  refine ⟨by omega, fun s hs => ?_⟩
  obtain ⟨i, hi, rfl⟩ := List.mem_iff_getElem.1 hs
  have := h i hi
  rw [List.getD_eq_getElem?_getD, List.getElem?_eq_getElem hi] at this
  simp only [Option.getD_some] at this
  omega

def RowsAt (ss : List ByteArray) (i : Value) : Prop := ∃ k : Nat, k ≤ ss.length ∧ i = .int .i64 k ∧ Hid (∀ j, j < k → (ss.getD j ByteArray.empty).size ≤ 300)
theorem rows_step (ss : List ByteArray) (k : Nat) (h : Hid (∀ j, j < k → (ss.getD j ByteArray.empty).size ≤ 300)) (hk : (ss.getD k ByteArray.empty).size ≤ 300) : Hid (∀ j, j < k + 1 → (ss.getD j ByteArray.empty).size ≤ 300) := by
  show ∀ j, j < k + 1 → (ss.getD j ByteArray.empty).size ≤ 300
  intro j hj
  rcases Nat.lt_or_ge j k with h' | h'
  · exact h.out j h'
  · obtain rfl : j = k := by omega
    exact hk

/-- The two ways of a reading. -/
theorem texts_two (s : ByteArray) : (∃ c, textsS (bl s) = ([], c) ∧ c ≠ 0) ∨ (∃ ts, textsS (bl s) = (ts, 0)) := by
  by_cases h : (textsS (bl s)).2 = 0
  · exact .inr ⟨(textsS (bl s)).1, Prod.ext rfl h⟩
  · exact .inl ⟨(textsS (bl s)).2, Prod.ext (texts_bad _ _ (Nat.le_refl _) h) rfl, h⟩

set_option maxHeartbeats 4000000 in
theorem netsRows_nil (a : Option Addr) (cap : Nat) (s : ByteArray) (n : Int) (w : World) (h3 : s.size ≤ 3000) (h1 : -9223372036854775808 ≤ n) (h2 : n ≤ 9223372036854775807) (ht : Tab w) :
    Calls Tryd.prog 4 #[.slice a 0 cap, .string s, .int .i64 n] w fun e w' => e = .returned (.bool true) ∧ Below w.heap.size w w' := by
  have HT := Lib.hid ht
  clear ht
  obtain ⟨ss, hss⟩ : ∃ ss : List ByteArray, ss = [] := ⟨_, rfl⟩
  have HR : Hid (Reads w (.slice a 0 cap) ss) := .inl ⟨a, cap, rfl, hss⟩
  have HS : Hid (Small ss) := by rw [hss]; exact ⟨by simp, by simp⟩
  obtain ⟨x, hx⟩ : ∃ x, bl x = rowS (ss.map bl) := ⟨ba (rowS (ss.map bl)), bl_ba _⟩
  have HX := Lib.hid hx
  clear hx hss
  have hT := texts_two s
  go_enter Tryd.func4, Tryd.ntmps4
  go_wp2_with fail
  go_loop [7] (fun i => i = .int .i64 0) (fun i => 0 - (intOf i).toNat)
  case atStart => exact rfl
  case round =>
    subst hrel
    rcases hT with ⟨c, hT, hc⟩ | ⟨ts, hT⟩
    · have hne : ((c : Int) != 0) = true := by simpa using hc
      have hne2 : ((c : Int) == 0) = false := by simpa using hc
      have HP : Hid (pickS (bl s) n = ([], c)) := by
        show pickS (bl s) n = ([], c)
        unfold pickS; rw [hT, if_pos hc]
      have H := Lib.hid hT
      clear hT hc
      go_wp2_with (go_at_call 12; refine (texts_c s c _ (by omega) H).mono ?_; rintro e w1 ⟨a1, c1, rfl, hb1⟩)
      refine (refTexts_c s c _ (by omega) H).mono ?_
      rintro e w2 ⟨a2, c2, rfl, hb2⟩
      have HB2 : Hid (Below w.heap.size w w2) := hb1.trans (hb2.mono hb1.size)
      go_wp2_with fail
      refine (pick_c s n c _ (by omega) h1 h2 HP).mono ?_
      rintro e w3 ⟨a3, c3, rfl, hb3⟩
      have HB3 : Hid (Below w.heap.size w w3) := HB2.out.trans (hb3.mono HB2.out.size)
      go_wp2_with fail
      refine (same_true (.slice a1 0 c1) (.slice a2 0 c2) [] _ (.inl ⟨a1, c1, rfl, rfl⟩) (.inl ⟨a2, c2, rfl, rfl⟩) (by simp)).mono ?_
      rintro e w4 ⟨rfl, hb4⟩
      have HB4 : Hid (Below w.heap.size w w4) := HB3.out.trans (hb4.mono HB3.out.size)
      go_wp2_with fail
      refine (row_b (.slice a 0 cap) ss x _ (HR.out.below HB4.out) HS.out (HT.out.below HB4.out) HX).mono ?_
      rintro e w5 ⟨rfl, hb5⟩
      have HB5 : Hid (Below w.heap.size w w5) := HB4.out.trans (hb5.mono HB4.out.size)
      go_wp2_with fail
      refine (refRow_b (.slice a 0 cap) ss x _ (HR.out.below HB5.out) HS.out HX).mono ?_
      rintro e w6 ⟨rfl, hb6⟩
      have HB6 : Hid (Below w.heap.size w w6) := HB5.out.trans (hb6.mono HB5.out.size)
      go_wp2_with fail
      refine (works_any _ (HT.out.below HB6.out)).mono ?_
      rintro e w7 ⟨rfl, hb7⟩
      go_wp2_with fail
      go_ret
      exact ⟨rfl, HB6.out.trans (hb7.mono HB6.out.size)⟩
    · have hts := texts_small s ts hT
      have htl : ts.length ≤ 3000 := by omega
      have HL : Hid ((ts.map ba).length ≤ 100000) := by
        show (ts.map ba).length ≤ 100000
        simp; omega
      have H := Lib.hid hT
      by_cases hn : (ts.length : Int) = n
      · have hn2 : ((ts.length : Int) != n) = false := by simpa using hn
        have HP : Hid (pickS (bl s) n = (ts, 0)) := by
          show pickS (bl s) n = (ts, 0)
          unfold pickS; rw [hT, if_neg (by simp), if_neg (by simpa using hn)]
        clear hT hn hts
        go_wp2_with (go_at_call 12; refine (texts_0 s ts _ (by omega) H).mono ?_; rintro e w1 ⟨a1, c1, rfl, R1, hb1⟩)
        refine (refTexts_0 s ts _ (by omega) H).mono ?_
        rintro e w2 ⟨a2, c2, rfl, R2, hb2⟩
        have HB2 : Hid (Below w.heap.size w w2) := hb1.trans (hb2.mono hb1.size)
        go_wp2_with fail
        refine (pick_0 s n ts _ (by omega) h1 h2 HP).mono ?_
        rintro e w3 ⟨a3, c3, rfl, R3, hb3⟩
        have HB3 : Hid (Below w.heap.size w w3) := HB2.out.trans (hb3.mono HB2.out.size)
        go_wp2_with fail
        refine (same_true (.slice a1 ts.length c1) (.slice a2 ts.length c2) (ts.map ba) _ ((R1.out.below hb2).below hb3) (R2.out.below hb3) HL.out).mono ?_
        rintro e w4 ⟨rfl, hb4⟩
        have HB4 : Hid (Below w.heap.size w w4) := HB3.out.trans (hb4.mono HB3.out.size)
        go_wp2_with fail
        refine (row_b (.slice a 0 cap) ss x _ (HR.out.below HB4.out) HS.out (HT.out.below HB4.out) HX).mono ?_
        rintro e w5 ⟨rfl, hb5⟩
        have HB5 : Hid (Below w.heap.size w w5) := HB4.out.trans (hb5.mono HB4.out.size)
        go_wp2_with fail
        refine (refRow_b (.slice a 0 cap) ss x _ (HR.out.below HB5.out) HS.out HX).mono ?_
        rintro e w6 ⟨rfl, hb6⟩
        have HB6 : Hid (Below w.heap.size w w6) := HB5.out.trans (hb6.mono HB5.out.size)
        go_wp2_with fail
        refine (same_true (.slice a3 ts.length c3) (.slice a2 ts.length c2) (ts.map ba) _ (((R3.out.below hb4).below hb5).below hb6) ((((R2.out.below hb3).below hb4).below hb5).below hb6) HL.out).mono ?_
        rintro e w7 ⟨rfl, hb7⟩
        have HB7 : Hid (Below w.heap.size w w7) := HB6.out.trans (hb7.mono HB6.out.size)
        go_wp2_with fail
        refine (works_any _ (HT.out.below HB7.out)).mono ?_
        rintro e w8 ⟨rfl, hb8⟩
        go_wp2_with fail
        go_ret
        exact ⟨rfl, HB7.out.trans (hb8.mono HB7.out.size)⟩
      · have hn2 : ((ts.length : Int) != n) = true := by simpa using hn
        have HP : Hid (pickS (bl s) n = ([], 3)) := by
          show pickS (bl s) n = ([], 3)
          unfold pickS; rw [hT, if_neg (by simp), if_pos hn]
        clear hT hn hts
        go_wp2_with (go_at_call 12; refine (texts_0 s ts _ (by omega) H).mono ?_; rintro e w1 ⟨a1, c1, rfl, R1, hb1⟩)
        refine (refTexts_0 s ts _ (by omega) H).mono ?_
        rintro e w2 ⟨a2, c2, rfl, R2, hb2⟩
        have HB2 : Hid (Below w.heap.size w w2) := hb1.trans (hb2.mono hb1.size)
        go_wp2_with fail
        refine (pick_3 s n _ (by omega) h1 h2 HP).mono ?_
        rintro e w3 ⟨a3, c3, rfl, hb3⟩
        have HB3 : Hid (Below w.heap.size w w3) := HB2.out.trans (hb3.mono HB2.out.size)
        go_wp2_with fail
        refine (same_true (.slice a1 ts.length c1) (.slice a2 ts.length c2) (ts.map ba) _ ((R1.out.below hb2).below hb3) (R2.out.below hb3) HL.out).mono ?_
        rintro e w4 ⟨rfl, hb4⟩
        have HB4 : Hid (Below w.heap.size w w4) := HB3.out.trans (hb4.mono HB3.out.size)
        go_wp2_with fail
        refine (row_b (.slice a 0 cap) ss x _ (HR.out.below HB4.out) HS.out (HT.out.below HB4.out) HX).mono ?_
        rintro e w5 ⟨rfl, hb5⟩
        have HB5 : Hid (Below w.heap.size w w5) := HB4.out.trans (hb5.mono HB4.out.size)
        go_wp2_with fail
        refine (refRow_b (.slice a 0 cap) ss x _ (HR.out.below HB5.out) HS.out HX).mono ?_
        rintro e w6 ⟨rfl, hb6⟩
        have HB6 : Hid (Below w.heap.size w w6) := HB5.out.trans (hb6.mono HB5.out.size)
        go_wp2_with fail
        refine (works_any _ (HT.out.below HB6.out)).mono ?_
        rintro e w7 ⟨rfl, hb7⟩
        go_wp2_with fail
        go_ret
        exact ⟨rfl, HB6.out.trans (hb7.mono HB6.out.size)⟩

set_option maxHeartbeats 4000000 in
theorem netsRows_some (b off cap : Nat) (ss : List ByteArray) (s : ByteArray) (n : Int) (w : World) (hr : Reads w (.slice (some ⟨b, off, none⟩) ss.length cap) ss) (hl : ss.length ≤ 100) (hz : ∀ i, i < ss.length → (ss.getD i ByteArray.empty).size ≤ 9223372036854775807)
    (hc : ∀ i, i < ss.length → w.cell? ⟨b, off + i, none⟩ = some (.string (ss.getD i ByteArray.empty))) (h3 : s.size ≤ 3000) (h1 : -9223372036854775808 ≤ n) (h2 : n ≤ 9223372036854775807) (ht : Tab w) :
    Calls Tryd.prog 4 #[.slice (some ⟨b, off, none⟩) ss.length cap, .string s, .int .i64 n] w fun e w' => e = .returned (.bool true) ∧ Below w.heap.size w w' := by
  have HT := Lib.hid ht
  have HR := Lib.hid hr
  have HC := Lib.hid hc
  have HZ := Lib.hid hz
  clear ht hr hc hz
  obtain ⟨x, hx⟩ : ∃ x, bl x = rowS (ss.map bl) := ⟨ba (rowS (ss.map bl)), bl_ba _⟩
  have HX := Lib.hid hx
  clear hx
  have hT := texts_two s
  go_enter Tryd.func4, Tryd.ntmps4
  go_wp2_with fail
  go_loop [7] (fun i => RowsAt ss i) (fun i => ss.length - (intOf i).toNat)
  case atStart => exact ⟨0, Nat.zero_le _, rfl, fun j hj => absurd hj (Nat.not_lt_zero j)⟩
  case round =>
    obtain ⟨k, hk, rfl, HA⟩ := hrel
    by_cases hlt : k < ss.length
    · clear hT
      have hcell := HC.out k hlt
      have hzk := HZ.out k hlt
      have HG := Lib.hid (rows_step ss k HA)
      generalize ss.getD k ByteArray.empty = y at *
      by_cases hy : y.size ≤ 300
      · go_wp2_with fail
        go_round
        case rel => exact ⟨k + 1, by omega, by simp, HG.out hy⟩
        case measure => simp [intOf]; omega
      · go_wp2_with (go_at_call 7; refine (works_any _ HT.out).mono ?_; rintro e w5 ⟨rfl, hb5⟩)
        go_ret
        exact ⟨rfl, hb5⟩
    · have HS : Hid (Small ss) := small_of ss hl fun i hi => HA.out i (by omega)
      rcases hT with ⟨c, hT, hc⟩ | ⟨ts, hT⟩
      · have hne : ((c : Int) != 0) = true := by simpa using hc
        have hne2 : ((c : Int) == 0) = false := by simpa using hc
        have HP : Hid (pickS (bl s) n = ([], c)) := by
          show pickS (bl s) n = ([], c)
          unfold pickS; rw [hT, if_pos hc]
        have H := Lib.hid hT
        clear hT hc
        go_wp2_with (go_at_call 12; refine (texts_c s c _ (by omega) H).mono ?_; rintro e w1 ⟨a1, c1, rfl, hb1⟩)
        refine (refTexts_c s c _ (by omega) H).mono ?_
        rintro e w2 ⟨a2, c2, rfl, hb2⟩
        have HB2 : Hid (Below w.heap.size w w2) := hb1.trans (hb2.mono hb1.size)
        go_wp2_with fail
        refine (pick_c s n c _ (by omega) h1 h2 HP).mono ?_
        rintro e w3 ⟨a3, c3, rfl, hb3⟩
        have HB3 : Hid (Below w.heap.size w w3) := HB2.out.trans (hb3.mono HB2.out.size)
        go_wp2_with fail
        refine (same_true (.slice a1 0 c1) (.slice a2 0 c2) [] _ (.inl ⟨a1, c1, rfl, rfl⟩) (.inl ⟨a2, c2, rfl, rfl⟩) (by simp)).mono ?_
        rintro e w4 ⟨rfl, hb4⟩
        have HB4 : Hid (Below w.heap.size w w4) := HB3.out.trans (hb4.mono HB3.out.size)
        go_wp2_with fail
        refine (row_b (.slice (some ⟨b, off, none⟩) ss.length cap) ss x _ (HR.out.below HB4.out) HS.out (HT.out.below HB4.out) HX).mono ?_
        rintro e w5 ⟨rfl, hb5⟩
        have HB5 : Hid (Below w.heap.size w w5) := HB4.out.trans (hb5.mono HB4.out.size)
        go_wp2_with fail
        refine (refRow_b (.slice (some ⟨b, off, none⟩) ss.length cap) ss x _ (HR.out.below HB5.out) HS.out HX).mono ?_
        rintro e w6 ⟨rfl, hb6⟩
        have HB6 : Hid (Below w.heap.size w w6) := HB5.out.trans (hb6.mono HB5.out.size)
        go_wp2_with fail
        refine (works_any _ (HT.out.below HB6.out)).mono ?_
        rintro e w7 ⟨rfl, hb7⟩
        go_wp2_with fail
        go_ret
        exact ⟨rfl, HB6.out.trans (hb7.mono HB6.out.size)⟩
      · have hts := texts_small s ts hT
        have htl : ts.length ≤ 3000 := by omega
        have HL : Hid ((ts.map ba).length ≤ 100000) := by
          show (ts.map ba).length ≤ 100000
          simp; omega
        have H := Lib.hid hT
        by_cases hn : (ts.length : Int) = n
        · have hn2 : ((ts.length : Int) != n) = false := by simpa using hn
          have HP : Hid (pickS (bl s) n = (ts, 0)) := by
            show pickS (bl s) n = (ts, 0)
            unfold pickS; rw [hT, if_neg (by simp), if_neg (by simpa using hn)]
          clear hT hn hts
          go_wp2_with (go_at_call 12; refine (texts_0 s ts _ (by omega) H).mono ?_; rintro e w1 ⟨a1, c1, rfl, R1, hb1⟩)
          refine (refTexts_0 s ts _ (by omega) H).mono ?_
          rintro e w2 ⟨a2, c2, rfl, R2, hb2⟩
          have HB2 : Hid (Below w.heap.size w w2) := hb1.trans (hb2.mono hb1.size)
          go_wp2_with fail
          refine (pick_0 s n ts _ (by omega) h1 h2 HP).mono ?_
          rintro e w3 ⟨a3, c3, rfl, R3, hb3⟩
          have HB3 : Hid (Below w.heap.size w w3) := HB2.out.trans (hb3.mono HB2.out.size)
          go_wp2_with fail
          refine (same_true (.slice a1 ts.length c1) (.slice a2 ts.length c2) (ts.map ba) _ ((R1.out.below hb2).below hb3) (R2.out.below hb3) HL.out).mono ?_
          rintro e w4 ⟨rfl, hb4⟩
          have HB4 : Hid (Below w.heap.size w w4) := HB3.out.trans (hb4.mono HB3.out.size)
          go_wp2_with fail
          refine (row_b (.slice (some ⟨b, off, none⟩) ss.length cap) ss x _ (HR.out.below HB4.out) HS.out (HT.out.below HB4.out) HX).mono ?_
          rintro e w5 ⟨rfl, hb5⟩
          have HB5 : Hid (Below w.heap.size w w5) := HB4.out.trans (hb5.mono HB4.out.size)
          go_wp2_with fail
          refine (refRow_b (.slice (some ⟨b, off, none⟩) ss.length cap) ss x _ (HR.out.below HB5.out) HS.out HX).mono ?_
          rintro e w6 ⟨rfl, hb6⟩
          have HB6 : Hid (Below w.heap.size w w6) := HB5.out.trans (hb6.mono HB5.out.size)
          go_wp2_with fail
          refine (same_true (.slice a3 ts.length c3) (.slice a2 ts.length c2) (ts.map ba) _ (((R3.out.below hb4).below hb5).below hb6) ((((R2.out.below hb3).below hb4).below hb5).below hb6) HL.out).mono ?_
          rintro e w7 ⟨rfl, hb7⟩
          have HB7 : Hid (Below w.heap.size w w7) := HB6.out.trans (hb7.mono HB6.out.size)
          go_wp2_with fail
          refine (works_any _ (HT.out.below HB7.out)).mono ?_
          rintro e w8 ⟨rfl, hb8⟩
          go_wp2_with fail
          go_ret
          exact ⟨rfl, HB7.out.trans (hb8.mono HB7.out.size)⟩
        · have hn2 : ((ts.length : Int) != n) = true := by simpa using hn
          have HP : Hid (pickS (bl s) n = ([], 3)) := by
            show pickS (bl s) n = ([], 3)
            unfold pickS; rw [hT, if_neg (by simp), if_pos hn]
          clear hT hn hts
          go_wp2_with (go_at_call 12; refine (texts_0 s ts _ (by omega) H).mono ?_; rintro e w1 ⟨a1, c1, rfl, R1, hb1⟩)
          refine (refTexts_0 s ts _ (by omega) H).mono ?_
          rintro e w2 ⟨a2, c2, rfl, R2, hb2⟩
          have HB2 : Hid (Below w.heap.size w w2) := hb1.trans (hb2.mono hb1.size)
          go_wp2_with fail
          refine (pick_3 s n _ (by omega) h1 h2 HP).mono ?_
          rintro e w3 ⟨a3, c3, rfl, hb3⟩
          have HB3 : Hid (Below w.heap.size w w3) := HB2.out.trans (hb3.mono HB2.out.size)
          go_wp2_with fail
          refine (same_true (.slice a1 ts.length c1) (.slice a2 ts.length c2) (ts.map ba) _ ((R1.out.below hb2).below hb3) (R2.out.below hb3) HL.out).mono ?_
          rintro e w4 ⟨rfl, hb4⟩
          have HB4 : Hid (Below w.heap.size w w4) := HB3.out.trans (hb4.mono HB3.out.size)
          go_wp2_with fail
          refine (row_b (.slice (some ⟨b, off, none⟩) ss.length cap) ss x _ (HR.out.below HB4.out) HS.out (HT.out.below HB4.out) HX).mono ?_
          rintro e w5 ⟨rfl, hb5⟩
          have HB5 : Hid (Below w.heap.size w w5) := HB4.out.trans (hb5.mono HB4.out.size)
          go_wp2_with fail
          refine (refRow_b (.slice (some ⟨b, off, none⟩) ss.length cap) ss x _ (HR.out.below HB5.out) HS.out HX).mono ?_
          rintro e w6 ⟨rfl, hb6⟩
          have HB6 : Hid (Below w.heap.size w w6) := HB5.out.trans (hb6.mono HB5.out.size)
          go_wp2_with fail
          refine (works_any _ (HT.out.below HB6.out)).mono ?_
          rintro e w7 ⟨rfl, hb7⟩
          go_wp2_with fail
          go_ret
          exact ⟨rfl, HB6.out.trans (hb7.mono HB6.out.size)⟩

end Go.Proofs.YtpjbhcampfjgdaaDoor
