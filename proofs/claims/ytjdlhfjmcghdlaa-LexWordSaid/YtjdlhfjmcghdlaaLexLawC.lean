/-
  Walk of the law LexWord.
-/
import Derived.Test.YtjdlhfjmcghdlaaLexLawA
import Derived.Test.YtjdlhfjmcghdlaaLexRefA
namespace Go.Proofs.Ytjdlhfjmcghdlaa.Lex
open Go Go.RowKit

theorem one_read {w : World} {v : Value} {t : Tk} (h : ReadsT w v [t]) : ∃ b off cap, v = .slice (some ⟨b, off, none⟩) 1 cap ∧ w.cell? ⟨b, off, none⟩ = some (.int .i64 t.kind) ∧ w.cell? ⟨b, off + 1, none⟩ = some (.string t.text) ∧ b < w.heap.size := by
  obtain ⟨a, cap, rfl⟩ := h.shape
  obtain ⟨b, off, rfl, h1, h2⟩ := h.at_ 0 t rfl
  obtain ⟨c0, c1⟩ := two h2
  rw [show off + 0 * 2 + 1 = off + 1 by omega] at c1
  exact ⟨b, off, cap, rfl, c0, c1, h1⟩
theorem beq_str (s : ByteArray) : (s.toList == s.toList) = true := beq_self_eq_true _
set_option maxRecDepth 100000 in
set_option maxHeartbeats 8000000 in
theorem lexWord_false (s : ByteArray) (w : World) (hs : s.size ≤ 500) (hab : atomB (bl s) = false) : Calls Try.prog 8 #[.string s] w (TruePost w) := by
  have HW := Lib.hid (fun W => works_any W)
  have hd : decide ((500 : Int) < (s.size : Int)) = false := decide_eq_false (by omega)
  have HAB := Lib.hid hab
  clear hab
  go_enter Try.func8, Try.ntmps8
  go_wp2_with fail
  refine (HW.out _).mono ?_
  rintro e w1 ⟨rfl, hb⟩
  have HB := Lib.hid hb
  clear hb
  go_wp2_with fail
  go_loopw [15] (fun i wr => ∃ k : Nat, k ≤ s.size ∧ i = .int .i64 k ∧ Hid (∀ d ∈ (bl s).take k, tx d = true) ∧ wr = w1) (fun i _ => s.size - (intOf i).toNat)
  case atStart => exact ⟨0, Nat.zero_le _, rfl, Lib.hid (by simp), rfl⟩
  case round =>
    obtain ⟨k, hk, rfl, hall, rfl⟩ := hrel
    by_cases hlt : k < s.size
    · have h8 : s[k].toNat < 256 := s[k].toNat_lt
      have HT := Lib.hid (fun W => refText_any (s[k].toNat : Int) W (by omega) (by omega))
      have hdc := drop_cons s k hlt
      cases ht : tx s[k]
      · rw [show txN (s[k].toNat : Int).toNat = false from ht] at HT
        clear ht hdc
        go_wp2_with fail
        refine (HT.out _).mono ?_
        rintro e' w2 ⟨rfl, rfl⟩
        go_wp2_with fail
        go_ret
        exact ⟨rfl, HB.out⟩
      · rw [show txN (s[k].toNat : Int).toNat = true from ht] at HT
        have HN := Lib.hid (take_all hall.out hdc ht)
        clear ht hdc
        go_wp2_with fail
        refine (HT.out _).mono ?_
        rintro e' w2 ⟨rfl, rfl⟩
        go_wp2_with fail
        go_roundw
        case rel => exact ⟨k + 1, by omega, by simp, HN, trivial⟩
        case measure => simp [intOf]; omega
    · have htx : ∀ d ∈ bl s, tx d = true := by
        have h := hall.out
        rwa [List.take_of_length_le (by rw [bl_len]; omega)] at h
      have hwl := word_le (bl s)
      have hql := quote_len (bl s)
      rw [bl_len] at hwl hql
      have HWd := Lib.hid (fun W => word_any s W (by omega))
      have HQ := Lib.hid (fun W => quote_any s W (by omega))
      have HS1 := Lib.hid (fun W => scan_ok_any (s := ba (wordL (bl s))) (T := [⟨2, s⟩]) (by
        rw [bl_ba, scan_word (bl s) htx, HAB.out, ba_bl]
        rfl) W (by rw [ba_size]; omega))
      have HS2 := Lib.hid (fun W => scan_ok_any (s := ba (quoteL (bl s))) (T := [⟨2, s⟩]) (by
        rw [bl_ba, scan_quote (bl s) htx, ba_bl]) W (by rw [ba_size]; omega))
      have ha := fun W => isAtom_any s W (by omega)
      rw [HAB.out] at ha
      have HA := Lib.hid (fun W => (ha W).mono fun _ _ h => And.intro h.1 h.2.symm)
      clear ha
      have hbs := beq_str s
      clear htx hwl hql hall
      generalize ba (wordL (bl s)) = X at *
      generalize ba (quoteL (bl s)) = Y at *
      go_wp2_with fail
      refine (HWd.out _).mono ?_
      rintro e w2 ⟨rfl, hb⟩
      have HB2 := Lib.hid (HB.out.trans (hb.mono HB.out.size))
      clear hb
      go_wp2_with fail
      refine (HS1.out _).mono ?_
      rintro e w3 ⟨v, rfl, hr, hb⟩
      have HR3 := Lib.hid hr
      have HB3 := Lib.hid (HB2.out.trans (hb.mono HB2.out.size))
      clear hb hr
      go_wp2_with fail
      refine (HQ.out _).mono ?_
      rintro e w4 ⟨rfl, hb⟩
      have HR4 := Lib.hid (HR3.out.below hb)
      have HB4 := Lib.hid (HB3.out.trans (hb.mono HB3.out.size))
      clear hb
      go_wp2_with fail
      refine (HS2.out _).mono ?_
      rintro e w5 ⟨u, rfl, hr, hb⟩
      obtain ⟨b1, o1, k1, rfl, c0, c1, _⟩ := one_read (HR4.out.below hb)
      obtain ⟨b2, o2, k2, rfl, d0, d1, _⟩ := one_read hr
      have HB5 := Lib.hid (HB4.out.trans (hb.mono HB4.out.size))
      clear hb hr HR3 HR4
      go_wp2_with fail
      go_quiet ((go_at_call 13; exact Calls.quiet_of_same (HA.out _)))
      have HB6 := Lib.hid (below_drewN HB5.out nq)
      go_wp2_with fail
      go_ret
      exact ⟨by first | rfl | simp, HB6.out⟩
set_option maxRecDepth 100000 in
set_option maxHeartbeats 8000000 in
theorem lexWord_true (s : ByteArray) (w : World) (hs : s.size ≤ 500) (hab : atomB (bl s) = true) : Calls Try.prog 8 #[.string s] w (TruePost w) := by
  have HW := Lib.hid (fun W => works_any W)
  have hd : decide ((500 : Int) < (s.size : Int)) = false := decide_eq_false (by omega)
  have HAB := Lib.hid hab
  clear hab
  go_enter Try.func8, Try.ntmps8
  go_wp2_with fail
  refine (HW.out _).mono ?_
  rintro e w1 ⟨rfl, hb⟩
  have HB := Lib.hid hb
  clear hb
  go_wp2_with fail
  go_loopw [15] (fun i wr => ∃ k : Nat, k ≤ s.size ∧ i = .int .i64 k ∧ Hid (∀ d ∈ (bl s).take k, tx d = true) ∧ wr = w1) (fun i _ => s.size - (intOf i).toNat)
  case atStart => exact ⟨0, Nat.zero_le _, rfl, Lib.hid (by simp), rfl⟩
  case round =>
    obtain ⟨k, hk, rfl, hall, rfl⟩ := hrel
    by_cases hlt : k < s.size
    · have h8 : s[k].toNat < 256 := s[k].toNat_lt
      have HT := Lib.hid (fun W => refText_any (s[k].toNat : Int) W (by omega) (by omega))
      have hdc := drop_cons s k hlt
      cases ht : tx s[k]
      · rw [show txN (s[k].toNat : Int).toNat = false from ht] at HT
        clear ht hdc
        go_wp2_with fail
        refine (HT.out _).mono ?_
        rintro e' w2 ⟨rfl, rfl⟩
        go_wp2_with fail
        go_ret
        exact ⟨rfl, HB.out⟩
      · rw [show txN (s[k].toNat : Int).toNat = true from ht] at HT
        have HN := Lib.hid (take_all hall.out hdc ht)
        clear ht hdc
        go_wp2_with fail
        refine (HT.out _).mono ?_
        rintro e' w2 ⟨rfl, rfl⟩
        go_wp2_with fail
        go_roundw
        case rel => exact ⟨k + 1, by omega, by simp, HN, trivial⟩
        case measure => simp [intOf]; omega
    · have htx : ∀ d ∈ bl s, tx d = true := by
        have h := hall.out
        rwa [List.take_of_length_le (by rw [bl_len]; omega)] at h
      have hwl := word_le (bl s)
      have hql := quote_len (bl s)
      rw [bl_len] at hwl hql
      have HWd := Lib.hid (fun W => word_any s W (by omega))
      have HQ := Lib.hid (fun W => quote_any s W (by omega))
      have HS1 := Lib.hid (fun W => scan_ok_any (s := ba (wordL (bl s))) (T := [⟨1, s⟩]) (by
        rw [bl_ba, scan_word (bl s) htx, HAB.out, ba_bl]
        rfl) W (by rw [ba_size]; omega))
      have HS2 := Lib.hid (fun W => scan_ok_any (s := ba (quoteL (bl s))) (T := [⟨2, s⟩]) (by
        rw [bl_ba, scan_quote (bl s) htx, ba_bl]) W (by rw [ba_size]; omega))
      have ha := fun W => isAtom_any s W (by omega)
      rw [HAB.out] at ha
      have HA := Lib.hid (fun W => (ha W).mono fun _ _ h => And.intro h.1 h.2.symm)
      clear ha
      have hbs := beq_str s
      clear htx hwl hql hall
      generalize ba (wordL (bl s)) = X at *
      generalize ba (quoteL (bl s)) = Y at *
      go_wp2_with fail
      refine (HWd.out _).mono ?_
      rintro e w2 ⟨rfl, hb⟩
      have HB2 := Lib.hid (HB.out.trans (hb.mono HB.out.size))
      clear hb
      go_wp2_with fail
      refine (HS1.out _).mono ?_
      rintro e w3 ⟨v, rfl, hr, hb⟩
      have HR3 := Lib.hid hr
      have HB3 := Lib.hid (HB2.out.trans (hb.mono HB2.out.size))
      clear hb hr
      go_wp2_with fail
      refine (HQ.out _).mono ?_
      rintro e w4 ⟨rfl, hb⟩
      have HR4 := Lib.hid (HR3.out.below hb)
      have HB4 := Lib.hid (HB3.out.trans (hb.mono HB3.out.size))
      clear hb
      go_wp2_with fail
      refine (HS2.out _).mono ?_
      rintro e w5 ⟨u, rfl, hr, hb⟩
      obtain ⟨b1, o1, k1, rfl, c0, c1, _⟩ := one_read (HR4.out.below hb)
      obtain ⟨b2, o2, k2, rfl, d0, d1, _⟩ := one_read hr
      have HB5 := Lib.hid (HB4.out.trans (hb.mono HB4.out.size))
      clear hb hr HR3 HR4
      go_wp2_with fail
      go_quiet ((go_at_call 13; exact Calls.quiet_of_same (HA.out _)))
      have HB6 := Lib.hid (below_drewN HB5.out nq)
      go_wp2_with fail
      go_ret
      exact ⟨by first | rfl | simp, HB6.out⟩
theorem lexWord_any (s : ByteArray) (w : World) (_hs : s.size < 9223372036854775808) : Calls Try.prog 8 #[.string s] w (TruePost w) := by
  by_cases hs : s.size ≤ 500
  · cases hab : atomB (bl s)
    · exact lexWord_false s w hs hab
    · exact lexWord_true s w hs hab
  · have HW := Lib.hid (fun W => works_any W)
    have hd : decide ((500 : Int) < (s.size : Int)) = true := decide_eq_true (by omega)
    go_enter Try.func8, Try.ntmps8
    go_wp2_with fail
    refine (HW.out _).mono ?_
    rintro e w1 ⟨rfl, hb⟩
    have HB := Lib.hid hb
    clear hb
    go_wp2_with fail
    go_ret
    exact ⟨rfl, HB.out⟩
end Go.Proofs.Ytjdlhfjmcghdlaa.Lex
