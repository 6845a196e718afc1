/-
  Walk of the law LexParts.
-/
import Derived.Test.YtjdlhfjmcghdlaaLexLawA
namespace Go.Proofs.Ytjdlhfjmcghdlaa.Lex
open Go Go.RowKit

theorem parts_text (a b : ByteArray) (x : UInt8) : bl (a ++ ⟨#[x]⟩ ++ b) = bl a ++ x :: bl b := by
  simp [ByteArray.data_append]
/-- What the law knows of its texts. -/
def PartsOut (a b : ByteArray) (sep : ByteArray) : Prop :=
  ∀ S T, scan (bl a) = (0, S) → scan (bl b) = (0, T) → scan (bl (a ++ sep ++ b)) = (0, S ++ T)
theorem parts_out (a b : ByteArray) (x : UInt8) (hx : bk x = true) : PartsOut a b ⟨#[x]⟩ := fun S T h1 h2 => by
  rw [parts_text]
  exact scan_parts hx h1 h2
set_option maxRecDepth 100000 in
set_option maxHeartbeats 4000000 in
theorem lexParts_false (a b : ByteArray) (w : World) (ha : a.size ≤ 500) (hb : b.size ≤ 500) : Calls Try.prog 7 #[.string a, .string b, .bool false] w (TruePost w) := by
  have HW := Lib.hid (fun W => works_any W)
  have hd : decide ((500 : Int) < (a.size : Int)) = false := decide_eq_false (by omega)
  have hd2 : decide ((500 : Int) < (b.size : Int)) = false := decide_eq_false (by omega)
  have hsz : (a ++ ⟨#[32]⟩ ++ b).size ≤ 2000 := by
    rw [ByteArray.size_append, ByteArray.size_append]
    have : (⟨#[32]⟩ : ByteArray).size = 1 := rfl
    omega
  have HPO := Lib.hid (parts_out a b 32 (by decide))
  rcases scan_cases (bl a) with ⟨S, hS⟩ | ⟨c, hc, hS⟩
  · have HS := Lib.hid (fun W => scan_ok_any hS W (by omega))
    rcases scan_cases (bl b) with ⟨T, hT⟩ | ⟨d, hdd, hT⟩
    · have HT := Lib.hid (fun W => scan_ok_any hT W (by omega))
      have HZ := Lib.hid (fun W => scan_ok_any (HPO.out S T hS hT) W (by omega))
      have c1 := (scan_ok hS).2
      have c2 := (scan_ok hT).2
      rw [bl_len] at c1 c2
      have l1 := len_cost S
      have l2 := len_cost T
      have hl1 : S.length ≤ 1000 := by omega
      have hl2 : T.length ≤ 1000 := by omega
      have HA := Lib.hid (fun v u W (h1 : ReadsT W v (S ++ T)) (h2 : ReadsT W u (S ++ T)) => alike_any v u (S ++ T) W h1 h2 (by rw [List.length_append]; omega))
      clear HPO hS hT c1 c2 l1 l2
      generalize hX : a ++ ⟨#[32]⟩ ++ b = X at *
      go_enter Try.func7, Try.ntmps7
      go_wp2_with fail
      refine (HW.out _).mono ?_
      rintro e w1 ⟨rfl, hb⟩
      have HB := Lib.hid hb
      clear hb
      go_wp2_with fail
      refine (HS.out _).mono ?_
      rintro e w2 ⟨v, rfl, hr, hb⟩
      have HR := Lib.hid hr
      have HB2 := Lib.hid (HB.out.trans (hb.mono HB.out.size))
      clear hr hb
      go_wp2_with fail
      refine (HT.out _).mono ?_
      rintro e w3 ⟨u, rfl, hr, hb⟩
      have HR3 := Lib.hid (And.intro (HR.out.below hb) hr)
      have HB3 := Lib.hid (HB2.out.trans (hb.mono HB2.out.size))
      clear hr hb
      go_wp2_with fail
      refine (HZ.out _).mono ?_
      rintro e w4 ⟨z, rfl, hr, hb⟩
      have HR4 := Lib.hid (And.intro (HR3.out.1.below hb) (And.intro (HR3.out.2.below hb) hr))
      have HB4 := Lib.hid (HB3.out.trans (hb.mono HB3.out.size))
      clear hr hb
      obtain ⟨v1, w5, hr1, hh1⟩ := append_listT w4 w4.heap.size (.slice none 0 0) v [] S (World.ownsRow_nil _ _ _ _) HR4.out.1 (by simp) (by omega) (Nat.le_refl _)
      have ho1 := hh1.out.1
      have hb1 := hh1.out.2
      obtain ⟨v2, w6, hr2, hh2⟩ := append_listT w5 w4.heap.size v1 u S T (by rw [List.nil_append] at ho1; exact ho1) (HR4.out.2.1.below hb1) (by omega) (by omega) hb1.size
      have HR1 := Lib.hid hr1
      have HR2 := Lib.hid hr2
      have HR6 := Lib.hid (And.intro (HR4.out.2.2.below (hb1.trans hh2.out.2)) (owns_readsT hh2.out.1))
      have HB6 := Lib.hid (HB4.out.trans ((hb1.trans hh2.out.2).mono HB4.out.size))
      clear hr1 hr2 hh1 hh2 ho1 hb1
      go_upto_region 15 with (at_builtin; refine Lib.wpList_append_run _ rfl _ _ _ _ rfl _ _ rfl rfl _ _ HR1.out ?_)
      go_wp2_with (at_builtin; refine Lib.wpList_append_run _ rfl _ _ _ _ rfl _ _ rfl rfl _ _ HR2.out ?_)
      refine (HA.out _ _ _ HR6.out.1 HR6.out.2).mono ?_
      rintro e w7 ⟨rfl, hb⟩
      have HB7 := Lib.hid (HB6.out.trans (hb.mono HB6.out.size))
      clear hb
      go_wp2_with fail
      go_ret
      exact ⟨rfl, HB7.out⟩
    · have HT := Lib.hid (fun W => scan_bad_any hT W (by omega))
      have HZ := Lib.hid (fun W => scan_any (a ++ ⟨#[32]⟩ ++ b) W (by omega))
      have hne : ((d : Int) != 0) = true := by rw [bne_iff_ne]; omega
      clear HPO hS hT
      generalize hX : a ++ ⟨#[32]⟩ ++ b = X at *
      go_enter Try.func7, Try.ntmps7
      go_wp2_with fail
      refine (HW.out _).mono ?_
      rintro e w1 ⟨rfl, hb⟩
      have HB := Lib.hid hb
      clear hb
      go_wp2_with fail
      refine (HS.out _).mono ?_
      rintro e w2 ⟨v, rfl, _, hb⟩
      have HB2 := Lib.hid (HB.out.trans (hb.mono HB.out.size))
      clear hb
      go_wp2_with fail
      refine (HT.out _).mono ?_
      rintro e w3 ⟨ua, uc, rfl, hb⟩
      have HB3 := Lib.hid (HB2.out.trans (hb.mono HB2.out.size))
      clear hb
      go_wp2_with fail
      refine (HZ.out _).mono ?_
      rintro e w4 ⟨z, rfl, _, hb⟩
      have HB4 := Lib.hid (HB3.out.trans (hb.mono HB3.out.size))
      clear hb
      generalize (scan (bl X)).1 = m at *
      go_wp2_with fail
      go_ret
      exact ⟨rfl, HB4.out⟩
  · have HS := Lib.hid (fun W => scan_bad_any hS W (by omega))
    have HT := Lib.hid (fun W => scan_any b W (by omega))
    have HZ := Lib.hid (fun W => scan_any (a ++ ⟨#[32]⟩ ++ b) W (by omega))
    have hne : ((c : Int) != 0) = true := by rw [bne_iff_ne]; omega
    clear HPO hS
    generalize hX : a ++ ⟨#[32]⟩ ++ b = X at *
    go_enter Try.func7, Try.ntmps7
    go_wp2_with fail
    refine (HW.out _).mono ?_
    rintro e w1 ⟨rfl, hb⟩
    have HB := Lib.hid hb
    clear hb
    go_wp2_with fail
    refine (HS.out _).mono ?_
    rintro e w2 ⟨va, vc, rfl, hb⟩
    have HB2 := Lib.hid (HB.out.trans (hb.mono HB.out.size))
    clear hb
    go_wp2_with fail
    refine (HT.out _).mono ?_
    rintro e w3 ⟨u, rfl, _, hb⟩
    have HB3 := Lib.hid (HB2.out.trans (hb.mono HB2.out.size))
    clear hb
    generalize (scan (bl b)).1 = n at *
    go_wp2_with fail
    refine (HZ.out _).mono ?_
    rintro e w4 ⟨z, rfl, _, hb⟩
    have HB4 := Lib.hid (HB3.out.trans (hb.mono HB3.out.size))
    clear hb
    generalize (scan (bl X)).1 = m at *
    go_wp2_with fail
    go_ret
    exact ⟨rfl, HB4.out⟩
set_option maxRecDepth 100000 in
set_option maxHeartbeats 4000000 in
theorem lexParts_true (a b : ByteArray) (w : World) (ha : a.size ≤ 500) (hb : b.size ≤ 500) : Calls Try.prog 7 #[.string a, .string b, .bool true] w (TruePost w) := by
  have HW := Lib.hid (fun W => works_any W)
  have hd : decide ((500 : Int) < (a.size : Int)) = false := decide_eq_false (by omega)
  have hd2 : decide ((500 : Int) < (b.size : Int)) = false := decide_eq_false (by omega)
  have hsz : (a ++ ⟨#[9]⟩ ++ b).size ≤ 2000 := by
    rw [ByteArray.size_append, ByteArray.size_append]
    have : (⟨#[9]⟩ : ByteArray).size = 1 := rfl
    omega
  have HPO := Lib.hid (parts_out a b 9 (by decide))
  rcases scan_cases (bl a) with ⟨S, hS⟩ | ⟨c, hc, hS⟩
  · have HS := Lib.hid (fun W => scan_ok_any hS W (by omega))
    rcases scan_cases (bl b) with ⟨T, hT⟩ | ⟨d, hdd, hT⟩
    · have HT := Lib.hid (fun W => scan_ok_any hT W (by omega))
      have HZ := Lib.hid (fun W => scan_ok_any (HPO.out S T hS hT) W (by omega))
      have c1 := (scan_ok hS).2
      have c2 := (scan_ok hT).2
      rw [bl_len] at c1 c2
      have l1 := len_cost S
      have l2 := len_cost T
      have hl1 : S.length ≤ 1000 := by omega
      have hl2 : T.length ≤ 1000 := by omega
      have HA := Lib.hid (fun v u W (h1 : ReadsT W v (S ++ T)) (h2 : ReadsT W u (S ++ T)) => alike_any v u (S ++ T) W h1 h2 (by rw [List.length_append]; omega))
      clear HPO hS hT c1 c2 l1 l2
      generalize hX : a ++ ⟨#[9]⟩ ++ b = X at *
      go_enter Try.func7, Try.ntmps7
      go_wp2_with fail
      refine (HW.out _).mono ?_
      rintro e w1 ⟨rfl, hb⟩
      have HB := Lib.hid hb
      clear hb
      go_wp2_with fail
      refine (HS.out _).mono ?_
      rintro e w2 ⟨v, rfl, hr, hb⟩
      have HR := Lib.hid hr
      have HB2 := Lib.hid (HB.out.trans (hb.mono HB.out.size))
      clear hr hb
      go_wp2_with fail
      refine (HT.out _).mono ?_
      rintro e w3 ⟨u, rfl, hr, hb⟩
      have HR3 := Lib.hid (And.intro (HR.out.below hb) hr)
      have HB3 := Lib.hid (HB2.out.trans (hb.mono HB2.out.size))
      clear hr hb
      go_wp2_with fail
      refine (HZ.out _).mono ?_
      rintro e w4 ⟨z, rfl, hr, hb⟩
      have HR4 := Lib.hid (And.intro (HR3.out.1.below hb) (And.intro (HR3.out.2.below hb) hr))
      have HB4 := Lib.hid (HB3.out.trans (hb.mono HB3.out.size))
      clear hr hb
      obtain ⟨v1, w5, hr1, hh1⟩ := append_listT w4 w4.heap.size (.slice none 0 0) v [] S (World.ownsRow_nil _ _ _ _) HR4.out.1 (by simp) (by omega) (Nat.le_refl _)
      have ho1 := hh1.out.1
      have hb1 := hh1.out.2
      obtain ⟨v2, w6, hr2, hh2⟩ := append_listT w5 w4.heap.size v1 u S T (by rw [List.nil_append] at ho1; exact ho1) (HR4.out.2.1.below hb1) (by omega) (by omega) hb1.size
      have HR1 := Lib.hid hr1
      have HR2 := Lib.hid hr2
      have HR6 := Lib.hid (And.intro (HR4.out.2.2.below (hb1.trans hh2.out.2)) (owns_readsT hh2.out.1))
      have HB6 := Lib.hid (HB4.out.trans ((hb1.trans hh2.out.2).mono HB4.out.size))
      clear hr1 hr2 hh1 hh2 ho1 hb1
      go_upto_region 15 with (at_builtin; refine Lib.wpList_append_run _ rfl _ _ _ _ rfl _ _ rfl rfl _ _ HR1.out ?_)
      go_wp2_with (at_builtin; refine Lib.wpList_append_run _ rfl _ _ _ _ rfl _ _ rfl rfl _ _ HR2.out ?_)
      refine (HA.out _ _ _ HR6.out.1 HR6.out.2).mono ?_
      rintro e w7 ⟨rfl, hb⟩
      have HB7 := Lib.hid (HB6.out.trans (hb.mono HB6.out.size))
      clear hb
      go_wp2_with fail
      go_ret
      exact ⟨rfl, HB7.out⟩
    · have HT := Lib.hid (fun W => scan_bad_any hT W (by omega))
      have HZ := Lib.hid (fun W => scan_any (a ++ ⟨#[9]⟩ ++ b) W (by omega))
      have hne : ((d : Int) != 0) = true := by rw [bne_iff_ne]; omega
      clear HPO hS hT
      generalize hX : a ++ ⟨#[9]⟩ ++ b = X at *
      go_enter Try.func7, Try.ntmps7
      go_wp2_with fail
      refine (HW.out _).mono ?_
      rintro e w1 ⟨rfl, hb⟩
      have HB := Lib.hid hb
      clear hb
      go_wp2_with fail
      refine (HS.out _).mono ?_
      rintro e w2 ⟨v, rfl, _, hb⟩
      have HB2 := Lib.hid (HB.out.trans (hb.mono HB.out.size))
      clear hb
      go_wp2_with fail
      refine (HT.out _).mono ?_
      rintro e w3 ⟨ua, uc, rfl, hb⟩
      have HB3 := Lib.hid (HB2.out.trans (hb.mono HB2.out.size))
      clear hb
      go_wp2_with fail
      refine (HZ.out _).mono ?_
      rintro e w4 ⟨z, rfl, _, hb⟩
      have HB4 := Lib.hid (HB3.out.trans (hb.mono HB3.out.size))
      clear hb
      generalize (scan (bl X)).1 = m at *
      go_wp2_with fail
      go_ret
      exact ⟨rfl, HB4.out⟩
  · have HS := Lib.hid (fun W => scan_bad_any hS W (by omega))
    have HT := Lib.hid (fun W => scan_any b W (by omega))
    have HZ := Lib.hid (fun W => scan_any (a ++ ⟨#[9]⟩ ++ b) W (by omega))
    have hne : ((c : Int) != 0) = true := by rw [bne_iff_ne]; omega
    clear HPO hS
    generalize hX : a ++ ⟨#[9]⟩ ++ b = X at *
    go_enter Try.func7, Try.ntmps7
    go_wp2_with fail
    refine (HW.out _).mono ?_
    rintro e w1 ⟨rfl, hb⟩
    have HB := Lib.hid hb
    clear hb
    go_wp2_with fail
    refine (HS.out _).mono ?_
    rintro e w2 ⟨va, vc, rfl, hb⟩
    have HB2 := Lib.hid (HB.out.trans (hb.mono HB.out.size))
    clear hb
    go_wp2_with fail
    refine (HT.out _).mono ?_
    rintro e w3 ⟨u, rfl, _, hb⟩
    have HB3 := Lib.hid (HB2.out.trans (hb.mono HB2.out.size))
    clear hb
    generalize (scan (bl b)).1 = n at *
    go_wp2_with fail
    refine (HZ.out _).mono ?_
    rintro e w4 ⟨z, rfl, _, hb⟩
    have HB4 := Lib.hid (HB3.out.trans (hb.mono HB3.out.size))
    clear hb
    generalize (scan (bl X)).1 = m at *
    go_wp2_with fail
    go_ret
    exact ⟨rfl, HB4.out⟩
set_option maxHeartbeats 4000000 in
theorem lexParts_any (a b : ByteArray) (t : Bool) (w : World) (_ha : a.size < 9223372036854775808) (_hb : b.size < 9223372036854775808) : Calls Try.prog 7 #[.string a, .string b, .bool t] w (TruePost w) := by
  by_cases ha : a.size ≤ 500
  · by_cases hb : b.size ≤ 500
    · cases t
      · exact lexParts_false a b w ha hb
      · exact lexParts_true a b w ha hb
    · have HW := Lib.hid (fun W => works_any W)
      have hd : decide ((500 : Int) < (a.size : Int)) = false := decide_eq_false (by omega)
      have hd2 : decide ((500 : Int) < (b.size : Int)) = true := decide_eq_true (by omega)
      go_enter Try.func7, Try.ntmps7
      go_wp2_with fail
      refine (HW.out _).mono ?_
      rintro e w1 ⟨rfl, hb⟩
      have HB := Lib.hid hb
      clear hb
      go_wp2_with fail
      go_ret
      exact ⟨rfl, HB.out⟩
  · have HW := Lib.hid (fun W => works_any W)
    have hd : decide ((500 : Int) < (a.size : Int)) = true := decide_eq_true (by omega)
    go_enter Try.func7, Try.ntmps7
    go_wp2_with fail
    refine (HW.out _).mono ?_
    rintro e w1 ⟨rfl, hb⟩
    have HB := Lib.hid hb
    clear hb
    go_wp2_with fail
    go_ret
    exact ⟨rfl, HB.out⟩
end Go.Proofs.Ytjdlhfjmcghdlaa.Lex
