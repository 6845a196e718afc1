/-
  The laws' walks: QpBack, QpWidth, QpLines.
-/
import Derived.Test.YtobnckbpgckgjaaDoorQpLawA
namespace Go.Proofs.YtobnckbpgckgjaaDoor.Qp
open Go Go.RowKit
open Go.Proofs.YtobnckbpgckgjaaDoor.Head

/-! QpBack. -/
theorem blank_bk (k : Nat) : ∀ x ∈ List.replicate k (32 : UInt8), bk x = true := by
  intro x hx
  rw [(List.mem_replicate.1 hx).2]
  decide
set_option maxRecDepth 100000 in
set_option maxHeartbeats 2000000 in
theorem qpBack_any (s : ByteArray) (n : Int) (w : World) (hm : MaxAt w) : Calls Tryd.prog 5 #[.string s, .int .i64 n] w (TrueP w) := by
  have HM := Lib.hid hm
  have HW := Lib.hid (works_any w hm)
  clear hm
  by_cases hs : 1000 < s.size
  · have d : (1000 : Int) < (s.size : Int) := by omega
    go_enter Tryd.func5, Tryd.ntmps5
    go_wp2_with fail
    refine HW.out.mono ?_
    rintro e w1 ⟨rfl, hb⟩
    have HB := Lib.hid hb
    clear hb
    go_wp2_with fail
    go_ret
    exact ⟨rfl, HB.out⟩
  have d : ¬ (1000 : Int) < (s.size : Int) := by omega
  by_cases h1 : n < 0
  · go_enter Tryd.func5, Tryd.ntmps5
    go_wp2_with fail
    refine HW.out.mono ?_
    rintro e w1 ⟨rfl, hb⟩
    have HB := Lib.hid hb
    clear hb
    go_wp2_with fail
    go_ret
    exact ⟨rfl, HB.out⟩
  by_cases h2 : 20 < n
  · go_enter Tryd.func5, Tryd.ntmps5
    go_wp2_with fail
    refine HW.out.mono ?_
    rintro e w1 ⟨rfl, hb⟩
    have HB := Lib.hid hb
    clear hb
    go_wp2_with fail
    go_ret
    exact ⟨rfl, HB.out⟩
  obtain ⟨N, rfl⟩ : ∃ N : Nat, n = (N : Int) := ⟨n.toNat, by omega⟩
  have hN : N ≤ 20 := by omega
  have hE := Lib.hid (fun W (h : MaxAt W) => encode_any s W (by omega) h)
  have hez : (ba (encL (bl s))).size ≤ 6000 := by
    rw [ba_size]
    have := enc_len (bl s).length (bl s) (Nat.le_refl _)
    rw [bl_len] at this
    omega
  have HI : Hid (bl (ba (encL (bl s))) = encL (bl s) ++ List.replicate 0 32) := Lib.hid (by rw [bl_ba]; simp)
  have HDE : Hid (∀ (t : ByteArray) W, MaxAt W → t.size ≤ 7000 → bl t = encL (bl s) ++ List.replicate N 32 → Calls Tryd.prog 11 #[.string t] W fun e w' => e = .returned (.tuple #[.string s, .int .i64 0]) ∧ Below W.heap.size W w') := Lib.hid (fun t W h hz ht => by
    have hd := decode_any t W (by omega) h
    unfold DcPost decV decC at hd
    rw [ht, enc_back (bl s) _ (blank_bk N)] at hd
    rw [show ba ((some (bl s)).getD []) = s from ba_bl s] at hd
    exact hd)
  have hss := str_self s
  generalize ba (encL (bl s)) = E at *
  go_enter Tryd.func5, Tryd.ntmps5
  go_wp2_with fail
  refine HW.out.mono ?_
  rintro e w1 ⟨rfl, hb⟩
  have HB := Lib.hid hb
  clear hb
  go_wp2_with fail
  refine (hE.out w1 (HM.out.below HB.out)).mono ?_
  rintro e w2 ⟨rfl, hb⟩
  have HB2 := Lib.hid (HB.out.trans (hb.mono HB.out.size))
  clear hb
  go_wp2_with fail
  go_loopw [5, 6] (fun v i wr => ∃ (k : Nat) (t : ByteArray), k ≤ N ∧ i = .int .i64 k ∧ v = .string t ∧ t.size ≤ 6000 + k ∧ Hid (bl t = encL (bl s) ++ List.replicate k 32) ∧ w2 = wr) (fun _ i _ => N - (intOf i).toNat)
  case atStart => exact ⟨0, E, Nat.zero_le _, rfl, rfl, by omega, HI, rfl⟩
  case round =>
    clear HI
    obtain ⟨k, t, hk, rfl, rfl, htz, hT, rfl⟩ := hrel
    by_cases hlt : k < N
    · have HN : Hid (bl (t ++ (⟨#[32]⟩ : ByteArray)) = encL (bl s) ++ List.replicate (k + 1) 32) := Lib.hid (by
        rw [bl_app, hT.out, List.replicate_succ', List.append_assoc])
      have hz : (t ++ (⟨#[32]⟩ : ByteArray)).size ≤ 6000 + (k + 1) := by
        rw [ByteArray.size_append, show (⟨#[32]⟩ : ByteArray).size = 1 from rfl]
        omega
      go_wp2_with fail
      go_roundw
      case rel => exact ⟨k + 1, _, by omega, by simp, rfl, hz, HN, trivial⟩
      case measure => simp [intOf]; omega
    · obtain rfl : k = N := by omega
      have HD := Lib.hid (HDE.out t w2 (HM.out.below HB2.out) (by omega) hT.out)
      clear hT HDE
      go_wp2_with fail
      refine HD.out.mono ?_
      rintro e w3 ⟨rfl, hb⟩
      have HB3 := Lib.hid (HB2.out.trans (hb.mono HB2.out.size))
      clear hb
      go_wp2_with fail
      go_ret
      exact ⟨rfl, HB3.out⟩

/-! QpLines. -/
set_option maxRecDepth 100000 in
set_option maxHeartbeats 2000000 in
theorem qpLines_any (a b : ByteArray) (w : World) (hm : MaxAt w) : Calls Tryd.prog 7 #[.string a, .string b] w (TrueP w) := by
  have HM := Lib.hid hm
  have HW := Lib.hid (works_any w hm)
  clear hm
  by_cases ha : 500 < a.size
  · have d : (500 : Int) < (a.size : Int) := by omega
    go_enter Tryd.func7, Tryd.ntmps7
    go_wp2_with fail
    refine HW.out.mono ?_
    rintro e w1 ⟨rfl, hb⟩
    have HB := Lib.hid hb
    clear hb
    go_wp2_with fail
    go_ret
    exact ⟨rfl, HB.out⟩
  have d : ¬ (500 : Int) < (a.size : Int) := by omega
  by_cases hb : 500 < b.size
  · have d2 : (500 : Int) < (b.size : Int) := by omega
    go_enter Tryd.func7, Tryd.ntmps7
    go_wp2_with fail
    refine HW.out.mono ?_
    rintro e w1 ⟨rfl, hb⟩
    have HB := Lib.hid hb
    clear hb
    go_wp2_with fail
    go_ret
    exact ⟨rfl, HB.out⟩
  have d2 : ¬ (500 : Int) < (b.size : Int) := by omega
  have HL : (bl a).getLast? ≠ some 13 → Hid (∀ W, MaxAt W → Calls Tryd.prog 9 #[.string ((a ++ (⟨#[13, 10]⟩ : ByteArray)) ++ b)] W fun e w' => e = .returned (.string ((ba (encL (bl a)) ++ (⟨#[13, 10]⟩ : ByteArray)) ++ ba (encL (bl b)))) ∧ Below W.heap.size W w') := fun hl => Lib.hid (fun W h => by
    have he := encode_any ((a ++ (⟨#[13, 10]⟩ : ByteArray)) ++ b) W (by rw [ByteArray.size_append, ByteArray.size_append, show (⟨#[13, 10]⟩ : ByteArray).size = 2 from rfl]; omega) h
    have e1 : bl ((a ++ (⟨#[13, 10]⟩ : ByteArray)) ++ b) = bl a ++ 13 :: 10 :: bl b := by
      rw [bl_app, bl_app]
      show (bl a ++ [13, 10]) ++ bl b = _
      simp
    have e2 : ba (encL (bl a ++ 13 :: 10 :: bl b)) = (ba (encL (bl a)) ++ (⟨#[13, 10]⟩ : ByteArray)) ++ ba (encL (bl b)) := by
      apply bl_inj
      rw [enc_app _ _ hl, bl_app, bl_app, bl_ba, bl_ba, bl_ba]
      show _ = (_ ++ [13, 10]) ++ _
      simp
    rw [e1, e2] at he
    exact he)
  have HEA := Lib.hid (fun W (h : MaxAt W) => encode_any a W (by omega) h)
  have HEB := Lib.hid (fun W (h : MaxAt W) => encode_any b W (by omega) h)
  have hza : (ba (encL (bl a))).size ≤ 6000 := by
    rw [ba_size]
    have := enc_len (bl a).length (bl a) (Nat.le_refl _)
    rw [bl_len] at this
    omega
  have hzb : (ba (encL (bl b))).size ≤ 6000 := by
    rw [ba_size]
    have := enc_len (bl b).length (bl b) (Nat.le_refl _)
    rw [bl_len] at this
    omega
  by_cases h0 : 0 < a.size
  · have hsub : (a.size : Int) - 1 = ((a.size - 1 : Nat) : Int) := by omega
    have hlt1 : a.size - 1 < a.size := by omega
    have hlg := last_get a h0
    by_cases h13 : a[a.size - 1].toNat = 13
    · have q : ((a[a.size - 1].toNat : Int) == 13) = true := by rw [h13]; rfl
      clear HL hlg h13 HEA HEB
      go_enter Tryd.func7, Tryd.ntmps7
      go_wp2_with fail
      refine HW.out.mono ?_
      rintro e w1 ⟨rfl, hb⟩
      have HB := Lib.hid hb
      clear hb
      go_wp2_with fail
      go_ret
      exact ⟨rfl, HB.out⟩
    · have q : ((a[a.size - 1].toNat : Int) == 13) = false := by rw [beq_eq_false_iff_ne]; omega
      have HL1 := HL (by rw [hlg]; intro e; apply h13; rw [Option.some.inj e]; rfl)
      clear HL hlg h13
      generalize ba (encL (bl a)) = x at *
      generalize ba (encL (bl b)) = y at *
      have hrr := str_self ((x ++ (⟨#[13, 10]⟩ : ByteArray)) ++ y)
      have hxz : (x ++ (⟨#[13, 10]⟩ : ByteArray)).size ≤ 6002 := by rw [ByteArray.size_append, show (⟨#[13, 10]⟩ : ByteArray).size = 2 from rfl]; omega
      have haz : (a ++ (⟨#[13, 10]⟩ : ByteArray)).size ≤ 6002 := by rw [ByteArray.size_append, show (⟨#[13, 10]⟩ : ByteArray).size = 2 from rfl]; omega
      go_enter Tryd.func7, Tryd.ntmps7
      go_wp2_with fail
      refine HW.out.mono ?_
      rintro e w1 ⟨rfl, hb⟩
      have HB := Lib.hid hb
      clear hb
      go_wp2_with fail
      refine (HL1.out w1 (HM.out.below HB.out)).mono ?_
      rintro e w2 ⟨rfl, hb⟩
      have HB2 := Lib.hid (HB.out.trans (hb.mono HB.out.size))
      clear hb
      go_wp2_with fail
      refine (HEA.out w2 (HM.out.below HB2.out)).mono ?_
      rintro e w3 ⟨rfl, hb⟩
      have HB3 := Lib.hid (HB2.out.trans (hb.mono HB2.out.size))
      clear hb
      go_wp2_with fail
      refine (HEB.out w3 (HM.out.below HB3.out)).mono ?_
      rintro e w4 ⟨rfl, hb⟩
      have HB4 := Lib.hid (HB3.out.trans (hb.mono HB3.out.size))
      clear hb
      go_wp2_with fail
      go_ret
      exact ⟨rfl, HB4.out⟩
  · have d0 : ¬ (0 : Int) < (a.size : Int) := by omega
    have HL1 := HL (by rw [bl_nil h0]; simp)
    clear HL
    generalize ba (encL (bl a)) = x at *
    generalize ba (encL (bl b)) = y at *
    have hrr := str_self ((x ++ (⟨#[13, 10]⟩ : ByteArray)) ++ y)
    have hxz : (x ++ (⟨#[13, 10]⟩ : ByteArray)).size ≤ 6002 := by rw [ByteArray.size_append, show (⟨#[13, 10]⟩ : ByteArray).size = 2 from rfl]; omega
    have haz : (a ++ (⟨#[13, 10]⟩ : ByteArray)).size ≤ 6002 := by rw [ByteArray.size_append, show (⟨#[13, 10]⟩ : ByteArray).size = 2 from rfl]; omega
    go_enter Tryd.func7, Tryd.ntmps7
    go_wp2_with fail
    refine HW.out.mono ?_
    rintro e w1 ⟨rfl, hb⟩
    have HB := Lib.hid hb
    clear hb
    go_wp2_with fail
    refine (HL1.out w1 (HM.out.below HB.out)).mono ?_
    rintro e w2 ⟨rfl, hb⟩
    have HB2 := Lib.hid (HB.out.trans (hb.mono HB.out.size))
    clear hb
    go_wp2_with fail
    refine (HEA.out w2 (HM.out.below HB2.out)).mono ?_
    rintro e w3 ⟨rfl, hb⟩
    have HB3 := Lib.hid (HB2.out.trans (hb.mono HB2.out.size))
    clear hb
    go_wp2_with fail
    refine (HEB.out w3 (HM.out.below HB3.out)).mono ?_
    rintro e w4 ⟨rfl, hb⟩
    have HB4 := Lib.hid (HB3.out.trans (hb.mono HB3.out.size))
    clear hb
    go_wp2_with fail
    go_ret
    exact ⟨rfl, HB4.out⟩

/-! QpWidth. -/
/-- Is the byte before a blank? -/
def pbAt (l : List UInt8) : Nat → Bool
  | 0 => false
  | k + 1 => match l[k]? with
    | some x => bk x
    | none => false
theorem pb_at (t : ByteArray) (k : Nat) (h : k < t.size) : pbAt (bl t) (k + 1) = bk t[k] := by
  show (match (bl t)[k]? with | some x => bk x | none => false) = _
  rw [List.getElem?_eq_getElem (by rw [bl_len]; exact h)]
  rfl
theorem bk_split {c : UInt8} (h : bk c = false) : ((c.toNat : Int) == 32) = false ∧ ((c.toNat : Int) == 9) = false := by
  rw [bk_int, Bool.or_eq_false_iff] at h
  exact h
theorem wid_13 {pb : Bool} {k : Nat} {t : List UInt8} (h : wid pb k (13 :: t) = true) : pb = false ∧ ∃ r, t = 10 :: r ∧ wid false 0 r = true := by
  cases t with
  | nil =>
    rw [wid.eq_def] at h
    cases h
  | cons d r =>
    by_cases hd : d = 10
    · subst hd
      rw [wid_end, Bool.and_eq_true, Bool.not_eq_true'] at h
      exact ⟨h.1, r, rfl, h.2⟩
    · rw [wid.eq_def] at h
      simp [hd] at h
theorem wid_other {pb : Bool} {k : Nat} {c : UInt8} {t : List UInt8} (hc : c ≠ 13) (h : wid pb k (c :: t) = true) : (c.toNat = 9 ∨ (32 ≤ c.toNat ∧ c.toNat ≤ 126)) ∧ k + 1 ≤ 76 ∧ wid (bk c) (k + 1) t = true := by
  rw [wid.eq_def] at h
  simp only [if_neg hc, Bool.and_eq_true, Bool.or_eq_true, beq_iff_eq, decide_eq_true_eq] at h
  refine ⟨?_, h.2.1, h.2.2⟩
  rcases h.1 with h1 | h1
  · exact .inl (by rw [h1]; rfl)
  · exact .inr h1
set_option maxRecDepth 100000 in
set_option maxHeartbeats 4000000 in
theorem qpWidth_any (s : ByteArray) (w : World) (hm : MaxAt w) : Calls Tryd.prog 6 #[.string s] w (TrueP w) := by
  have HM := Lib.hid hm
  have HW := Lib.hid (works_any w hm)
  clear hm
  by_cases hs : 1000 < s.size
  · have d : (1000 : Int) < (s.size : Int) := by omega
    go_enter Tryd.func6, Tryd.ntmps6
    go_wp2_with fail
    refine HW.out.mono ?_
    rintro e w1 ⟨rfl, hb⟩
    have HB := Lib.hid hb
    clear hb
    go_wp2_with fail
    go_ret
    exact ⟨rfl, HB.out⟩
  have d : ¬ (1000 : Int) < (s.size : Int) := by omega
  have hE := Lib.hid (fun W (h : MaxAt W) => encode_any s W (by omega) h)
  have hez : (ba (encL (bl s))).size ≤ 6000 := by
    rw [ba_size]
    have := enc_len (bl s).length (bl s) (Nat.le_refl _)
    rw [bl_len] at this
    omega
  have HI : Hid (wid (pbAt (bl (ba (encL (bl s)))) 0) (0 - 0) ((bl (ba (encL (bl s)))).drop 0) = true) := Lib.hid (by rw [bl_ba, List.drop_zero]; exact enc_wid (bl s))
  generalize ba (encL (bl s)) = t at *
  go_enter Tryd.func6, Tryd.ntmps6
  go_wp2_with fail
  refine HW.out.mono ?_
  rintro e w1 ⟨rfl, hb⟩
  have HB := Lib.hid hb
  clear hb
  go_wp2_with fail
  refine (hE.out w1 (HM.out.below HB.out)).mono ?_
  rintro e w2 ⟨rfl, hb⟩
  have HB2 := Lib.hid (HB.out.trans (hb.mono HB.out.size))
  clear hb
  go_wp2_with fail
  go_loopw [4, 5] (fun a i wr => ∃ (k j : Nat), k ≤ t.size ∧ j ≤ k ∧ i = .int .i64 k ∧ a = .int .i64 j ∧ Hid (wid (pbAt (bl t) k) (k - j) ((bl t).drop k) = true) ∧ w2 = wr) (fun _ i _ => t.size - (intOf i).toNat)
  case atStart => exact ⟨0, 0, Nat.zero_le _, Nat.zero_le _, rfl, rfl, HI, rfl⟩
  case round =>
    clear HI
    obtain ⟨k, j, hk, hjk, rfl, rfl, hV, rfl⟩ := hrel
    by_cases hlt : k < t.size
    · have hd := drop_cons t k hlt
      have hv := hV.out
      rw [hd] at hv
      by_cases h13 : t[k].toNat = 13
      · have c13 : t[k] = 13 := by rw [← UInt8.toNat_inj]; exact h13
        have q13 : ((t[k].toNat : Int) == 13) = true := by rw [h13]; rfl
        rw [c13] at hv
        obtain ⟨hpb, r, hr, hwr⟩ := wid_13 hv
        have hlt2 : k + 1 < t.size := by
          rcases Nat.lt_or_ge (k + 1) t.size with h | h
          · exact h
          · rw [drop_end t (k + 1) (by omega)] at hr
            cases hr
        have hd1 : (bl t).drop (k + 1) = t[k + 1] :: (bl t).drop (k + 1 + 1) := drop_cons t (k + 1) hlt2
        rw [hd1] at hr
        obtain ⟨h10, hrr⟩ := List.cons.inj hr
        have q10 : ((t[k + 1].toNat : Int) != 10) = false := by rw [h10]; rfl
        have n1 : ¬ (k : Int) + 1 ≥ (t.size : Int) := by omega
        have HN : Hid (wid (pbAt (bl t) (k + 1 + 1)) (k + 1 + 1 - (k + 1 + 1)) ((bl t).drop (k + 1 + 1)) = true) := Lib.hid (by
          rw [pb_at t (k + 1) hlt2, h10, Nat.sub_self, hrr, show bk 10 = false from by decide]
          exact hwr)
        clear hV hv hd hd1 hr hwr h10 hrr c13 h13
        cases k with
        | zero =>
          clear hpb
          go_wp2_with fail
          go_roundw
          case rel => exact ⟨0 + 1 + 1, 0 + 1 + 1, by omega, Nat.le_refl _, by simp, by simp, HN, trivial⟩
          case measure => simp [intOf]; omega
        | succ p =>
          rw [pb_at t p (by omega)] at hpb
          obtain ⟨b1, b2⟩ := bk_split hpb
          have hp : p < t.size := by omega
          have hsub : ((p + 1 : Nat) : Int) - 1 = (p : Int) := by omega
          clear hpb
          go_wp2_with fail
          go_roundw
          case rel => exact ⟨p + 1 + 1 + 1, p + 1 + 1 + 1, by omega, Nat.le_refl _, by simp, by simp, HN, trivial⟩
          case measure => simp [intOf]; omega
      · have c13 : t[k] ≠ 13 := by
          intro e
          apply h13
          rw [e]
          rfl
        have q13 : ((t[k].toNat : Int) == 13) = false := by rw [beq_eq_false_iff_ne]; omega
        obtain ⟨hpl, h76, hrest⟩ := wid_other c13 hv
        have HN : Hid (wid (pbAt (bl t) (k + 1)) (k + 1 - j) ((bl t).drop (k + 1)) = true) := Lib.hid (by
          rw [pb_at t k hlt, show k + 1 - j = k - j + 1 by omega]
          exact hrest)
        have n76 : ¬ (k : Int) + 1 - (j : Int) > 76 := by omega
        clear hV hv hd hrest c13 h13
        by_cases h9 : t[k].toNat = 9
        · have q9 : ((t[k].toNat : Int) != 9) = false := by rw [h9]; rfl
          clear hpl h9
          go_wp2_with fail
          go_roundw
          case rel => exact ⟨k + 1, j, by omega, by omega, by simp, rfl, HN, trivial⟩
          case measure => simp [intOf]; omega
        · have q9 : ((t[k].toNat : Int) != 9) = true := by rw [bne_iff_ne]; omega
          have q1 : ¬ (t[k].toNat : Int) < 32 := by omega
          have q2 : ¬ (t[k].toNat : Int) > 126 := by omega
          clear hpl h9
          go_wp2_with fail
          go_roundw
          case rel => exact ⟨k + 1, j, by omega, by omega, by simp, rfl, HN, trivial⟩
          case measure => simp [intOf]; omega
    · obtain rfl : k = t.size := by omega
      have hpb : pbAt (bl t) t.size = false := by
        have := hV.out
        rw [drop_end t t.size (by omega)] at this
        simpa [wid] using this
      clear hV
      by_cases h0 : t.size = 0
      · have q0 : ((t.size : Int) == 0) = true := by rw [h0]; rfl
        clear hpb h0
        go_wp2_with fail
        go_ret
        exact ⟨rfl, HB2.out⟩
      · have q0 : ((t.size : Int) == 0) = false := by rw [beq_eq_false_iff_ne]; omega
        obtain ⟨p, hp⟩ : ∃ p, t.size = p + 1 := ⟨t.size - 1, by omega⟩
        have hplt : p < t.size := by omega
        rw [hp, pb_at t p hplt] at hpb
        obtain ⟨b1, b2⟩ := bk_split hpb
        have b1' : ((t[p].toNat : Int) != 32) = true := by rw [bne_iff_ne]; intro e; rw [e] at b1; cases b1
        have b2' : ((t[p].toNat : Int) != 9) = true := by rw [bne_iff_ne]; intro e; rw [e] at b2; cases b2
        have hsub : (t.size : Int) - 1 = (p : Int) := by omega
        clear hpb h0 hp
        go_wp2_with fail
        go_ret
        exact ⟨rfl, HB2.out⟩
end Go.Proofs.YtobnckbpgckgjaaDoor.Qp
