/-
  The document's small tests and its Trim, line.
-/
import Derived.Test.YtpklmlhioklpoaaDoorHeadTest
namespace Go.Proofs.YtpklmlhioklpoaaDoor.Head
open Go Go.RowKit

set_option maxRecDepth 100000 in
set_option maxHeartbeats 400000 in
theorem rblank_any (c : UInt8) (w : World) :
    Calls Tryd.prog 34 #[.int .u8 c.toNat] w fun e w' => e = .returned (.bool (bk c)) ∧ w = w' := by
  have e : Hid (bk c = (((c.toNat : Int) == 32) || ((c.toNat : Int) == 9))) := Lib.hid (by
    unfold bk bkN
    rw [Bool.eq_iff_iff]
    simp only [Bool.or_eq_true, beq_iff_eq]
    omega)
  generalize bk c = q at *
  cases h1 : ((c.toNat : Int) == 32) <;> cases h2 : ((c.toNat : Int) == 9)
  all_goals
    rw [h1, h2] at e
    go_enter Tryd.func34, Tryd.ntmps34
    go_wp2
    go_ret
    exact ⟨by rw [e.out]; rfl, rfl⟩
set_option maxRecDepth 100000 in
set_option maxHeartbeats 1000000 in
theorem rtext_any (s : ByteArray) (w : World) (hs : s.size ≤ 1000000000) :
    Calls Tryd.prog 33 #[.string s] w fun e w' => e = .returned (.bool (textB (bl s))) ∧ w = w' := by
  go_enter Tryd.func33, Tryd.ntmps33
  go_wp2_with fail
  go_loopw [3] (fun i wr => ∃ k : Nat, k ≤ s.size ∧ i = .int .i64 k ∧ Hid (textB (bl s) = ((bl s).drop k).all tx) ∧ w = wr) (fun i _ => s.size - (intOf i).toNat)
  case atStart => exact ⟨0, Nat.zero_le _, rfl, Lib.hid rfl, rfl⟩
  case round =>
    obtain ⟨k, hk, rfl, hE, rfl⟩ := hrel
    by_cases hlt : k < s.size
    · have hst := all_step (p := tx) s k hlt
      have h8 := s[k].toNat_lt
      have htx : tx s[k] = !((decide (s[k].toNat < 32) && !(s[k].toNat == 9)) || s[k].toNat == 127) := rfl
      by_cases c2 : s[k].toNat = 9
      · have d2 : ((s[k].toNat : Int) != 9) = false := by rw [c2]; rfl
        have HN : Hid (textB (bl s) = ((bl s).drop (k + 1)).all tx) := Lib.hid (by rw [hE.out, hst, htx, c2]; simp)
        clear hst htx
        go_wp2_with fail
        go_roundw
        case rel => exact ⟨k + 1, by omega, by simp, HN, trivial⟩
        case measure => simp [intOf]; omega
      · have d2 : ((s[k].toNat : Int) != 9) = true := by rw [bne_iff_ne]; omega
        by_cases c1 : s[k].toNat < 32
        · have d1 : ((s[k].toNat : Int) < 32) := by omega
          have HN : Hid (textB (bl s) = false) := Lib.hid (by rw [hE.out, hst, htx]; simp [c1, c2])
          clear hst htx
          go_wp2_with fail
          go_ret
          rw [HN.out]
          exact ⟨rfl, rfl⟩
        · have d1 : ¬ ((s[k].toNat : Int) < 32) := by omega
          by_cases c3 : s[k].toNat = 127
          · have d3 : ((s[k].toNat : Int) == 127) = true := by rw [c3]; rfl
            have HN : Hid (textB (bl s) = false) := Lib.hid (by rw [hE.out, hst, htx, c3]; simp)
            clear hst htx
            go_wp2_with fail
            go_ret
            rw [HN.out]
            exact ⟨rfl, rfl⟩
          · have d3 : ((s[k].toNat : Int) == 127) = false := by rw [beq_eq_false_iff_ne]; omega
            have HN : Hid (textB (bl s) = ((bl s).drop (k + 1)).all tx) := Lib.hid (by rw [hE.out, hst, htx]; simp [c1, c3])
            clear hst htx
            go_wp2_with fail
            go_roundw
            case rel => exact ⟨k + 1, by omega, by simp, HN, trivial⟩
            case measure => simp [intOf]; omega
    · have HN : Hid (textB (bl s) = true) := Lib.hid (by rw [hE.out, drop_end s k hlt]; rfl)
      go_wp2_with fail
      go_ret
      rw [HN.out]
      exact ⟨rfl, rfl⟩
set_option maxRecDepth 100000 in
set_option maxHeartbeats 1000000 in
theorem rname_any (s : ByteArray) (w : World) (hs : s.size ≤ 1000000000) :
    Calls Tryd.prog 35 #[.string s] w fun e w' => e = .returned (.bool (nameB (bl s))) ∧ w = w' := by
  go_enter Tryd.func35, Tryd.ntmps35
  go_wp2_with fail
  go_loopw [3] (fun i wr => ∃ k : Nat, k ≤ s.size ∧ i = .int .i64 k ∧ Hid ((bl s).all nm = ((bl s).drop k).all nm) ∧ w = wr) (fun i _ => s.size - (intOf i).toNat)
  case atStart => exact ⟨0, Nat.zero_le _, rfl, Lib.hid rfl, rfl⟩
  case round =>
    obtain ⟨k, hk, rfl, hE, rfl⟩ := hrel
    by_cases hlt : k < s.size
    · have hst := all_step (p := nm) s k hlt
      have h8 := s[k].toNat_lt
      have hnm : nm s[k] = !(decide (s[k].toNat < 33) || (decide (126 < s[k].toNat) || s[k].toNat == 58)) := rfl
      by_cases c1 : s[k].toNat < 33
      · have d1 : ((s[k].toNat : Int) < 33) := by omega
        have HN : Hid (nameB (bl s) = false) := Lib.hid (nameB_all (by rw [hE.out, hst, hnm]; simp [c1]))
        clear hst hnm
        go_wp2_with fail
        go_ret
        rw [HN.out]
        exact ⟨rfl, rfl⟩
      · have d1 : ¬ ((s[k].toNat : Int) < 33) := by omega
        by_cases c2 : 126 < s[k].toNat
        · have d2 : (126 : Int) < (s[k].toNat : Int) := by omega
          have HN : Hid (nameB (bl s) = false) := Lib.hid (nameB_all (by rw [hE.out, hst, hnm]; simp [c1, c2]))
          clear hst hnm
          go_wp2_with fail
          go_ret
          rw [HN.out]
          exact ⟨rfl, rfl⟩
        · have d2 : ¬ (126 : Int) < (s[k].toNat : Int) := by omega
          by_cases c3 : s[k].toNat = 58
          · have d3 : ((s[k].toNat : Int) == 58) = true := by rw [c3]; rfl
            have HN : Hid (nameB (bl s) = false) := Lib.hid (nameB_all (by rw [hE.out, hst, hnm, c3]; simp))
            clear hst hnm
            go_wp2_with fail
            go_ret
            rw [HN.out]
            exact ⟨rfl, rfl⟩
          · have d3 : ((s[k].toNat : Int) == 58) = false := by rw [beq_eq_false_iff_ne]; omega
            have HN : Hid ((bl s).all nm = ((bl s).drop (k + 1)).all nm) := Lib.hid (by rw [hE.out, hst, hnm]; simp [c1, c2, c3])
            clear hst hnm
            go_wp2_with fail
            go_roundw
            case rel => exact ⟨k + 1, by omega, by simp, HN, trivial⟩
            case measure => simp [intOf]; omega
    · have HN : Hid (nameB (bl s) = (decide (1 ≤ s.size) && decide (s.size ≤ 76))) := Lib.hid (by
        unfold nameB
        rw [hE.out, drop_end s k hlt, bl_len]
        have he : (!(bl s).isEmpty) = decide (1 ≤ s.size) := by
          rw [← bl_len]
          cases bl s <;> simp
        rw [he]
        simp)
      by_cases c1 : 1 ≤ s.size
      · have d1 : (1 : Int) ≤ (s.size : Int) := by omega
        rw [decide_eq_true c1] at HN
        by_cases c : s.size ≤ 76
        · have d : (s.size : Int) ≤ 76 := by omega
          rw [decide_eq_true c] at HN
          go_wp2_with fail
          go_ret
          exact ⟨ret_bool (by rw [HN.out]; rfl), rfl⟩
        · have d : ¬ (s.size : Int) ≤ 76 := by omega
          rw [decide_eq_false c] at HN
          go_wp2_with fail
          go_ret
          exact ⟨ret_bool (by rw [HN.out]; rfl), rfl⟩
      · have d1 : ¬ (1 : Int) ≤ (s.size : Int) := by omega
        rw [decide_eq_false c1] at HN
        go_wp2_with fail
        go_ret
        exact ⟨ret_bool (by rw [HN.out]; rfl), rfl⟩

/-! Trim. -/
theorem trimR_cons (c : UInt8) (t : List UInt8) : trimR (c :: t) = if trimR t = [] ∧ bk c = true then [] else c :: trimR t := by
  unfold trimR
  rw [List.reverse_cons, List.dropWhile_append]
  cases h : (t.reverse.dropWhile bk) with
  | nil =>
    rw [show ([] : List UInt8).isEmpty = true from rfl, if_pos rfl, List.dropWhile_cons]
    cases hb : bk c <;> simp [List.dropWhile]
  | cons d u =>
    rw [show (d :: u : List UInt8).isEmpty = false from rfl, if_neg (by decide), if_neg (by simp)]
    simp
theorem trim_cons {c : UInt8} (t : List UInt8) (h : bk c = true) : trimL (c :: t) = trimL t := by
  unfold trimL
  rw [trimR_cons]
  split
  · rename_i h2
    rw [h2.1]
  · rw [List.dropWhile_cons, if_pos h]
theorem trim_snoc {c : UInt8} (a : List UInt8) (h : bk c = true) : trimL (a ++ [c]) = trimL a := by
  unfold trimL trimR
  rw [List.reverse_append, List.reverse_singleton, List.singleton_append, List.dropWhile_cons, if_pos h]
theorem trim_id {a : List UInt8} (h1 : hdB a = false) (h2 : ∀ c, a.getLast? = some c → bk c = false) : trimL a = a := by
  have hR : trimR a = a := by
    unfold trimR
    cases hr : a.reverse with
    | nil =>
      have := congrArg List.reverse hr
      rw [List.reverse_reverse] at this
      rw [this]; rfl
    | cons c u =>
      have hc : bk c = false := h2 c (by
        have := congrArg List.head? hr
        rw [List.head?_reverse] at this
        exact this)
      rw [List.dropWhile_cons, hc, if_neg (by decide), ← hr, List.reverse_reverse]
  unfold trimL
  rw [hR]
  cases a with
  | nil => rfl
  | cons c t => rw [List.dropWhile_cons, show bk c = false from h1, if_neg (by decide)]
theorem last_at (s : ByteArray) (h : 0 < s.size) : bl s = bl (s.extract 0 (s.size - 1)) ++ [s[s.size - 1]'(by omega)] := by
  have h1 : bl (s.extract 0 (s.size - 1)) = (bl s).take (s.size - 1) := by rw [bl_extract]; simp
  rw [h1]
  have hlt : s.size - 1 < (bl s).length := by rw [bl_len]; omega
  have h2 : (bl s).take (s.size - 1 + 1) = (bl s).take (s.size - 1) ++ [(bl s)[s.size - 1]'hlt] := List.take_succ_eq_append_getElem hlt
  rw [show (bl s).take (s.size - 1 + 1) = bl s from List.take_of_length_le (by rw [bl_len]; omega)] at h2
  exact h2
set_option maxRecDepth 100000 in
set_option maxHeartbeats 1000000 in
theorem rtrim_any (s : ByteArray) (w : World) (hs : s.size ≤ 1000000000) :
    Calls Tryd.prog 36 #[.string s] w fun e w' => e = .returned (.string (ba (trimL (bl s)))) ∧ w = w' := by
  go_enter Tryd.func36, Tryd.ntmps36
  go_wp2_with fail
  go_loopw [0] (fun s0 wr => ∃ x : ByteArray, s0 = .string x ∧ x.size ≤ s.size ∧ Hid (trimL (bl x) = trimL (bl s)) ∧ w = wr) (fun s0 _ => Lib.strSize s0)
  case atStart => exact ⟨s, rfl, Nat.le_refl _, Lib.hid rfl, rfl⟩
  case round =>
    obtain ⟨x, rfl, hx, hE, rfl⟩ := hrel
    have step2 : hdB (bl x) = false → Hid (hdB (bl x) = false) := fun h => h
    by_cases h0 : 0 < x.size
    · have d0 : (0 : Int) < (x.size : Int) := by omega
      have HB := Lib.hid (fun W => rblank_any x[0] W)
      have hc := drop_cons x 0 h0
      rw [List.drop_zero] at hc
      cases hb : bk x[0]
      · rw [hb] at HB
        have HH : Hid (hdB (bl x) = false) := Lib.hid (by rw [hc]; exact hb)
        clear hc hb
        go_wp2_with fail
        refine (HB.out _).mono ?_
        rintro e w1 ⟨rfl, rfl⟩
        go_wp2_with fail
        go_loopw [0] (fun s0 wr => ∃ y : ByteArray, s0 = .string y ∧ y.size ≤ s.size ∧ Hid (trimL (bl y) = trimL (bl s) ∧ hdB (bl y) = false) ∧ w = wr) (fun s0 _ => Lib.strSize s0)
        case atStart => exact ⟨x, rfl, hx, Lib.hid ⟨hE.out, HH.out⟩, rfl⟩
        case round =>
          obtain ⟨y, rfl, hy, hE2, rfl⟩ := hrel
          by_cases h1 : 0 < y.size
          · have d1 : (0 : Int) < (y.size : Int) := by omega
            have hl := last_at y h1
            have hsub : (y.size : Int) - 1 = ((y.size - 1 : Nat) : Int) := by omega
            have HB1 := Lib.hid (fun W => rblank_any (y[y.size - 1]'(by omega)) W)
            have hidx : y.size - 1 < y.size := by omega
            cases hb1 : bk (y[y.size - 1]'(by omega))
            · rw [hb1] at HB1
              have HF : Hid (ba (trimL (bl s)) = y) := Lib.hid (by
                rw [← hE2.out.1, trim_id hE2.out.2 (fun c hc => by
                  rw [hl, List.getLast?_concat] at hc
                  obtain rfl : y[y.size - 1]'(by omega) = c := Option.some.inj hc
                  exact hb1), ba_bl])
              clear hl hb1
              go_wp2_with fail
              refine (HB1.out _).mono ?_
              rintro e w1 ⟨rfl, rfl⟩
              go_wp2_with fail
              go_ret
              exact ⟨by rw [HF.out]; rfl, rfl⟩
            · rw [hb1] at HB1
              have HN : Hid (trimL (bl (y.extract 0 (y.size - 1))) = trimL (bl s) ∧ hdB (bl (y.extract 0 (y.size - 1))) = false) := Lib.hid (by
                refine ⟨by rw [← hE2.out.1, ← trim_snoc _ hb1, ← hl], ?_⟩
                by_cases hn : bl (y.extract 0 (y.size - 1)) = []
                · rw [hn]; rfl
                · have := hE2.out.2
                  rw [hl, hd_app hn] at this
                  exact this)
              clear hl hb1
              go_wp2_with fail
              refine (HB1.out _).mono ?_
              rintro e w1 ⟨rfl, rfl⟩
              go_wp2_with fail
              go_roundw
              case rel => exact ⟨y.extract 0 (y.size - 1), rfl, by rw [ByteArray.size_extract]; omega, HN, trivial⟩
              case measure => simp only [Lib.strSize, ByteArray.size_extract]; omega
          · have d1 : ¬ (0 : Int) < (y.size : Int) := by omega
            have HF : Hid (ba (trimL (bl s)) = y) := Lib.hid (by
              have : bl y = [] := List.length_eq_zero_iff.1 (by rw [bl_len]; omega)
              rw [← hE2.out.1, this, show trimL [] = [] from rfl, ← this, ba_bl])
            go_wp2_with fail
            go_ret
            exact ⟨by rw [HF.out]; rfl, rfl⟩
      · rw [hb] at HB
        have HN : Hid (trimL (bl (x.extract 1 x.size)) = trimL (bl s)) := Lib.hid (by
          rw [← hE.out, hc, trim_cons _ hb, bl_from])
        clear hc hb
        go_wp2_with fail
        refine (HB.out _).mono ?_
        rintro e w1 ⟨rfl, rfl⟩
        go_wp2_with fail
        go_roundw
        case rel => exact ⟨x.extract 1 x.size, rfl, by rw [ByteArray.size_extract]; omega, HN, trivial⟩
        case measure => simp only [Lib.strSize, ByteArray.size_extract]; omega
    · have d0 : ¬ (0 : Int) < (x.size : Int) := by omega
      have HF : Hid (ba (trimL (bl s)) = x) := Lib.hid (by
        have : bl x = [] := List.length_eq_zero_iff.1 (by rw [bl_len]; omega)
        rw [← hE.out, this, show trimL [] = [] from rfl, ← this, ba_bl])
      go_wp2_with fail
      go_loopw [0] (fun s0 wr => s0 = .string x ∧ w = wr) (fun s0 _ => Lib.strSize s0)
      case atStart => exact ⟨rfl, rfl⟩
      case round =>
        obtain ⟨rfl, rfl⟩ := hrel
        go_wp2_with fail
        go_ret
        exact ⟨by rw [HF.out]; rfl, rfl⟩

/-! line. -/
def lineN (l : List UInt8) : Int := Lib.index l [13, 10]
theorem lineN_cons (c : UInt8) (t : List UInt8) : lineN (c :: t) = if crlf (c :: t) = true then 0 else if lineN t = -1 then -1 else lineN t + 1 := by
  unfold lineN
  rw [Lib.index, crlf_pre]
  split
  · rfl
  · by_cases h : Lib.index t [13, 10] = -1
    · simp [h]
    · have : (Lib.index t [13, 10] == -1) = false := by rw [beq_eq_false_iff_ne]; exact h
      simp [h]
theorem lineN_short {l : List UInt8} (h : l.length ≤ 1) : lineN l = -1 := by
  match l, h with
  | [], _ => rfl
  | [c], _ => rw [lineN_cons]; rfl
def LineAt (l : List UInt8) (k : Nat) : Prop := lineN l = if lineN (l.drop k) = -1 then -1 else (k : Int) + lineN (l.drop k)
theorem line_on {l : List UInt8} {k : Nat} {c : UInt8} (hd : l.drop k = c :: l.drop (k + 1)) (hc : crlf (l.drop k) = false) (h : LineAt l k) : LineAt l (k + 1) := by
  unfold LineAt at *
  have hge : -1 ≤ lineN (l.drop (k + 1)) := Lib.index_ge _ _
  have h1 := lineN_cons c (l.drop (k + 1))
  rw [← hd, hc, if_neg (by decide)] at h1
  rw [h, h1]
  by_cases e : lineN (l.drop (k + 1)) = -1
  · rw [if_pos e, if_pos rfl, if_pos e]
  · rw [if_neg e, if_neg (by omega), if_neg e]
    omega
theorem line_hit {l : List UInt8} {k : Nat} {c : UInt8} (hd : l.drop k = c :: l.drop (k + 1)) (hc : crlf (l.drop k) = true) (h : LineAt l k) : lineN l = (k : Int) := by
  have h1 := lineN_cons c (l.drop (k + 1))
  rw [← hd, hc, if_pos rfl] at h1
  unfold LineAt at h
  rw [h, h1]
  simp
theorem line_end {l : List UInt8} {k : Nat} (hl : (l.drop k).length ≤ 1) (h : LineAt l k) : lineN l = -1 := by
  unfold LineAt at h
  rw [h, lineN_short hl]
  rfl
set_option maxRecDepth 100000 in
set_option maxHeartbeats 1000000 in
theorem rline_any (s : ByteArray) (w : World) (hs : s.size ≤ 1000000000) :
    Calls Tryd.prog 32 #[.string s] w fun e w' => e = .returned (.int .i64 (lineN (bl s))) ∧ w = w' := by
  go_enter Tryd.func32, Tryd.ntmps32
  go_wp2_with fail
  go_loopw [3] (fun i wr => ∃ k : Nat, k ≤ s.size ∧ i = .int .i64 k ∧ Hid (LineAt (bl s) k) ∧ w = wr) (fun i _ => s.size - (intOf i).toNat)
  case atStart => exact ⟨0, Nat.zero_le _, rfl, Lib.hid (by unfold LineAt; rw [List.drop_zero]; by_cases e : lineN (bl s) = -1 <;> simp [e]), rfl⟩
  case round =>
    obtain ⟨k, hk, rfl, hE, rfl⟩ := hrel
    by_cases hlt : k + 1 < s.size
    · have hk0 : k < s.size := by omega
      have d0 : (k : Int) + 1 < (s.size : Int) := by omega
      have hst := drop_cons s k hk0
      have hcr : crlf ((bl s).drop k) = ((s[k].toNat == 13) && (s[k + 1].toNat == 10)) := by
        rw [drop_cons s k hk0, drop_cons s (k + 1) hlt]
        show (s[k] == 13 && s[k + 1] == 10) = _
        rw [Bool.eq_iff_iff]
        simp only [Bool.and_eq_true, beq_iff_eq]
        constructor
        · rintro ⟨a, b⟩; rw [a, b]; exact ⟨rfl, rfl⟩
        · rintro ⟨a, b⟩; exact ⟨UInt8.toNat_inj.1 a, UInt8.toNat_inj.1 b⟩
      by_cases c1 : s[k].toNat = 13
      · have d1 : ((s[k].toNat : Int) == 13) = true := by rw [c1]; rfl
        by_cases c2 : s[k + 1].toNat = 10
        · have d2 : ((s[k + 1].toNat : Int) == 10) = true := by rw [c2]; rfl
          have HN : Hid (lineN (bl s) = (k : Int)) := Lib.hid (line_hit hst (by rw [hcr, c1, c2]; rfl) hE.out)
          clear hst hcr
          go_wp2_with fail
          go_ret
          rw [HN.out]
          exact ⟨rfl, rfl⟩
        · have d2 : ((s[k + 1].toNat : Int) == 10) = false := by rw [beq_eq_false_iff_ne]; omega
          have HN : Hid (LineAt (bl s) (k + 1)) := Lib.hid (line_on hst (by rw [hcr]; simp [c2]) hE.out)
          clear hst hcr
          go_wp2_with fail
          go_roundw
          case rel => exact ⟨k + 1, by omega, by simp, HN, trivial⟩
          case measure => simp [intOf]; omega
      · have d1 : ((s[k].toNat : Int) == 13) = false := by rw [beq_eq_false_iff_ne]; omega
        have HN : Hid (LineAt (bl s) (k + 1)) := Lib.hid (line_on hst (by rw [hcr]; simp [c1]) hE.out)
        clear hst hcr
        go_wp2_with fail
        go_roundw
        case rel => exact ⟨k + 1, by omega, by simp, HN, trivial⟩
        case measure => simp [intOf]; omega
    · have d0 : ¬ (k : Int) + 1 < (s.size : Int) := by omega
      have HN : Hid (lineN (bl s) = -1) := Lib.hid (line_end (by rw [List.length_drop, bl_len]; omega) hE.out)
      go_wp2_with fail
      go_ret
      rw [HN.out]
      exact ⟨rfl, rfl⟩
end Go.Proofs.YtpklmlhioklpoaaDoor.Head
