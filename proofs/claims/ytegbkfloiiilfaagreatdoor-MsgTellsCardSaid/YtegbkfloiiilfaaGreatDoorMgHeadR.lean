/-
  Walks of the document head, the first part.
-/
import Derived.Test.YtegbkfloiiilfaaGreatDoorMgHeadA
import Derived.Test.YtegbkfloiiilfaaGreatDoorMgHeadD
import Derived.Test.YtegbkfloiiilfaaGreatDoorMgGlyph

/-
  The document's small tests and its Trim, line.
-/
namespace Go.Proofs.YtegbkfloiiilfaaGreatDoor.Head
open Go Go.RowKit

set_option maxRecDepth 100000 in
set_option maxHeartbeats 400000 in
theorem rblank_any (c : UInt8) (w : World) :
    Calls Tryz.prog 70 #[.int .u8 c.toNat] w fun e w' => e = .returned (.bool (bk c)) ∧ w = w' := by
  have e : Hid (bk c = (((c.toNat : Int) == 32) || ((c.toNat : Int) == 9))) := Lib.hid (by
    unfold bk bkN
    rw [Bool.eq_iff_iff]
    simp only [Bool.or_eq_true, beq_iff_eq]
    omega)
  generalize bk c = q at *
  cases h1 : ((c.toNat : Int) == 32) <;> cases h2 : ((c.toNat : Int) == 9)
  all_goals
    rw [h1, h2] at e
    go_enter Tryz.func70, Tryz.ntmps70
    go_wp2
    go_ret
    exact ⟨by rw [e.out]; rfl, rfl⟩
set_option maxRecDepth 100000 in
set_option maxHeartbeats 1000000 in
theorem rtext_any (s : ByteArray) (w : World) (hs : s.size ≤ 1000000000) :
    Calls Tryz.prog 69 #[.string s] w fun e w' => e = .returned (.bool (textB (bl s))) ∧ w = w' := by
  go_enter Tryz.func69, Tryz.ntmps69
  go_wp2_with fail
  go_loopw [3] (fun i wr => ∃ k : Nat, k ≤ s.size ∧ i = .int .i64 k ∧ Hid (textB (bl s) = ((bl s).drop k).all tx) ∧ w = wr) (fun i _ => s.size - (intOf i).toNat)
  case atStart => exact ⟨0, Nat.zero_le _, rfl, Lib.hid rfl, rfl⟩
  case round =>
    obtain ⟨k, hk, rfl, hE, rfl⟩ := hrel
    by_cases hlt : k < s.size
    · have hst := all_step (p := tx) s k hlt
      have h8 := s[k].toNat_lt
      have htx : tx s[k] = !((decide (s[k].toNat < 32) && !(s[k].toNat == 9)) || s[k].toNat == 127) := rfl
      by_cases c2 : s[k].toNat = 9
      · have d2 : ((s[k].toNat : Int) != 9) = false := by rw [c2]; rfl
        have HN : Hid (textB (bl s) = ((bl s).drop (k + 1)).all tx) := Lib.hid (by rw [hE.out, hst, htx, c2]; simp)
        clear hst htx
        go_wp2_with fail
        go_roundw
        case rel => exact ⟨k + 1, by omega, by simp, HN, trivial⟩
        case measure => simp [intOf]; omega
      · have d2 : ((s[k].toNat : Int) != 9) = true := by rw [bne_iff_ne]; omega
        by_cases c1 : s[k].toNat < 32
        · have d1 : ((s[k].toNat : Int) < 32) := by omega
          have HN : Hid (textB (bl s) = false) := Lib.hid (by rw [hE.out, hst, htx]; simp [c1, c2])
          clear hst htx
          go_wp2_with fail
          go_ret
          rw [HN.out]
          exact ⟨rfl, rfl⟩
        · have d1 : ¬ ((s[k].toNat : Int) < 32) := by omega
          by_cases c3 : s[k].toNat = 127
          · have d3 : ((s[k].toNat : Int) == 127) = true := by rw [c3]; rfl
            have HN : Hid (textB (bl s) = false) := Lib.hid (by rw [hE.out, hst, htx, c3]; simp)
            clear hst htx
            go_wp2_with fail
            go_ret
            rw [HN.out]
            exact ⟨rfl, rfl⟩
          · have d3 : ((s[k].toNat : Int) == 127) = false := by rw [beq_eq_false_iff_ne]; omega
            have HN : Hid (textB (bl s) = ((bl s).drop (k + 1)).all tx) := Lib.hid (by rw [hE.out, hst, htx]; simp [c1, c3])
            clear hst htx
            go_wp2_with fail
            go_roundw
            case rel => exact ⟨k + 1, by omega, by simp, HN, trivial⟩
            case measure => simp [intOf]; omega
    · have HN : Hid (textB (bl s) = true) := Lib.hid (by rw [hE.out, drop_end s k hlt]; rfl)
      go_wp2_with fail
      go_ret
      rw [HN.out]
      exact ⟨rfl, rfl⟩
set_option maxRecDepth 100000 in
set_option maxHeartbeats 1000000 in
theorem rname_any (s : ByteArray) (w : World) (hs : s.size ≤ 1000000000) :
    Calls Tryz.prog 71 #[.string s] w fun e w' => e = .returned (.bool (nameB (bl s))) ∧ w = w' := by
  go_enter Tryz.func71, Tryz.ntmps71
  go_wp2_with fail
  go_loopw [3] (fun i wr => ∃ k : Nat, k ≤ s.size ∧ i = .int .i64 k ∧ Hid ((bl s).all nm = ((bl s).drop k).all nm) ∧ w = wr) (fun i _ => s.size - (intOf i).toNat)
  case atStart => exact ⟨0, Nat.zero_le _, rfl, Lib.hid rfl, rfl⟩
  case round =>
    obtain ⟨k, hk, rfl, hE, rfl⟩ := hrel
    by_cases hlt : k < s.size
    · have hst := all_step (p := nm) s k hlt
      have h8 := s[k].toNat_lt
      have hnm : nm s[k] = !(decide (s[k].toNat < 33) || (decide (126 < s[k].toNat) || s[k].toNat == 58)) := rfl
      by_cases c1 : s[k].toNat < 33
      · have d1 : ((s[k].toNat : Int) < 33) := by omega
        have HN : Hid (nameB (bl s) = false) := Lib.hid (nameB_all (by rw [hE.out, hst, hnm]; simp [c1]))
        clear hst hnm
        go_wp2_with fail
        go_ret
        rw [HN.out]
        exact ⟨rfl, rfl⟩
      · have d1 : ¬ ((s[k].toNat : Int) < 33) := by omega
        by_cases c2 : 126 < s[k].toNat
        · have d2 : (126 : Int) < (s[k].toNat : Int) := by omega
          have HN : Hid (nameB (bl s) = false) := Lib.hid (nameB_all (by rw [hE.out, hst, hnm]; simp [c1, c2]))
          clear hst hnm
          go_wp2_with fail
          go_ret
          rw [HN.out]
          exact ⟨rfl, rfl⟩
        · have d2 : ¬ (126 : Int) < (s[k].toNat : Int) := by omega
          by_cases c3 : s[k].toNat = 58
          · have d3 : ((s[k].toNat : Int) == 58) = true := by rw [c3]; rfl
            have HN : Hid (nameB (bl s) = false) := Lib.hid (nameB_all (by rw [hE.out, hst, hnm, c3]; simp))
            clear hst hnm
            go_wp2_with fail
            go_ret
            rw [HN.out]
            exact ⟨rfl, rfl⟩
          · have d3 : ((s[k].toNat : Int) == 58) = false := by rw [beq_eq_false_iff_ne]; omega
            have HN : Hid ((bl s).all nm = ((bl s).drop (k + 1)).all nm) := Lib.hid (by rw [hE.out, hst, hnm]; simp [c1, c2, c3])
            clear hst hnm
            go_wp2_with fail
            go_roundw
            case rel => exact ⟨k + 1, by omega, by simp, HN, trivial⟩
            case measure => simp [intOf]; omega
    · have HN : Hid (nameB (bl s) = (decide (1 ≤ s.size) && decide (s.size ≤ 76))) := Lib.hid (by
        unfold nameB
        rw [hE.out, drop_end s k hlt, bl_len]
        have he : (!(bl s).isEmpty) = decide (1 ≤ s.size) := by
          rw [← bl_len]
          cases bl s <;> simp
        rw [he]
        simp)
      by_cases c1 : 1 ≤ s.size
      · have d1 : (1 : Int) ≤ (s.size : Int) := by omega
        rw [decide_eq_true c1] at HN
        by_cases c : s.size ≤ 76
        · have d : (s.size : Int) ≤ 76 := by omega
          rw [decide_eq_true c] at HN
          go_wp2_with fail
          go_ret
          exact ⟨ret_bool (by rw [HN.out]; rfl), rfl⟩
        · have d : ¬ (s.size : Int) ≤ 76 := by omega
          rw [decide_eq_false c] at HN
          go_wp2_with fail
          go_ret
          exact ⟨ret_bool (by rw [HN.out]; rfl), rfl⟩
      · have d1 : ¬ (1 : Int) ≤ (s.size : Int) := by omega
        rw [decide_eq_false c1] at HN
        go_wp2_with fail
        go_ret
        exact ⟨ret_bool (by rw [HN.out]; rfl), rfl⟩

/-! Trim. -/
theorem trimR_cons (c : UInt8) (t : List UInt8) : trimR (c :: t) = if trimR t = [] ∧ bk c = true then [] else c :: trimR t := by
  unfold trimR
  rw [List.reverse_cons, List.dropWhile_append]
  cases h : (t.reverse.dropWhile bk) with
  | nil =>
    rw [show ([] : List UInt8).isEmpty = true from rfl, if_pos rfl, List.dropWhile_cons]
    cases hb : bk c <;> simp [List.dropWhile]
  | cons d u =>
    rw [show (d :: u : List UInt8).isEmpty = false from rfl, if_neg (by decide), if_neg (by simp)]
    simp
theorem trim_cons {c : UInt8} (t : List UInt8) (h : bk c = true) : trimL (c :: t) = trimL t := by
  unfold trimL
  rw [trimR_cons]
  split
  · rename_i h2
    rw [h2.1]
  · rw [List.dropWhile_cons, if_pos h]
theorem trim_snoc {c : UInt8} (a : List UInt8) (h : bk c = true) : trimL (a ++ [c]) = trimL a := by
  unfold trimL trimR
  rw [List.reverse_append, List.reverse_singleton, List.singleton_append, List.dropWhile_cons, if_pos h]
theorem trim_id {a : List UInt8} (h1 : hdB a = false) (h2 : ∀ c, a.getLast? = some c → bk c = false) : trimL a = a := by
  have hR : trimR a = a := by
    unfold trimR
    cases hr : a.reverse with
    | nil =>
      have := congrArg List.reverse hr
      rw [List.reverse_reverse] at this
      rw [this]; rfl
    | cons c u =>
      have hc : bk c = false := h2 c (by
        have := congrArg List.head? hr
        rw [List.head?_reverse] at this
        exact this)
      rw [List.dropWhile_cons, hc, if_neg (by decide), ← hr, List.reverse_reverse]
  unfold trimL
  rw [hR]
  cases a with
  | nil => rfl
  | cons c t => rw [List.dropWhile_cons, show bk c = false from h1, if_neg (by decide)]
theorem last_at (s : ByteArray) (h : 0 < s.size) : bl s = bl (s.extract 0 (s.size - 1)) ++ [s[s.size - 1]'(by omega)] := by
  have h1 : bl (s.extract 0 (s.size - 1)) = (bl s).take (s.size - 1) := by rw [bl_extract]; simp
  rw [h1]
  have hlt : s.size - 1 < (bl s).length := by rw [bl_len]; omega
  have h2 : (bl s).take (s.size - 1 + 1) = (bl s).take (s.size - 1) ++ [(bl s)[s.size - 1]'hlt] := List.take_succ_eq_append_getElem hlt
  rw [show (bl s).take (s.size - 1 + 1) = bl s from List.take_of_length_le (by rw [bl_len]; omega)] at h2
  exact h2
set_option maxRecDepth 100000 in
set_option maxHeartbeats 1000000 in
theorem rtrim_any (s : ByteArray) (w : World) (hs : s.size ≤ 1000000000) :
    Calls Tryz.prog 72 #[.string s] w fun e w' => e = .returned (.string (ba (trimL (bl s)))) ∧ w = w' := by
  go_enter Tryz.func72, Tryz.ntmps72
  go_wp2_with fail
  go_loopw [0] (fun s0 wr => ∃ x : ByteArray, s0 = .string x ∧ x.size ≤ s.size ∧ Hid (trimL (bl x) = trimL (bl s)) ∧ w = wr) (fun s0 _ => Lib.strSize s0)
  case atStart => exact ⟨s, rfl, Nat.le_refl _, Lib.hid rfl, rfl⟩
  case round =>
    obtain ⟨x, rfl, hx, hE, rfl⟩ := hrel
    have step2 : hdB (bl x) = false → Hid (hdB (bl x) = false) := fun h => h
    by_cases h0 : 0 < x.size
    · have d0 : (0 : Int) < (x.size : Int) := by omega
      have HB := Lib.hid (fun W => rblank_any x[0] W)
      have hc := drop_cons x 0 h0
      rw [List.drop_zero] at hc
      cases hb : bk x[0]
      · rw [hb] at HB
        have HH : Hid (hdB (bl x) = false) := Lib.hid (by rw [hc]; exact hb)
        clear hc hb
        go_wp2_with fail
        refine (HB.out _).mono ?_
        rintro e w1 ⟨rfl, rfl⟩
        go_wp2_with fail
        go_loopw [0] (fun s0 wr => ∃ y : ByteArray, s0 = .string y ∧ y.size ≤ s.size ∧ Hid (trimL (bl y) = trimL (bl s) ∧ hdB (bl y) = false) ∧ w = wr) (fun s0 _ => Lib.strSize s0)
        case atStart => exact ⟨x, rfl, hx, Lib.hid ⟨hE.out, HH.out⟩, rfl⟩
        case round =>
          obtain ⟨y, rfl, hy, hE2, rfl⟩ := hrel
          by_cases h1 : 0 < y.size
          · have d1 : (0 : Int) < (y.size : Int) := by omega
            have hl := last_at y h1
            have hsub : (y.size : Int) - 1 = ((y.size - 1 : Nat) : Int) := by omega
            have HB1 := Lib.hid (fun W => rblank_any (y[y.size - 1]'(by omega)) W)
            have hidx : y.size - 1 < y.size := by omega
            cases hb1 : bk (y[y.size - 1]'(by omega))
            · rw [hb1] at HB1
              have HF : Hid (ba (trimL (bl s)) = y) := Lib.hid (by
                rw [← hE2.out.1, trim_id hE2.out.2 (fun c hc => by
                  rw [hl, List.getLast?_concat] at hc
                  obtain rfl : y[y.size - 1]'(by omega) = c := Option.some.inj hc
                  exact hb1), ba_bl])
              clear hl hb1
              go_wp2_with fail
              refine (HB1.out _).mono ?_
              rintro e w1 ⟨rfl, rfl⟩
              go_wp2_with fail
              go_ret
              exact ⟨by rw [HF.out]; rfl, rfl⟩
            · rw [hb1] at HB1
              have HN : Hid (trimL (bl (y.extract 0 (y.size - 1))) = trimL (bl s) ∧ hdB (bl (y.extract 0 (y.size - 1))) = false) := Lib.hid (by
                refine ⟨by rw [← hE2.out.1, ← trim_snoc _ hb1, ← hl], ?_⟩
                by_cases hn : bl (y.extract 0 (y.size - 1)) = []
                · rw [hn]; rfl
                · have := hE2.out.2
                  rw [hl, hd_app hn] at this
                  exact this)
              clear hl hb1
              go_wp2_with fail
              refine (HB1.out _).mono ?_
              rintro e w1 ⟨rfl, rfl⟩
              go_wp2_with fail
              go_roundw
              case rel => exact ⟨y.extract 0 (y.size - 1), rfl, by rw [ByteArray.size_extract]; omega, HN, trivial⟩
              case measure => simp only [Lib.strSize, ByteArray.size_extract]; omega
          · have d1 : ¬ (0 : Int) < (y.size : Int) := by omega
            have HF : Hid (ba (trimL (bl s)) = y) := Lib.hid (by
              have : bl y = [] := List.length_eq_zero_iff.1 (by rw [bl_len]; omega)
              rw [← hE2.out.1, this, show trimL [] = [] from rfl, ← this, ba_bl])
            go_wp2_with fail
            go_ret
            exact ⟨by rw [HF.out]; rfl, rfl⟩
      · rw [hb] at HB
        have HN : Hid (trimL (bl (x.extract 1 x.size)) = trimL (bl s)) := Lib.hid (by
          rw [← hE.out, hc, trim_cons _ hb, bl_from])
        clear hc hb
        go_wp2_with fail
        refine (HB.out _).mono ?_
        rintro e w1 ⟨rfl, rfl⟩
        go_wp2_with fail
        go_roundw
        case rel => exact ⟨x.extract 1 x.size, rfl, by rw [ByteArray.size_extract]; omega, HN, trivial⟩
        case measure => simp only [Lib.strSize, ByteArray.size_extract]; omega
    · have d0 : ¬ (0 : Int) < (x.size : Int) := by omega
      have HF : Hid (ba (trimL (bl s)) = x) := Lib.hid (by
        have : bl x = [] := List.length_eq_zero_iff.1 (by rw [bl_len]; omega)
        rw [← hE.out, this, show trimL [] = [] from rfl, ← this, ba_bl])
      go_wp2_with fail
      go_loopw [0] (fun s0 wr => s0 = .string x ∧ w = wr) (fun s0 _ => Lib.strSize s0)
      case atStart => exact ⟨rfl, rfl⟩
      case round =>
        obtain ⟨rfl, rfl⟩ := hrel
        go_wp2_with fail
        go_ret
        exact ⟨by rw [HF.out]; rfl, rfl⟩

/-! line. -/
def lineN (l : List UInt8) : Int := Lib.index l [13, 10]
theorem lineN_cons (c : UInt8) (t : List UInt8) : lineN (c :: t) = if crlf (c :: t) = true then 0 else if lineN t = -1 then -1 else lineN t + 1 := by
  unfold lineN
  rw [Lib.index, crlf_pre]
  split
  · rfl
  · by_cases h : Lib.index t [13, 10] = -1
    · simp [h]
    · have : (Lib.index t [13, 10] == -1) = false := by rw [beq_eq_false_iff_ne]; exact h
      simp [h]
theorem lineN_short {l : List UInt8} (h : l.length ≤ 1) : lineN l = -1 := by
  match l, h with
  | [], _ => rfl
  | [c], _ => rw [lineN_cons]; rfl
def LineAt (l : List UInt8) (k : Nat) : Prop := lineN l = if lineN (l.drop k) = -1 then -1 else (k : Int) + lineN (l.drop k)
theorem line_on {l : List UInt8} {k : Nat} {c : UInt8} (hd : l.drop k = c :: l.drop (k + 1)) (hc : crlf (l.drop k) = false) (h : LineAt l k) : LineAt l (k + 1) := by
  unfold LineAt at *
  have hge : -1 ≤ lineN (l.drop (k + 1)) := Lib.index_ge _ _
  have h1 := lineN_cons c (l.drop (k + 1))
  rw [← hd, hc, if_neg (by decide)] at h1
  rw [h, h1]
  by_cases e : lineN (l.drop (k + 1)) = -1
  · rw [if_pos e, if_pos rfl, if_pos e]
  · rw [if_neg e, if_neg (by omega), if_neg e]
    omega
theorem line_hit {l : List UInt8} {k : Nat} {c : UInt8} (hd : l.drop k = c :: l.drop (k + 1)) (hc : crlf (l.drop k) = true) (h : LineAt l k) : lineN l = (k : Int) := by
  have h1 := lineN_cons c (l.drop (k + 1))
  rw [← hd, hc, if_pos rfl] at h1
  unfold LineAt at h
  rw [h, h1]
  simp
theorem line_end {l : List UInt8} {k : Nat} (hl : (l.drop k).length ≤ 1) (h : LineAt l k) : lineN l = -1 := by
  unfold LineAt at h
  rw [h, lineN_short hl]
  rfl
set_option maxRecDepth 100000 in
set_option maxHeartbeats 1000000 in
theorem rline_any (s : ByteArray) (w : World) (hs : s.size ≤ 1000000000) :
    Calls Tryz.prog 68 #[.string s] w fun e w' => e = .returned (.int .i64 (lineN (bl s))) ∧ w = w' := by
  go_enter Tryz.func68, Tryz.ntmps68
  go_wp2_with fail
  go_loopw [3] (fun i wr => ∃ k : Nat, k ≤ s.size ∧ i = .int .i64 k ∧ Hid (LineAt (bl s) k) ∧ w = wr) (fun i _ => s.size - (intOf i).toNat)
  case atStart => exact ⟨0, Nat.zero_le _, rfl, Lib.hid (by unfold LineAt; rw [List.drop_zero]; by_cases e : lineN (bl s) = -1 <;> simp [e]), rfl⟩
  case round =>
    obtain ⟨k, hk, rfl, hE, rfl⟩ := hrel
    by_cases hlt : k + 1 < s.size
    · have hk0 : k < s.size := by omega
      have d0 : (k : Int) + 1 < (s.size : Int) := by omega
      have hst := drop_cons s k hk0
      have hcr : crlf ((bl s).drop k) = ((s[k].toNat == 13) && (s[k + 1].toNat == 10)) := by
        rw [drop_cons s k hk0, drop_cons s (k + 1) hlt]
        show (s[k] == 13 && s[k + 1] == 10) = _
        rw [Bool.eq_iff_iff]
        simp only [Bool.and_eq_true, beq_iff_eq]
        constructor
        · rintro ⟨a, b⟩; rw [a, b]; exact ⟨rfl, rfl⟩
        · rintro ⟨a, b⟩; exact ⟨UInt8.toNat_inj.1 a, UInt8.toNat_inj.1 b⟩
      by_cases c1 : s[k].toNat = 13
      · have d1 : ((s[k].toNat : Int) == 13) = true := by rw [c1]; rfl
        by_cases c2 : s[k + 1].toNat = 10
        · have d2 : ((s[k + 1].toNat : Int) == 10) = true := by rw [c2]; rfl
          have HN : Hid (lineN (bl s) = (k : Int)) := Lib.hid (line_hit hst (by rw [hcr, c1, c2]; rfl) hE.out)
          clear hst hcr
          go_wp2_with fail
          go_ret
          rw [HN.out]
          exact ⟨rfl, rfl⟩
        · have d2 : ((s[k + 1].toNat : Int) == 10) = false := by rw [beq_eq_false_iff_ne]; omega
          have HN : Hid (LineAt (bl s) (k + 1)) := Lib.hid (line_on hst (by rw [hcr]; simp [c2]) hE.out)
          clear hst hcr
          go_wp2_with fail
          go_roundw
          case rel => exact ⟨k + 1, by omega, by simp, HN, trivial⟩
          case measure => simp [intOf]; omega
      · have d1 : ((s[k].toNat : Int) == 13) = false := by rw [beq_eq_false_iff_ne]; omega
        have HN : Hid (LineAt (bl s) (k + 1)) := Lib.hid (line_on hst (by rw [hcr]; simp [c1]) hE.out)
        clear hst hcr
        go_wp2_with fail
        go_roundw
        case rel => exact ⟨k + 1, by omega, by simp, HN, trivial⟩
        case measure => simp [intOf]; omega
    · have d0 : ¬ (k : Int) + 1 < (s.size : Int) := by omega
      have HN : Hid (lineN (bl s) = -1) := Lib.hid (line_end (by rw [List.length_drop, bl_len]; omega) hE.out)
      go_wp2_with fail
      go_ret
      rw [HN.out]
      exact ⟨rfl, rfl⟩
end Go.Proofs.YtegbkfloiiilfaaGreatDoor.Head

/-
  The document's Same, All, Get, Without, Put.
-/
namespace Go.Proofs.YtegbkfloiiilfaaGreatDoor.Head
open Go Go.RowKit
open Go.Proofs.YtegbkfloiiilfaaGreatDoor.Glyph (foldL refFold_any)
open Go.Proofs.YtegbkfloiiilfaaGreatDoor.Sha (Kept wp_region_kept wp_region_kept_tail quiet_load_row)

def sameN (a b : ByteArray) : Bool := decide (foldL (bl a) = foldL (bl b))
set_option maxRecDepth 100000 in
set_option maxHeartbeats 1000000 in
theorem rsame_any (a b : ByteArray) (w : World) (ha : a.size ≤ 1000000) (hb : b.size ≤ 1000000) :
    Calls Tryz.prog 52 #[.string a, .string b] w fun e w' => e = .returned (.bool (sameN a b)) ∧ Below w.heap.size w w' := by
  have HA := Lib.hid (fun W => refFold_any a W ha)
  have HB := Lib.hid (fun W => refFold_any b W hb)
  have HQ : Hid (((ba (foldL (bl a))).toList == (ba (foldL (bl b))).toList) = sameN a b) := Lib.hid (by
    rw [str_eq]
    unfold sameN
    rw [decide_eq_decide]
    exact ⟨ba_inj, fun h => by rw [h]⟩)
  have HA2 : Hid (∀ W, Calls Tryz.prog 51 #[.string a] W fun e w' => e = .returned (.string (ba (foldL (bl a)))) ∧ Below W.heap.size W w') := HA
  have HB2 : Hid (∀ W, Calls Tryz.prog 51 #[.string b] W fun e w' => e = .returned (.string (ba (foldL (bl b)))) ∧ Below W.heap.size W w') := HB
  clear HA HB
  generalize ba (foldL (bl a)) = x at *
  generalize ba (foldL (bl b)) = y at *
  go_enter Tryz.func52, Tryz.ntmps52
  go_wp2_with fail
  refine (HA2.out _).mono ?_
  rintro e w1 ⟨rfl, hb1⟩
  have H1 := Lib.hid hb1
  clear hb1
  go_wp2_with fail
  refine (HB2.out _).mono ?_
  rintro e w2 ⟨rfl, hb2⟩
  have H2 := Lib.hid (H1.out.trans (hb2.mono H1.out.size))
  clear hb2
  go_wp2_with fail
  go_ret
  exact ⟨ret_bool (by rw [← HQ.out]), H2.out⟩
def FdsR (w wr : World) (v : Value) (q : List Fd) : Prop := wr.ownsRow w.heap.size rfT 2 v q.length (q.flatMap fdC) ∧ Below w.heap.size w wr
theorem FdsR.start (w : World) : FdsR w w (.slice none 0 0) [] := ⟨World.ownsRow_nil _ _ _ _, Below.refl _ _⟩
theorem FdsR.on {w wr w' : World} {v : Value} {q : List Fd} (h : FdsR w wr v q) (hb : Below wr.heap.size wr w') : FdsR w w' v q := ⟨owns_below h.1 hb, h.2.trans (hb.mono h.2.size)⟩
theorem FdsR.add {w W : World} {n c : Nat} {a : Option Addr} {q : List Fd} (h : FdsR w W (.slice a n c) q) (hn : q.length = n) (y : Fd) (hl : n ≤ 100000000) :
    ∃ a' c' w', (Builtin.append_ #[rfsT, rfsT] rfsT #[.slice a n c, .slice (some ⟨W.heap.size, 0, none⟩) 1 1]).run Tryz.prog (W.alloc (boxF rfT y)) = .ok (.slice a' (n + 1) c') w' ∧ Hid (FdsR w w' (.slice a' (n + 1) c') (q ++ [y]) ∧ Below W.heap.size W W) := by
  have ho := h.1
  rw [hn] at ho
  obtain ⟨a', c', w', hr, hh⟩ := append_oneR n (us := q) hn W w.heap.size _ y ho hl h.2.size
  refine ⟨a', c', w', hr, Lib.hid ⟨⟨?_, h.2.trans hh.out.2⟩, Below.refl _ _⟩⟩
  rw [List.length_append, hn]
  exact hh.out.1
/-- One field appended; what else lies there stays. -/
theorem FdsR.add2 {w W : World} {n c : Nat} {a : Option Addr} {q : List Fd} (h : FdsR w W (.slice a n c) q) (hn : q.length = n) (y : Fd) (hl : n ≤ 100000000) :
    ∃ a' c' w', (Builtin.append_ #[rfsT, rfsT] rfsT #[.slice a n c, .slice (some ⟨W.heap.size, 0, none⟩) 1 1]).run Tryz.prog (W.alloc (boxF rfT y)) = .ok (.slice a' (n + 1) c') w' ∧ Hid (FdsR w w' (.slice a' (n + 1) c') (q ++ [y]) ∧ W.heap.size ≤ w'.heap.size ∧
      ∀ (g : Nat), (∀ k, (Value.slice a n c).ownBlock = some k → k ≠ g) → g < W.heap.size → (∀ cs, W.rangeAt g 0 cs → w'.rangeAt g 0 cs) ∧ ∀ k, (Value.slice a' (n + 1) c').ownBlock = some k → k ≠ g) := by
  subst hn
  have ho := h.1
  have hal : Below W.heap.size W (W.alloc (boxF rfT y)) := (Below.refl _ _).alloc (Nat.le_refl _) _
  obtain ⟨i0, hi, hz0, hz1, hz2⟩ := info_parts infoR
  obtain ⟨v', w', hr, h2, h3, _, h5⟩ := run_append_own_at (P := Tryz.prog) (W.alloc (boxF rfT y)) w.heap.size rfsT rfsT rfT i0 _ 2 32 Tryz.underlying29 hi hz0 hz1 hz2 rfl (by decide) (.slice a q.length c) q.length _ (ho.alloc _) ⟨W.heap.size, 0, none⟩ 1 1 (fdC y) rfl (fun j u hu => by rw [addr_add]; exact new_boxF W rfT y j u hu) (one_cell2 y) (by unfold maxLen; omega) (by omega) (by have := h.2.size; simp; omega)
  obtain ⟨a', c', rfl⟩ := owns_slice h2
  refine ⟨a', c', w', hr, Lib.hid ⟨⟨?_, (h.2.trans (hal.mono h.2.size)).grown h3 (by have := h.2.size; simp; omega) fun k hk => ((ho.alloc (boxF rfT y)).lt k hk).1⟩, by have := h3.size; simp at this; omega, fun g hg hgl => ⟨fun cs hc j v hv => ?_, fun k hk e => ?_⟩⟩⟩
  · rw [List.length_append, List.flatMap_append]
    simpa using h2
  · have h6 := hc j v hv
    rw [h3.cell (a := ⟨g, 0 + j, none⟩) (v := v) (by rw [hal.cell (p := ⟨g, 0 + j, none⟩) hgl]; exact h6) (fun e => hg g e.symm rfl)]
  · subst e
    rcases h5 with e | e
    · rw [e] at hk; exact hg k hk rfl
    · rw [e] at hk
      have := Option.some.inj hk
      simp at this
      omega
theorem sameN_nm (s : ByteArray) (f : Fd) : sameN f.n s = nmB (foldL (bl s)) f := rfl
theorem all_le (p : List UInt8) (q : List Fd) : (allL p q).length ≤ q.length := by
  unfold allL
  rw [List.length_map]
  exact (List.filter_sublist).length_le
theorem less_le (p : List UInt8) (q : List Fd) : (lessL p q).length ≤ q.length := by
  unfold lessL
  exact (List.filter_sublist).length_le
theorem take_len_le {α : Type} (l : List α) (k : Nat) : (l.take k).length ≤ k := by rw [List.length_take]; omega
set_option maxRecDepth 100000 in
set_option maxHeartbeats 2000000 in
theorem rall_any (v : Value) (q : List Fd) (s : ByteArray) (w : World) (hv : ReadsF w v q) (hl : q.length ≤ 1000000) (hs : ∀ f ∈ q, f.n.size ≤ 1000000) (hz : s.size ≤ 1000000) :
    Calls Tryz.prog 26 #[v, .string s] w fun e w' => ∃ u, e = .returned u ∧ TxAt w w' u (allL (foldL (bl s)) q) := by
  obtain ⟨va, vc, rfl⟩ := hv.shape
  obtain ⟨n, hn⟩ : ∃ n, n = q.length := ⟨_, rfl⟩
  rw [← hn] at hv hl ⊢
  have HV := Lib.hid (fun k a ha => hv.at_ k a ha)
  have HNN := Lib.hid hn
  have HSM := Lib.hid (fun (f : Fd) (hf : f ∈ q) W => rsame_any f.n s W (hs f hf) hz)
  simp only [sameN_nm] at HSM
  have HS := Lib.hid (TxAt.start w)
  clear hv hn hs
  generalize foldL (bl s) = p at *
  go_enter Tryz.func26, Tryz.ntmps26
  go_wp2_with fail
  go_loopw [5, 6] (fun u i wr => ∃ k : Nat, k ≤ n ∧ i = .int .i64 k ∧ Hid (TxAt w wr u (allL p (q.take k)))) (fun _ i _ => n - (intOf i).toNat)
  case atStart => exact ⟨0, Nat.zero_le _, rfl, HS⟩
  case round =>
    clear HS
    obtain ⟨k, hk, rfl, hB⟩ := hrel
    obtain ⟨ua, uc, rfl⟩ := owns_slice hB.out.1
    obtain ⟨m, hm⟩ : ∃ m, m = (allL p (q.take k)).length := ⟨_, rfl⟩
    have hmk : m ≤ k := by
      rw [hm]
      exact Nat.le_trans (all_le _ _) (take_len_le _ _)
    rw [← hm] at hB ⊢
    have HMM := Lib.hid hm
    clear hm
    by_cases hlt : k < n
    · obtain ⟨f, hf⟩ : ∃ a, q[k]? = some a := ⟨q[k]'(by have := HNN.out; omega), List.getElem?_eq_getElem _⟩
      obtain ⟨b1, o1, rfl, hb1, r1⟩ := HV.out k f hf
      obtain ⟨c0, c1⟩ := two (range_below r1 hb1 hB.out.2)
      have HT := Lib.hid (HSM.out f (List.mem_of_getElem? hf) wr)
      have HR1 := Lib.hid (And.intro r1 hb1)
      have HNX : Hid (allL p (q.take (k + 1)) = if nmB p f = true then allL p (q.take k) ++ [f.v] else allL p (q.take k)) := Lib.hid (by
        rw [List.take_add_one, hf]
        exact allL_snoc _ _ _)
      clear hf r1
      cases hb : nmB p f
      · rw [hb] at HT HNX
        clear hb
        go_wp2_with fail
        refine HT.out.mono ?_
        rintro e w2 ⟨rfl, hb⟩
        have HB3 : Hid (TxAt w w2 (.slice ua m uc) (allL p (q.take (k + 1)))) := Lib.hid (by
          rw [HNX.out, if_neg (by decide)]
          exact hB.out.on hb)
        clear hb
        go_wp2_with fail
        go_roundw
        case rel => exact ⟨k + 1, by omega, by simp, HB3⟩
        case measure => simp [intOf]; omega
      · rw [hb] at HT HNX
        clear hb c0 c1
        have hc1 := HR1.out.1
        obtain ⟨c0, c1⟩ := two (range_below HR1.out.1 hb1 hB.out.2)
        go_wp2_with fail
        refine HT.out.mono ?_
        rintro e w2 ⟨rfl, hb⟩
        clear c0 c1 hc1
        obtain ⟨d0, d1⟩ := two (range_below HR1.out.1 hb1 (hB.out.2.trans (hb.mono hB.out.2.size)))
        obtain ⟨a', c', w4, hr, hh⟩ := (hB.out.on hb).add HMM.out.symm f.v (by omega)
        have HR := Lib.hid hr
        have HB4 : Hid (TxAt w w4 (.slice a' (m + 1) c') (allL p (q.take (k + 1)))) := Lib.hid (by
          rw [HNX.out, if_pos trivial]
          exact hh.out)
        clear hb hr hh
        go_wp2_with (at_builtin; refine Lib.wpList_append_run _ rfl _ _ _ _ rfl _ _ rfl rfl _ _ HR.out ?_)
        go_roundw
        case rel => exact ⟨k + 1, by omega, by simp, HB4⟩
        case measure => simp [intOf]; omega
    · have HE : Hid (TxAt w wr (.slice ua m uc) (allL p q)) := Lib.hid (by
        have h := hB.out
        rw [List.take_of_length_le (by have := HNN.out; omega)] at h
        exact h)
      go_wp2_with fail
      go_ret
      exact ⟨_, rfl, HE.out⟩
theorem all_get (p : List UInt8) : ∀ q : List Fd, (allL p q)[0]? = if q.any (nmB p) = true then some (getL p q) else none
  | [] => rfl
  | f :: q => by
    have ih := all_get p q
    unfold allL getL at *
    rw [List.filter_cons, List.any_cons, List.find?_cons]
    cases h : nmB p f
    · simpa using ih
    · simp
theorem all_none {p : List UInt8} {q : List Fd} : (allL p q).length = 0 ↔ q.any (nmB p) = false := by
  have h := all_get p q
  constructor
  · intro h0
    rw [List.getElem?_eq_none (by omega)] at h
    cases ha : q.any (nmB p)
    · rfl
    · rw [ha] at h; cases h
  · intro h0
    rw [h0, if_neg (by decide)] at h
    have := List.getElem?_eq_none_iff.1 h
    omega
set_option maxRecDepth 100000 in
set_option maxHeartbeats 1000000 in
theorem rget_any (v : Value) (q : List Fd) (s : ByteArray) (w : World) (hv : ReadsF w v q) (hl : q.length ≤ 1000000) (hs : ∀ f ∈ q, f.n.size ≤ 1000000) (hz : s.size ≤ 1000000) :
    Calls Tryz.prog 48 #[v, .string s] w fun e w' => e = .returned (.tuple #[.string (getL (foldL (bl s)) q), .bool (q.any (nmB (foldL (bl s))))]) ∧ Below w.heap.size w w' := by
  have HA := Lib.hid (rall_any v q s w hv hl hs hz)
  have hle := all_le (foldL (bl s)) q
  have HG := Lib.hid (all_get (foldL (bl s)) q)
  have HN := Lib.hid (all_none (p := foldL (bl s)) (q := q))
  have HGN := Lib.hid (fun h => idx_none (p := foldL (bl s)) (q := q) h)
  clear hv hs
  generalize foldL (bl s) = p at *
  go_enter Tryz.func48, Tryz.ntmps48
  go_wp2_with fail
  refine HA.out.mono ?_
  rintro e w1 ⟨u, rfl, ht⟩
  obtain ⟨ua, uc, rfl⟩ := owns_slice ht.1
  have HT := Lib.hid ht
  cases ha : q.any (nmB p)
  · have hz0 := HN.out.2 ha
    have HE := Lib.hid (And.intro (HGN.out ha) ha)
    rw [hz0]
    clear ht ha
    go_wp2_with fail
    go_ret2
    exact ⟨by rw [HE.out.1, HE.out.2]; rfl, HT.out.2⟩
  · have hz0 : (((allL p q).length : Int) == 0) = false := by
      rw [beq_eq_false_iff_ne]
      intro e
      have := HN.out.1 (by omega)
      rw [ha] at this
      cases this
    have h0 := HG.out
    rw [ha, if_pos rfl] at h0
    have hlen : 0 < (allL p q).length := (List.getElem?_eq_some_iff.1 h0).1
    obtain ⟨b, c0⟩ : ∃ b, ua = some ⟨b, 0, none⟩ ∧ w1.cell? ⟨b, 0, none⟩ = some (.string (getL p q)) := by
      rcases owns_readsS ht.1 with ⟨a, c, h1, h2⟩ | ⟨b, c, h1, _, _, _, h3⟩
      · rw [h2] at hlen; simp at hlen
      · obtain ⟨rfl, _, _⟩ := Value.slice.inj h1
        exact ⟨b, rfl, h3 0 _ h0⟩
    obtain ⟨rfl, c0⟩ := c0
    obtain ⟨g, hg⟩ : ∃ g, getL p q = g := ⟨_, rfl⟩
    rw [hg] at c0
    have HE := Lib.hid (And.intro hg ha)
    clear ht ha h0 hg
    generalize (allL p q).length = m at *
    go_wp2_with fail
    go_ret2
    exact ⟨by rw [HE.out.1, HE.out.2]; rfl, HT.out.2⟩
/-- The fields so far, with one put. -/
def putK (p : List UInt8) (f : Fd) (l : List Fd) : List Fd := if l.any (nmB p) = true then putL p f l else l
theorem putK_end (p : List UInt8) (f : Fd) (l : List Fd) : putL p f l = if l.any (nmB p) = true then putK p f l else putK p f l ++ [f] := by
  unfold putK
  cases h : l.any (nmB p)
  · simp [putL, h]
  · simp
theorem putK_snoc (p : List UInt8) (f : Fd) (l : List Fd) (x : Fd) : putK p f (l ++ [x]) = if nmB p x = true then (if l.any (nmB p) = true then putK p f l else putK p f l ++ [f]) else putK p f l ++ [x] := by
  unfold putK
  rw [List.any_append]
  cases h : l.any (nmB p)
  · cases hx : nmB p x
    · simp [hx]
    · rw [show ([x].any (nmB p)) = true by simp [hx]]
      simp only [Bool.or_true, if_true, Bool.false_eq_true, if_false]
      unfold putL
      rw [List.any_append, show ([x].any (nmB p)) = true by simp [hx], Bool.or_true, if_pos rfl]
      have hf : (l ++ [x]).findIdx (nmB p) = l.length := by
        refine first_here (k := l.length) (t := x) (by simp) ?_ hx
        rw [List.take_left']
        · exact h
        · rfl
      rw [hf, List.take_left', List.drop_eq_nil_of_le (by simp)]
      · rfl
      · rfl
  · have hlt : l.findIdx (nmB p) < l.length := List.findIdx_lt_length.2 (List.any_eq_true.1 h)
    have hf : (l ++ [x]).findIdx (nmB p) = l.findIdx (nmB p) := by
      rw [List.findIdx_append, if_pos hlt]
    simp only [Bool.true_or, if_true]
    unfold putL
    rw [List.any_append, h, Bool.true_or, if_pos rfl, if_pos rfl, hf, List.take_append_of_le_length (by omega), List.drop_append_of_le_length (by omega), less_snoc]
    cases hx : nmB p x <;> simp
theorem putK_len (p : List UInt8) (f : Fd) (l : List Fd) : (putK p f l).length ≤ l.length + 1 := by
  unfold putK putL
  split
  · have := less_le p (l.drop (l.findIdx (nmB p) + 1))
    have h2 : l.any (nmB p) = true := by assumption
    have hlt : l.findIdx (nmB p) < l.length := List.findIdx_lt_length.2 (List.any_eq_true.1 h2)
    rw [List.length_append, List.length_cons, List.length_take]
    rw [List.length_drop] at this
    omega
  · omega
set_option maxRecDepth 100000 in
set_option maxHeartbeats 4000000 in
theorem rput_any (v : Value) (q : List Fd) (f : Fd) (w : World) (hv : ReadsF w v q) (hl : q.length ≤ 1000000) (hs : ∀ f ∈ q, f.n.size ≤ 1000000) (hz : f.n.size ≤ 1000000) :
    Calls Tryz.prog 35 #[v, fdV f] w fun e w' => ∃ u, e = .returned u ∧ FdsR w w' u (putL (foldL (bl f.n)) f q) := by
  obtain ⟨va, vc, rfl⟩ := hv.shape
  obtain ⟨n, hn⟩ : ∃ n, n = q.length := ⟨_, rfl⟩
  rw [← hn] at hv hl ⊢
  have HV := Lib.hid (fun k a ha => hv.at_ k a ha)
  have HNN := Lib.hid hn
  have HSM := Lib.hid (fun (x : Fd) (hx : x ∈ q) W => rsame_any x.n f.n W (hs x hx) hz)
  simp only [sameN_nm] at HSM
  have HA : Hid (Below w.heap.size w (w.alloc (boxF rfT f))) := Lib.hid ((Below.refl _ _).alloc (Nat.le_refl _) _)
  have HNB := Lib.hid (new_boxF w rfT f)
  have HS : Hid (FdsR w (w.alloc (boxF rfT f)) (.slice none 0 0) [] ∧ (w.alloc (boxF rfT f)).rangeAt w.heap.size 0 (fdC f) ∧ w.heap.size < (w.alloc (boxF rfT f)).heap.size) := Lib.hid ⟨(FdsR.start w).on HA.out, HNB.out, by simp⟩
  clear hv hn hs
  generalize foldL (bl f.n) = p at *
  go_enter Tryz.func35, Tryz.ntmps35
  go_wp2_with fail
  go_loopw [5, 6, 7] (fun u d i wr => ∃ k : Nat, k ≤ n ∧ i = .int .i64 k ∧ d = .bool ((q.take k).any (nmB p)) ∧ Hid (FdsR w wr u (putK p f (q.take k)) ∧ wr.rangeAt w.heap.size 0 (fdC f) ∧ w.heap.size < wr.heap.size ∧ (∀ g, u.ownBlock = some g → g ≠ w.heap.size))) (fun _ _ i _ => n - (intOf i).toNat)
  case atStart => exact ⟨0, Nat.zero_le _, rfl, rfl, Lib.hid ⟨HS.out.1, HS.out.2.1, HS.out.2.2, by simp [Value.ownBlock]⟩⟩
  case round =>
    clear HS
    obtain ⟨k, hk, rfl, rfl, hB⟩ := hrel
    obtain ⟨ua, uc, rfl⟩ := owns_slice hB.out.1.1
    obtain ⟨m, hm⟩ : ∃ m, m = (putK p f (q.take k)).length := ⟨_, rfl⟩
    have hmk : m ≤ k + 1 := by
      rw [hm]
      have := putK_len p f (q.take k)
      have := take_len_le q k
      omega
    rw [← hm] at hB ⊢
    have HMM := Lib.hid hm
    clear hm
    by_cases hlt : k < n
    · obtain ⟨x, hx⟩ : ∃ a, q[k]? = some a := ⟨q[k]'(by have := HNN.out; omega), List.getElem?_eq_getElem _⟩
      obtain ⟨b1, o1, rfl, hb1, r1⟩ := HV.out k x hx
      have HR1 := Lib.hid (And.intro (range_below r1 hb1 hB.out.1.2) (show b1 < wr.heap.size by have := hB.out.1.2.size; omega))
      have HRF := Lib.hid (And.intro hB.out.2.1 hB.out.2.2.1)
      have HT := Lib.hid (HSM.out x (List.mem_of_getElem? hx))
      have HNX : Hid (putK p f (q.take (k + 1)) = (if nmB p x = true then (if (q.take k).any (nmB p) = true then putK p f (q.take k) else putK p f (q.take k) ++ [f]) else putK p f (q.take k) ++ [x]) ∧ (q.take (k + 1)).any (nmB p) = ((q.take k).any (nmB p) || nmB p x)) := Lib.hid (by
        rw [List.take_add_one, hx]
        exact ⟨putK_snoc _ _ _ _, by simp⟩)
      clear hx r1
      generalize hdn : (q.take k).any (nmB p) = dn at *
      generalize hnb : nmB p x = nb at *
      clear hdn hnb
      go_wp2_with fail
      refine wp_region_kept (by kernel_rfl) (by kernel_rfl) ?_
      repeat (first
        | (go_big_quiet_want
           first
             | refine quiet_load_str 9 (.tmp 18) rfl ⟨b1, o1 + k * 2, none⟩ rfl (.string x.n) (fun w' hk => (two (range_below HR1.out.1 HR1.out.2 hk)).1) Tryz.underlying9 ?_
             | refine quiet_load_str 9 (.tmp 20) rfl ⟨w.heap.size, 0, none⟩ rfl (.string f.n) (fun w' hk => (two (range_below HRF.out.1 HRF.out.2 hk)).1) Tryz.underlying9 ?_
           go_simp
           go_big_quiet_on)
        | (go_big_quiet_step ((first | (exact fun _ => rfl) | (intro hk; go_at_call 52; exact hk.call (HT.out _))))))
      refine wpQuiet_nil ?_
      intro W2 hk2
      have HK := Lib.hid hk2.below
      have HB2 : Hid (FdsR w W2 (.slice ua m uc) (putK p f (q.take k)) ∧ W2.rangeAt w.heap.size 0 (fdC f) ∧ w.heap.size < W2.heap.size ∧ (∀ g, (Value.slice ua m uc).ownBlock = some g → g ≠ w.heap.size)) := Lib.hid ⟨hB.out.1.on HK.out, range_below HRF.out.1 HRF.out.2 HK.out, by have := HK.out.size; have := HRF.out.2; omega, hB.out.2.2.2⟩
      clear hk2
      cases nb
      · obtain ⟨c0, c1⟩ := two (range_below HR1.out.1 HR1.out.2 HK.out)
        obtain ⟨a', c', w4, hr, hh⟩ := HB2.out.1.add2 HMM.out.symm x (by omega)
        have HR := Lib.hid hr
        have HN : Hid (FdsR w w4 (.slice a' (m + 1) c') (putK p f (q.take (k + 1))) ∧ w4.rangeAt w.heap.size 0 (fdC f) ∧ w.heap.size < w4.heap.size ∧ (∀ g, (Value.slice a' (m + 1) c').ownBlock = some g → g ≠ w.heap.size)) := Lib.hid (by
          obtain ⟨h1, h2, h3⟩ := hh.out
          obtain ⟨h4, h5⟩ := h3 w.heap.size HB2.out.2.2.2 HB2.out.2.2.1
          exact ⟨by rw [HNX.out.1, if_neg (by decide)]; exact h1, h4 _ HB2.out.2.1, by have := HB2.out.2.2.1; omega, h5⟩)
        have hq : (q.take (k + 1)).any (nmB p) = dn := by rw [HNX.out.2, Bool.or_false]
        clear hr hh
        go_wp2_with (at_builtin; refine Lib.wpList_append_run _ rfl _ _ _ _ rfl _ _ rfl rfl _ _ HR.out ?_)
        go_roundw
        case rel => exact ⟨k + 1, by omega, by simp, by rw [hq], HN⟩
        case measure => simp [intOf]; omega
      · cases dn
        · obtain ⟨c0, c1⟩ := two HB2.out.2.1
          obtain ⟨a', c', w4, hr, hh⟩ := HB2.out.1.add2 HMM.out.symm f (by omega)
          have HR := Lib.hid hr
          have HN : Hid (FdsR w w4 (.slice a' (m + 1) c') (putK p f (q.take (k + 1))) ∧ w4.rangeAt w.heap.size 0 (fdC f) ∧ w.heap.size < w4.heap.size ∧ (∀ g, (Value.slice a' (m + 1) c').ownBlock = some g → g ≠ w.heap.size)) := Lib.hid (by
            obtain ⟨h1, h2, h3⟩ := hh.out
            obtain ⟨h4, h5⟩ := h3 w.heap.size HB2.out.2.2.2 HB2.out.2.2.1
            exact ⟨by rw [HNX.out.1, if_pos rfl, if_neg (by decide)]; exact h1, h4 _ HB2.out.2.1, by have := HB2.out.2.2.1; omega, h5⟩)
          have hq : (q.take (k + 1)).any (nmB p) = true := by rw [HNX.out.2]; rfl
          clear hr hh
          go_wp2_with (at_builtin; refine Lib.wpList_append_run _ rfl _ _ _ _ rfl _ _ rfl rfl _ _ HR.out ?_)
          go_roundw
          case rel => exact ⟨k + 1, by omega, by simp, by rw [hq], HN⟩
          case measure => simp [intOf]; omega
        · have HN : Hid (FdsR w W2 (.slice ua m uc) (putK p f (q.take (k + 1))) ∧ W2.rangeAt w.heap.size 0 (fdC f) ∧ w.heap.size < W2.heap.size ∧ (∀ g, (Value.slice ua m uc).ownBlock = some g → g ≠ w.heap.size)) := Lib.hid ⟨by rw [HNX.out.1, if_pos rfl, if_pos rfl]; exact HB2.out.1, HB2.out.2⟩
          have hq : (q.take (k + 1)).any (nmB p) = true := by rw [HNX.out.2]; rfl
          go_wp2_with fail
          go_roundw
          case rel => exact ⟨k + 1, by omega, by simp, by rw [hq], HN⟩
          case measure => simp [intOf]; omega
    · have HE : Hid (q.take k = q) := Lib.hid (List.take_of_length_le (by have := HNN.out; omega))
      have HPE := Lib.hid (putK_end p f q)
      rw [HE.out] at hB HMM ⊢
      cases hdn : q.any (nmB p)
      · obtain ⟨c0, c1⟩ := two hB.out.2.1
        obtain ⟨a', c', w4, hr, hh⟩ := hB.out.1.add2 HMM.out.symm f (by omega)
        have HR := Lib.hid hr
        have HN : Hid (FdsR w w4 (.slice a' (m + 1) c') (putL p f q)) := Lib.hid (by
          rw [HPE.out, hdn, if_neg (by decide)]
          exact hh.out.1)
        clear hr hh hdn
        go_wp2_with (at_builtin; refine Lib.wpList_append_run _ rfl _ _ _ _ rfl _ _ rfl rfl _ _ HR.out ?_)
        go_ret
        exact ⟨_, rfl, HN.out⟩
      · have HN : Hid (FdsR w wr (.slice ua m uc) (putL p f q)) := Lib.hid (by
          rw [HPE.out, hdn, if_pos rfl]
          exact hB.out.1)
        clear hdn
        go_wp2_with fail
        go_ret
        exact ⟨_, rfl, HN.out⟩
end Go.Proofs.YtegbkfloiiilfaaGreatDoor.Head

/-
  The document's own print of fields: Lines, Show, Print.
-/
namespace Go.Proofs.YtegbkfloiiilfaaGreatDoor.Head
open Go Go.RowKit

/-! The lines, in plain words. -/
/-- What pieces are left of a text whose next byte begins one. -/
def restP : List UInt8 → List (List UInt8)
  | [] => []
  | c :: t => pcs [c] true t
/-- The line at hand, whether nothing stands in it yet but the name, the pieces to come. -/
def linsP : List UInt8 → Bool → List (List UInt8) → List (List UInt8)
  | w, _, [] => [w]
  | w, b, p :: ps => if b = false ∧ 78 < w.length + p.length then w :: linsP p false ps else linsP (w ++ p) false ps
def linsL (n v : List UInt8) : List (List UInt8) := linsP (n ++ [58]) true (piecesL v)
def joinE (q : List (List UInt8)) : List UInt8 := (q.map fun l => l ++ [13, 10]).flatten
theorem joinE_cons (l : List UInt8) (q : List (List UInt8)) : joinE (l :: q) = l ++ [13, 10] ++ joinE q := by unfold joinE; simp
theorem joinE_snoc (q : List (List UInt8)) (l : List UInt8) : joinE (q ++ [l]) = joinE q ++ (l ++ [13, 10]) := by unfold joinE; simp
theorem join_lins : ∀ (ps : List (List UInt8)) (w : List UInt8) (b : Bool), joinE (linsP w b ps) = w ++ shw b w.length ps
  | [], w, b => by simp [linsP, joinE, shw]
  | p :: ps, w, b => by
    rw [linsP, shw]
    by_cases h : b = false ∧ 78 < w.length + p.length
    · rw [if_pos h, if_pos h, joinE_cons, join_lins ps p false]
      simp
    · rw [if_neg h, if_neg h, join_lins ps (w ++ p) false, List.length_append]
      simp
theorem show_lins (n v : List UInt8) : joinE (linsL n v) = showL n v := by
  unfold linsL showL
  rw [join_lins, List.length_append]
  simp
theorem pcs_blank {w t : List UInt8} {c : UInt8} (h : bk c = true) : pcs w true (c :: t) = pcs (w ++ [c]) true t := by
  rw [pcs, if_neg (by simp), h]
theorem pcs_word {w t : List UInt8} {c : UInt8} {b : Bool} (h : bk c = false) : pcs w b (c :: t) = pcs (w ++ [c]) false t := by
  rw [pcs, if_neg (by simp [h]), h]
theorem pcs_cut {w t : List UInt8} {c : UInt8} (h : bk c = true) : pcs w false (c :: t) = w :: restP (c :: t) := by
  rw [pcs, if_pos ⟨h, rfl⟩]
  rfl
/-- What the pieces begin with: a blank, or nothing. -/
def BeginsB (l : List UInt8) : Prop := ∀ c t, l = c :: t → bk c = true
structure LnAt (x : ByteArray) (G : List (List UInt8)) (w wr : World) (u : Value) (O : List (List UInt8)) (L : List UInt8) (b : Bool) (i : Nat) : Prop where
  own : TxAt w wr u (O.map ba)
  eq : G = O ++ linsP L b (restP ((bl x).drop i))
  beg : BeginsB ((bl x).drop i)
  few : O.length ≤ i
  size : L.length ≤ 20000 + i
/-- The piece at hand, blanks first, then a word. -/
def PieceB (x : ByteArray) (i k : Nat) : Prop := restP ((bl x).drop i) = pcs (bl (x.extract i k)) true ((bl x).drop k)
def PieceW (x : ByteArray) (i k : Nat) : Prop := ∃ b, restP ((bl x).drop i) = pcs (bl (x.extract i k)) b ((bl x).drop k) ∧ (b = true → ∀ c t, (bl x).drop k = c :: t → bk c = false)
theorem ext_on (x : ByteArray) (i k : Nat) (hi : i ≤ k) (hk : k < x.size) : bl (x.extract i (k + 1)) = bl (x.extract i k) ++ [x[k]] := by
  rw [bl_extract, bl_extract, show k + 1 - i = k - i + 1 by omega, List.take_add_one, List.getElem?_drop, show i + (k - i) = k by omega]
  congr 1
  rw [List.getElem?_eq_getElem (by rw [bl_len]; exact hk)]
  rfl
theorem ext_nil (x : ByteArray) (i : Nat) : bl (x.extract i i) = [] := by rw [bl_extract, Nat.sub_self, List.take_zero]
theorem PieceB.first {x : ByteArray} {i : Nat} (h : i < x.size) : PieceB x i (i + 1) := by
  unfold PieceB
  rw [ext_on x i i (Nat.le_refl _) h, ext_nil, drop_cons x i h]
  rfl
theorem PieceB.on {x : ByteArray} {i k : Nat} (h : PieceB x i k) (hi : i ≤ k) (hk : k < x.size) (hb : bk x[k] = true) : PieceB x i (k + 1) := by
  unfold PieceB at *
  rw [h, drop_cons x k hk, pcs_blank hb, ext_on x i k hi hk]
theorem PieceB.word {x : ByteArray} {i k : Nat} (h : PieceB x i k) (hb : ∀ hk : k < x.size, bk x[k] = false) : PieceW x i k := by
  refine ⟨true, h, fun _ c t e => ?_⟩
  by_cases hk : k < x.size
  · rw [drop_cons x k hk] at e
    obtain ⟨rfl, _⟩ := List.cons.inj e
    exact hb hk
  · rw [drop_end x k hk] at e
    cases e
theorem PieceW.on {x : ByteArray} {i k : Nat} (h : PieceW x i k) (hi : i ≤ k) (hk : k < x.size) (hb : bk x[k] = false) : PieceW x i (k + 1) := by
  obtain ⟨b, h1, h2⟩ := h
  refine ⟨false, ?_, fun e => by cases e⟩
  rw [h1, drop_cons x k hk, pcs_word hb, ext_on x i k hi hk]
/-- A piece is whole: where the text ends, or where a blank comes behind a word. -/
theorem PieceW.whole {x : ByteArray} {i k : Nat} (h : PieceW x i k) (hb : ∀ hk : k < x.size, bk x[k] = true) : restP ((bl x).drop i) = bl (x.extract i k) :: restP ((bl x).drop k) ∧ BeginsB ((bl x).drop k) := by
  obtain ⟨b, h1, h2⟩ := h
  by_cases hk : k < x.size
  · have hd := drop_cons x k hk
    have hbb := hb hk
    cases b
    · refine ⟨?_, fun c t e => ?_⟩
      · rw [h1, hd, pcs_cut hbb]
      · rw [hd] at e
        obtain ⟨rfl, _⟩ := List.cons.inj e
        exact hbb
    · have := h2 rfl _ _ hd
      rw [hbb] at this
      cases this
  · refine ⟨?_, fun c t e => ?_⟩
    · rw [h1, drop_end x k hk]
      rfl
    · rw [drop_end x k hk] at e
      cases e
theorem LnAt.fold {x : ByteArray} {G : List (List UInt8)} {w wr wr' : World} {u u' : Value} {O : List (List UInt8)} {L : List UInt8} {i k : Nat} (h : LnAt x G w wr u O L false i) (hp : restP ((bl x).drop i) = bl (x.extract i k) :: restP ((bl x).drop k) ∧ BeginsB ((bl x).drop k)) (hi : i < k) (hk : k ≤ x.size)
    (hz : 78 < L.length + (k - i)) (ho : TxAt w wr' u' ((O ++ [L]).map ba)) : LnAt x G w wr' u' (O ++ [L]) (bl (x.extract i k)) false k := by
  have hl : (bl (x.extract i k)).length = k - i := by rw [bl_len, ByteArray.size_extract]; omega
  refine ⟨ho, ?_, hp.2, by rw [List.length_append]; have := h.few; simp only [List.length_cons, List.length_nil]; omega, by rw [hl]; omega⟩
  rw [h.eq, hp.1, linsP, if_pos ⟨rfl, by rw [hl]; exact hz⟩]
  simp
theorem LnAt.plain {x : ByteArray} {G : List (List UInt8)} {w wr : World} {u : Value} {O : List (List UInt8)} {L : List UInt8} {b : Bool} {i k : Nat} (h : LnAt x G w wr u O L b i) (hp : restP ((bl x).drop i) = bl (x.extract i k) :: restP ((bl x).drop k) ∧ BeginsB ((bl x).drop k)) (hi : i < k) (hk : k ≤ x.size)
    (hz : ¬ (b = false ∧ 78 < L.length + (k - i))) : LnAt x G w wr u O (L ++ bl (x.extract i k)) false k := by
  have hl : (bl (x.extract i k)).length = k - i := by rw [bl_len, ByteArray.size_extract]; omega
  refine ⟨h.own, ?_, hp.2, by have := h.few; omega, by rw [List.length_append, hl]; have := h.size; omega⟩
  rw [h.eq, hp.1, linsP, if_neg (by rw [hl]; exact hz)]
theorem LnAt.done {x : ByteArray} {G : List (List UInt8)} {w wr : World} {u : Value} {O : List (List UInt8)} {L : List UInt8} {b : Bool} {i : Nat} (h : LnAt x G w wr u O L b i) (hi : ¬ i < x.size) : G = O ++ [L] := by
  rw [h.eq, drop_end x i hi]
  rfl
theorem LnAt.blank {x : ByteArray} {G : List (List UInt8)} {w wr : World} {u : Value} {O : List (List UInt8)} {L : List UInt8} {b : Bool} {i : Nat} (h : LnAt x G w wr u O L b i) (hi : i < x.size) : bk x[i] = true := h.beg _ _ (drop_cons x i hi)
theorem bl_app (a b : ByteArray) : bl (a ++ b) = bl a ++ bl b := by
  show (a ++ b).data.toList = _
  rw [ByteArray.data_append]
  simp
theorem lines_start {f : Fd} {w wr : World} {u : Value} (hn : f.n.size ≤ 10000) (ho : TxAt w wr u []) : ∃ x : ByteArray, x.size ≤ f.v.size + 1 ∧ (f.v.toList.isEmpty = true → x = ⟨#[]⟩) ∧ (f.v.toList.isEmpty = false → x = ⟨#[32]⟩ ++ f.v) ∧ LnAt x (linsL (bl f.n) (bl f.v)) w wr u [] (bl (f.n ++ ⟨#[58]⟩)) true 0 := by
  have hL : bl (f.n ++ (⟨#[58]⟩ : ByteArray)) = bl f.n ++ [58] := bl_app _ _
  have hz : (bl (f.n ++ (⟨#[58]⟩ : ByteArray))).length ≤ 20000 := by rw [hL, List.length_append, bl_len]; simp; omega
  rw [empty_any]
  cases h : bl f.v with
  | nil => exact ⟨⟨#[]⟩, Nat.zero_le _, fun _ => rfl, fun e => (by cases e), ⟨ho, by rw [hL]; rfl, fun c t e => (by cases e), Nat.le_refl _, hz⟩⟩
  | cons c t =>
    have hx : bl ((⟨#[32]⟩ : ByteArray) ++ f.v) = 32 :: c :: t := by rw [bl_app, h]; rfl
    refine ⟨⟨#[32]⟩ ++ f.v, by rw [ByteArray.size_append]; show 1 + _ ≤ _; omega, fun e => (by cases e), fun _ => rfl, ⟨ho, ?_, fun c' t' e => ?_, Nat.le_refl _, hz⟩⟩
    · rw [hL, List.drop_zero, hx]
      rfl
    · rw [List.drop_zero, hx] at e
      obtain ⟨rfl, _⟩ := List.cons.inj e
      rfl
set_option maxRecDepth 100000 in
set_option maxHeartbeats 8000000 in
theorem rlines_any (f : Fd) (w : World) (hn : f.n.size ≤ 10000) (hv : f.v.size ≤ 10000) :
    Calls Tryz.prog 99 #[fdV f] w fun e w' => ∃ u, e = .returned u ∧ TxAt w w' u ((linsL (bl f.n) (bl f.v)).map ba) := by
  have hal : Below w.heap.size w (w.alloc (boxF rfT f)) := (Below.refl _ _).alloc (Nat.le_refl _) _
  obtain ⟨x, hxz, hx0, hx1, hI0⟩ := lines_start hn ((TxAt.start w).on hal)
  have HI := Lib.hid hI0
  have HX := Lib.hid (And.intro hx0 hx1)
  obtain ⟨c0, c1⟩ := two (new_boxF w rfT f)
  have HBL := Lib.hid (fun (c : UInt8) W => rblank_any c W)
  have hz0 : (f.n ++ (⟨#[58]⟩ : ByteArray)).size ≤ 40000 := by rw [ByteArray.size_append]; show _ + 1 ≤ _; omega
  have hx2 : x.size ≤ 10001 := by omega
  generalize linsL (bl f.n) (bl f.v) = G at *
  clear hal hx0 hx1 hI0 hxz
  cases hq : f.v.toList.isEmpty
  · have hxx := HX.out.2 hq
    go_enter Tryz.func99, Tryz.ntmps99
    go_wp2_with fail
    rw [← hxx]
    clear c0 c1 hxx
    go_loopw [3, 4, 6, 7] (fun u s4 b i wr => ∃ (O : List (List UInt8)) (L : ByteArray) (fb : Bool) (k : Nat), k ≤ x.size ∧ i = .int .i64 k ∧ s4 = .string L ∧ b = .bool fb ∧ L.size ≤ 40000 ∧ Hid (LnAt x G w wr u O (bl L) fb k)) (fun _ _ _ i _ => x.size - (intOf i).toNat)
    case atStart => exact ⟨[], _, true, 0, Nat.zero_le _, rfl, rfl, rfl, hz0, HI⟩
    case round =>
      clear HI hq
      obtain ⟨O, L, fb, i, hi, rfl, rfl, rfl, hLz, hI⟩ := hrel
      obtain ⟨ua, uc, rfl⟩ := owns_slice hI.out.own.1
      obtain ⟨m, hm⟩ : ∃ m, m = (O.map ba).length := ⟨_, rfl⟩
      have hmi : m ≤ i := by rw [hm, List.length_map]; exact hI.out.few
      rw [← hm] at hI ⊢
      have HMM := Lib.hid hm
      clear hm
      by_cases hlt : i < x.size
      · have HBI := Lib.hid (hI.out.blank hlt)
        go_wp2_with fail
        go_loopw [8] (fun kv wr2 => ∃ k : Nat, i ≤ k ∧ k ≤ x.size ∧ kv = .int .i64 k ∧ Hid (k = i ∨ (i < k ∧ PieceB x i k)) ∧ wr = wr2) (fun kv _ => x.size - (intOf kv).toNat)
        case atStart => exact ⟨i, Nat.le_refl _, hi, rfl, Lib.hid (.inl rfl), rfl⟩
        case round =>
          obtain ⟨k, hik, hk, rfl, hP, rfl⟩ := hrel
          rcases (show (∃ h : k < x.size, bk x[k] = true) ∨ ((∃ h : k < x.size, bk x[k] = false) ∨ ¬ k < x.size) from by
            by_cases h : k < x.size
            · cases hb : bk x[k]
              · exact .inr (.inl ⟨h, hb⟩)
              · exact .inl ⟨h, hb⟩
            · exact .inr (.inr h)) with ⟨hkl, hb⟩ | ⟨hkl, hb⟩ | hkl
          · have HB := Lib.hid (HBL.out x[k])
            rw [hb] at HB
            have HN : Hid (k + 1 = i ∨ (i < k + 1 ∧ PieceB x i (k + 1))) := Lib.hid (.inr ⟨by omega, by
              rcases hP.out with rfl | ⟨h1, h2⟩
              · exact PieceB.first hkl
              · exact h2.on hik hkl hb⟩)
            clear hb
            go_wp2_with fail
            refine (HB.out _).mono ?_
            rintro e w1 ⟨rfl, rfl⟩
            go_wp2_with fail
            go_roundw
            case rel => exact ⟨k + 1, by omega, by omega, by simp, HN, trivial⟩
            case measure => simp [intOf]; omega
          all_goals
            have HW : Hid (i < k ∧ PieceW x i k) := Lib.hid (by
              rcases hP.out with rfl | ⟨h1, h2⟩
              · first
                  | (have h3 := HBI.out; rw [hb] at h3; cases h3)
                  | exact absurd hlt hkl
              · exact ⟨h1, h2.word fun h => by first | exact hb | exact absurd h hkl⟩)
            have hik2 := HW.out.1
            try (have HB := Lib.hid (HBL.out (x[k]'hkl)); rw [hb] at HB)
            try clear hb
            go_wp2_with fail
            try (refine (HB.out _).mono ?_; rintro e w1 ⟨rfl, rfl⟩; go_wp2_with fail)
            go_loopw [8] (fun kv wr2 => ∃ k : Nat, i < k ∧ k ≤ x.size ∧ kv = .int .i64 k ∧ Hid (PieceW x i k) ∧ wr = wr2) (fun kv _ => x.size - (intOf kv).toNat)
            case atStart => exact ⟨k, hik2, hk, rfl, Lib.hid HW.out.2, rfl⟩
            case round =>
              clear HW hP
              try clear HB
              obtain ⟨k, hik, hk, rfl, hP, rfl⟩ := hrel
              rcases (show (∃ h : k < x.size, bk x[k] = false) ∨ ((∃ h : k < x.size, bk x[k] = true) ∨ ¬ k < x.size) from by
                by_cases h : k < x.size
                · cases hb : bk x[k]
                  · exact .inl ⟨h, hb⟩
                  · exact .inr (.inl ⟨h, hb⟩)
                · exact .inr (.inr h)) with ⟨hkl, hb⟩ | ⟨hkl, hb⟩ | hkl
              · have HB := Lib.hid (HBL.out x[k])
                rw [hb] at HB
                have HN := Lib.hid (hP.out.on (by omega) hkl hb)
                clear hb
                go_wp2_with fail
                refine (HB.out _).mono ?_
                rintro e w1 ⟨rfl, rfl⟩
                go_wp2_with fail
                go_roundw
                case rel => exact ⟨k + 1, by omega, by omega, by simp, HN, trivial⟩
                case measure => simp [intOf]; omega
              all_goals
                have HP := Lib.hid (hP.out.whole fun h => by first | exact hb | exact absurd h hkl)
                have he : (x.extract i k).size = k - i := by rw [ByteArray.size_extract]; omega
                have hLs := hI.out.size
                rw [bl_len] at hLs
                try (have HB := Lib.hid (HBL.out (x[k]'hkl)); rw [hb] at HB)
                try clear hb
                rcases (show (fb = false ∧ 78 < L.size + (k - i)) ∨ ((fb = false ∧ ¬ 78 < L.size + (k - i)) ∨ fb = true) from by
                  cases fb
                  · by_cases h : 78 < L.size + (k - i)
                    · exact .inl ⟨rfl, h⟩
                    · exact .inr (.inl ⟨rfl, h⟩)
                  · exact .inr (.inr rfl)) with ⟨rfl, hz⟩ | ⟨rfl, hz⟩ | rfl
                · have d : (78 : Int) < (L.size : Int) + (k : Int) - (i : Int) := by omega
                  obtain ⟨a', c', w4, hr, hh⟩ := hI.out.own.add HMM.out.symm L (by omega)
                  have HR := Lib.hid hr
                  have HN : Hid (LnAt x G w w4 (.slice a' (m + 1) c') (O ++ [bl L]) (bl ((⟨#[]⟩ : ByteArray) ++ x.extract i k)) false k) := Lib.hid (by
                    rw [bl_app]
                    exact hI.out.fold HP.out hik hk (by rw [bl_len]; exact hz) (by rw [List.map_append, List.map_cons, List.map_nil, ba_bl]; exact hh.out))
                  have hyz : ((⟨#[]⟩ : ByteArray) ++ x.extract i k).size ≤ 40000 := by rw [ByteArray.size_append, he]; show 0 + _ ≤ _; omega
                  clear hr hh hz
                  go_wp2_with (at_builtin; refine Lib.wpList_append_run _ rfl _ _ _ _ rfl _ _ rfl rfl _ _ HR.out ?_)
                  try (refine (HB.out _).mono ?_; rintro e w1 ⟨rfl, rfl⟩; go_wp2_with (at_builtin; refine Lib.wpList_append_run _ rfl _ _ _ _ rfl _ _ rfl rfl _ _ HR.out ?_))
                  go_roundw
                  case rel => exact ⟨_, _, false, k, hk, rfl, rfl, rfl, hyz, HN⟩
                  case measure => simp [intOf]; omega
                · have d : ¬ (78 : Int) < (L.size : Int) + (k : Int) - (i : Int) := by omega
                  have HN : Hid (LnAt x G w wr (.slice ua m uc) O (bl (L ++ x.extract i k)) false k) := Lib.hid (by
                    rw [bl_app]
                    exact hI.out.plain HP.out hik hk (by rw [bl_len]; exact fun h => hz h.2))
                  have hyz : (L ++ x.extract i k).size ≤ 40000 := by rw [ByteArray.size_append, he]; omega
                  clear hz
                  go_wp2_with fail
                  try (refine (HB.out _).mono ?_; rintro e w1 ⟨rfl, rfl⟩; go_wp2_with fail)
                  go_roundw
                  case rel => exact ⟨_, _, false, k, hk, rfl, rfl, rfl, hyz, HN⟩
                  case measure => simp [intOf]; omega
                · have HN : Hid (LnAt x G w wr (.slice ua m uc) O (bl (L ++ x.extract i k)) false k) := Lib.hid (by
                    rw [bl_app]
                    exact hI.out.plain HP.out hik hk (fun h => by cases h.1))
                  have hyz : (L ++ x.extract i k).size ≤ 40000 := by rw [ByteArray.size_append, he]; omega
                  go_wp2_with fail
                  try (refine (HB.out _).mono ?_; rintro e w1 ⟨rfl, rfl⟩; go_wp2_with fail)
                  go_roundw
                  case rel => exact ⟨_, _, false, k, hk, rfl, rfl, rfl, hyz, HN⟩
                  case measure => simp [intOf]; omega
      · obtain ⟨a', c', w4, hr, hh⟩ := hI.out.own.add HMM.out.symm L (by omega)
        have HR := Lib.hid hr
        have HE : Hid (TxAt w w4 (.slice a' (m + 1) c') (G.map ba)) := Lib.hid (by
          rw [hI.out.done hlt, List.map_append, List.map_cons, List.map_nil, ba_bl]
          exact hh.out)
        clear hr hh
        go_wp2_with (at_builtin; refine Lib.wpList_append_run _ rfl _ _ _ _ rfl _ _ rfl rfl _ _ HR.out ?_)
        go_ret
        exact ⟨_, rfl, HE.out⟩
  · have hx := HX.out.1 hq
    subst hx
    obtain ⟨W0, hW0⟩ : ∃ W0, W0 = w.alloc (boxF rfT f) := ⟨_, rfl⟩
    rw [← hW0] at HI
    obtain ⟨a', c', w4, hr, hh⟩ := HI.out.own.add rfl (f.n ++ (⟨#[58]⟩ : ByteArray)) (by omega)
    have HR := Lib.hid hr
    have HE : Hid (TxAt w w4 (.slice a' (0 + 1) c') (G.map ba)) := Lib.hid (by
      rw [HI.out.done (by decide), List.map_append, List.map_cons, List.map_nil, ba_bl]
      exact hh.out)
    clear hr hh HI
    go_enter Tryz.func99, Tryz.ntmps99
    go_wp2_with fail
    clear c0 c1
    go_loopw [3, 4, 6, 7] (fun u s4 _ i wr => u = .slice none 0 0 ∧ s4 = .string (f.n ++ (⟨#[58]⟩ : ByteArray)) ∧ i = .int .i64 0 ∧ W0 = wr) (fun _ _ _ _ _ => 0)
    case atStart => exact ⟨rfl, rfl, rfl, hW0⟩
    case round =>
      clear hW0
      obtain ⟨rfl, rfl, rfl, rfl⟩ := hrel
      go_wp2_with (at_builtin; refine Lib.wpList_append_run _ rfl _ _ _ _ rfl _ _ rfl rfl _ _ HR.out ?_)
      go_ret
      exact ⟨_, rfl, HE.out⟩
theorem lins_flat (n v : List UInt8) (k : Nat) : joinE ((linsL n v).take k) = (((linsL n v).take k).map fun l => l ++ [13, 10]).flatten := rfl
theorem joinE_take {q : List (List UInt8)} {k : Nat} {l : List UInt8} (h : q[k]? = some l) : joinE (q.take (k + 1)) = joinE (q.take k) ++ (l ++ [13, 10]) := by
  rw [List.take_add_one, h]
  exact joinE_snoc _ _
theorem joinE_count : ∀ G : List (List UInt8), G.length ≤ (joinE G).length
  | [] => Nat.zero_le _
  | a :: t => by
    have ih := joinE_count t
    rw [joinE_cons]
    simp only [List.length_append, List.length_cons, List.length_nil]
    omega
theorem joinE_le (q : List (List UInt8)) (k : Nat) : (joinE (q.take k)).length ≤ (joinE q).length := by
  conv => rhs; rw [← List.take_append_drop k q]
  unfold joinE
  rw [List.map_append, List.flatten_append, List.length_append]
  omega
set_option maxRecDepth 100000 in
set_option maxHeartbeats 2000000 in
theorem rshow_any (f : Fd) (w : World) (hn : f.n.size ≤ 10000) (hv : f.v.size ≤ 10000) :
    Calls Tryz.prog 75 #[fdV f] w fun e w' => e = .returned (.string (ba (showL (bl f.n) (bl f.v)))) ∧ Below w.heap.size w w' := by
  have HA : Hid (Below w.heap.size w (w.alloc (boxF rfT f))) := Lib.hid ((Below.refl _ _).alloc (Nat.le_refl _) _)
  have HL := Lib.hid (rlines_any f (w.alloc (boxF rfT f)) hn hv)
  have hsh := show_lins (bl f.n) (bl f.v)
  have hsl := showL_len (bl f.n) (bl f.v)
  rw [bl_len, bl_len] at hsl
  rw [← hsh] at hsl ⊢
  generalize linsL (bl f.n) (bl f.v) = G at *
  have hGz : (joinE G).length ≤ 40020 := by omega
  clear hsh hsl
  go_enter Tryz.func75, Tryz.ntmps75
  go_wp2_with fail
  refine HL.out.mono ?_
  rintro e w1 ⟨u, rfl, hf⟩
  obtain ⟨ua, uc, rfl⟩ := owns_slice hf.1
  obtain ⟨n, hn⟩ : ∃ n, n = (G.map ba).length := ⟨_, rfl⟩
  have HT := Lib.hid (owns_readsS hf.1)
  have HB := Lib.hid (HA.out.trans (hf.2.mono HA.out.size))
  rw [← hn] at HT ⊢
  have HNN := Lib.hid hn
  have hnl : n ≤ 100000 := by
    have := joinE_count G
    rw [hn, List.length_map]
    omega
  clear hf hn
  go_wp2_with fail
  go_loopw [4, 5] (fun o i wr => ∃ (k : Nat) (y : ByteArray), k ≤ n ∧ i = .int .i64 k ∧ o = .string y ∧ y.size ≤ 50000 ∧ Hid (bl y = joinE (G.take k)) ∧ w1 = wr) (fun _ i _ => n - (intOf i).toNat)
  case atStart => exact ⟨0, ⟨#[]⟩, Nat.zero_le _, rfl, rfl, Nat.zero_le _, Lib.hid rfl, rfl⟩
  case round =>
    obtain ⟨k, y, hk, rfl, rfl, hyz, hY, rfl⟩ := hrel
    by_cases hlt : k < n
    · obtain ⟨l, hl⟩ : ∃ l, G[k]? = some l := ⟨G[k]'(by have := HNN.out; rw [List.length_map] at this; omega), List.getElem?_eq_getElem _⟩
      have hlm : (G.map ba)[k]? = some (ba l) := by rw [List.getElem?_map, hl]; rfl
      obtain ⟨g, rfl, hcell⟩ : ∃ g, ua = some ⟨g, 0, none⟩ ∧ w1.cell? ⟨g, k, none⟩ = some (.string (ba l)) := by
        rcases HT.out with ⟨a, c, _, h⟩ | ⟨b, c, h, _, _, _, h2⟩
        · rw [h] at hlm; simp at hlm
        · obtain ⟨rfl, _, _⟩ := Value.slice.inj h
          exact ⟨b, rfl, h2 k _ hlm⟩
      have hN : bl ((y ++ ba l) ++ (⟨#[13, 10]⟩ : ByteArray)) = joinE (G.take (k + 1)) := by
        rw [joinE_take hl, bl_app, bl_app, hY.out, bl_ba, List.append_assoc]
      have hNz : ((y ++ ba l) ++ (⟨#[13, 10]⟩ : ByteArray)).size ≤ 50000 := by
        rw [← bl_len, hN]
        have := joinE_le G (k + 1)
        omega
      have hNz1 : (y ++ ba l).size ≤ 50000 := by
        have e : ((y ++ ba l) ++ (⟨#[13, 10]⟩ : ByteArray)).size = (y ++ ba l).size + 2 := by rw [ByteArray.size_append]; rfl
        omega
      have HN := Lib.hid hN
      clear hl hlm hN
      generalize ba l = z at *
      have hzz : z.size ≤ 50000 := by rw [ByteArray.size_append] at hNz1; omega
      go_wp2_with fail
      go_roundw
      case rel => exact ⟨k + 1, _, by omega, by simp, rfl, hNz, HN, trivial⟩
      case measure => simp [intOf]; omega
    · have HE : Hid (y = ba (joinE G)) := Lib.hid (by
        have h := hY.out
        rw [List.take_of_length_le (by have := HNN.out; rw [List.length_map] at this; omega)] at h
        rw [← h, ba_bl])
      go_wp2_with fail
      go_ret
      exact ⟨ret_str HE.out, HB.out⟩
set_option maxRecDepth 100000 in
set_option maxHeartbeats 2000000 in
theorem rprint_any (v : Value) (q : List Fd) (w : World) (hv : ReadsF w v q) (hq : q.length ≤ 1000) (hs : ∀ f ∈ q, f.n.size ≤ 10000 ∧ f.v.size ≤ 10000) :
    Calls Tryz.prog 41 #[v] w fun e w' => e = .returned (.string (ba (printL q))) ∧ Below w.heap.size w w' := by
  obtain ⟨va, vc, rfl⟩ := hv.shape
  obtain ⟨n, hn⟩ : ∃ n, n = q.length := ⟨_, rfl⟩
  rw [← hn] at hv hq ⊢
  have HV := Lib.hid (fun k a ha => hv.at_ k a ha)
  have HNN := Lib.hid hn
  have HS := Lib.hid hs
  clear hv hn hs
  go_enter Tryz.func41, Tryz.ntmps41
  go_wp2_with fail
  go_loopw [3, 4] (fun o i wr => ∃ (k : Nat) (y : ByteArray), k ≤ n ∧ i = .int .i64 k ∧ o = .string y ∧ y.size ≤ 50000000 ∧ Hid (bl y = printL (q.take k) ∧ Below w.heap.size w wr)) (fun _ i _ => n - (intOf i).toNat)
  case atStart => exact ⟨0, ⟨#[]⟩, Nat.zero_le _, rfl, rfl, Nat.zero_le _, Lib.hid ⟨rfl, Below.refl _ _⟩⟩
  case round =>
    obtain ⟨k, y, hk, rfl, rfl, hyz, hY⟩ := hrel
    by_cases hlt : k < n
    · obtain ⟨f, hf⟩ : ∃ a, q[k]? = some a := ⟨q[k]'(by have := HNN.out; omega), List.getElem?_eq_getElem _⟩
      obtain ⟨b1, o1, rfl, hb1, r1⟩ := HV.out k f hf
      obtain ⟨c0, c1⟩ := two (range_below r1 hb1 hY.out.2)
      have hf2 := HS.out f (List.mem_of_getElem? hf)
      have HSH := Lib.hid (fun W => rshow_any f W hf2.1 hf2.2)
      have hN : bl (y ++ ba (showL (bl f.n) (bl f.v))) = printL (q.take (k + 1)) := by
        rw [List.take_add_one, hf, bl_app, hY.out.1, bl_ba]
        exact (printL_snoc _ _).symm
      have hpl : (y ++ ba (showL (bl f.n) (bl f.v))).size ≤ 50000000 := by
        rw [← bl_len, hN]
        have h1 := printL_len (q.take (k + 1)) fun g hg => HS.out g (List.mem_of_mem_take hg)
        have h2 : (q.take (k + 1)).length ≤ 1000 := by rw [List.length_take]; omega
        omega
      have HN := Lib.hid hN
      generalize ba (showL (bl f.n) (bl f.v)) = z at *
      have hzz : z.size ≤ 50000000 := by rw [ByteArray.size_append] at hpl; omega
      clear hf hf2 r1 hN
      go_wp2_with fail
      refine (HSH.out _).mono ?_
      rintro e w1 ⟨rfl, hb⟩
      have HB2 := Lib.hid (And.intro HN.out (hY.out.2.trans (hb.mono hY.out.2.size)))
      clear hb
      go_wp2_with fail
      go_roundw
      case rel => exact ⟨k + 1, _, by omega, by simp, rfl, hpl, HB2⟩
      case measure => simp [intOf]; omega
    · have HE : Hid (y = ba (printL q)) := Lib.hid (by
        have h := hY.out.1
        rw [List.take_of_length_le (by have := HNN.out; omega)] at h
        rw [← h, ba_bl])
      go_wp2_with fail
      go_ret
      exact ⟨ret_str HE.out, hY.out.2⟩
end Go.Proofs.YtegbkfloiiilfaaGreatDoor.Head
