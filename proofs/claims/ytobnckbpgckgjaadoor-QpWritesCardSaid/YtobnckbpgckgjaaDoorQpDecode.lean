/-
  Walks: strings.Cut at a line end, strings.TrimRight, strings.CutSuffix; Decode.
-/
import Derived.Test.YtobnckbpgckgjaaDoorQpRead
import Derived.Test.YtobnckbpgckgjaaDoorQpShelf
namespace Go.Proofs.YtobnckbpgckgjaaDoor.Qp
open Go Go.RowKit
open Go.Proofs.YtobnckbpgckgjaaDoor.Head
open Go.Proofs.YtobnckbpgckgjaaDoor.Lex (BuiltAt wbyte wstr wend)

theorem below_drewN {B : Nat} {a w : World} (h : Below B a w) : ∀ n, Below B a (w.drewN n)
  | _n => ⟨h.os, h.tape, h.output, h.size, h.block⟩

/-- internal/bytealg.MaxLen holds some number. -/
def MaxAt (w : World) : Prop := ∃ m, w.cell? ⟨0, 0, none⟩ = some (.int .i64 m)
theorem cell_lt {W : World} {b o : Nat} {x : Value} (h : W.cell? ⟨b, o, none⟩ = some x) : b < W.heap.size := by
  rcases Nat.lt_or_ge b W.heap.size with h' | h'
  · exact h'
  · have : W.heap[b]? = none := Array.getElem?_eq_none h'
    simp [World.cell?, this] at h
theorem MaxAt.below {w w' : World} (h : MaxAt w) (hb : Below w.heap.size w w') : MaxAt w' := by
  obtain ⟨m, hm⟩ := h
  exact ⟨m, by rw [hb.cell (p := ⟨0, 0, none⟩) (cell_lt hm)]; exact hm⟩

/-! Cut at a line end. -/
theorem crlf_pre (l : List UInt8) : ([13, 10] : List UInt8).isPrefixOf l = crlf l := by
  match l with
  | [] => rfl
  | [c] => simp [List.isPrefixOf, crlf]
  | c :: d :: t =>
    simp only [List.isPrefixOf, crlf, Bool.and_true]
    rw [Bool.eq_iff_iff]
    simp only [Bool.and_eq_true, beq_iff_eq]
    exact ⟨fun h => ⟨h.1.symm, h.2.symm⟩, fun h => ⟨h.1.symm, h.2.symm⟩⟩
theorem index_crlf : ∀ l : List UInt8, Lib.index l [13, 10] = match cut2 l with | none => -1 | some (t, _) => (t.length : Int)
  | [] => rfl
  | c :: t => by
    rw [Lib.index, crlf_pre]
    cases hc : crlf (c :: t)
    · rw [cut2_cons hc, index_crlf t, if_neg (by decide)]
      cases h2 : cut2 t with
      | none => rfl
      | some p =>
        obtain ⟨a, r⟩ := p
        have : ((a.length : Int) == -1) = false := by rw [beq_eq_false_iff_ne]; omega
        simp [this]
    · rw [if_pos rfl, cut2, if_pos hc]
      rfl
theorem cut_none {l : List UInt8} (h : cut2 l = none) : Lib.cut l [13, 10] = (l, [], false) := by
  unfold Lib.cut
  rw [index_crlf, h]
  rfl
theorem cut_some {l t r : List UInt8} (h : cut2 l = some (t, r)) : Lib.cut l [13, 10] = (t, r, true) := by
  unfold Lib.cut
  rw [index_crlf, h]
  have e := cut2_some h
  simp only
  rw [if_pos (by omega), e]
  simp
abbrev endS : ByteArray := ⟨#[13, 10]⟩
theorem cutN_any (s : ByteArray) (w : World) (hs : s.size ≤ 1000000000) (hm : MaxAt w) (h : cut2 (bl s) = none) :
    Calls Tryd.prog 15 #[.string s, .string endS] w fun e w' => e = .returned (.tuple #[.string s, .string ⟨#[]⟩, .bool false]) ∧ Below w.heap.size w w' := by
  obtain ⟨m, hm⟩ := hm
  refine (Tryd.strings_Cut s endS m w (by omega) hm).mono ?_
  rintro e w' ⟨rfl, n, rfl⟩
  rw [show (endS.data.toList) = [13, 10] from rfl, cut_none h]
  refine ⟨?_, below_drewN (Below.refl _ _) n⟩
  show Ending.returned (Value.tuple #[Value.string (ba (bl s)), .string ⟨#[]⟩, .bool false]) = _
  rw [ba_bl]
theorem cutS_any (s : ByteArray) (t r : List UInt8) (w : World) (hs : s.size ≤ 1000000000) (hm : MaxAt w) (h : cut2 (bl s) = some (t, r)) :
    Calls Tryd.prog 15 #[.string s, .string endS] w fun e w' => e = .returned (.tuple #[.string (ba t), .string (ba r), .bool true]) ∧ Below w.heap.size w w' := by
  obtain ⟨m, hm⟩ := hm
  refine (Tryd.strings_Cut s endS m w (by omega) hm).mono ?_
  rintro e w' ⟨rfl, n, rfl⟩
  rw [show (endS.data.toList) = [13, 10] from rfl, cut_some h]
  exact ⟨rfl, below_drewN (Below.refl _ _) n⟩

/-! Blanks at the end. -/
abbrev bkS : ByteArray := ⟨#[32, 9]⟩
theorem bk_set (c : UInt8) : ([32, 9] : List UInt8).contains c = bk c := by
  unfold bk bkN
  rw [Bool.eq_iff_iff]
  simp only [List.contains_cons, List.contains_nil, Bool.or_false, Bool.or_eq_true, beq_iff_eq]
  constructor
  · rintro (rfl | rfl)
    · exact .inl rfl
    · exact .inr rfl
  · rintro (h | h)
    · exact .inl (UInt8.toNat_inj.1 h)
    · exact .inr (UInt8.toNat_inj.1 h)
theorem trim_set (l : List UInt8) : Lib.trimRightS l [32, 9] = trimR l := by
  unfold Lib.trimRightS trimR
  have : (fun x : UInt8 => ([32, 9] : List UInt8).contains x) = bk := funext bk_set
  rw [this]
theorem trimR_any (s : ByteArray) (w : World) (hs : s.size ≤ 1000000000) :
    Calls Tryd.prog 22 #[.string s, .string bkS] w fun e w' => e = .returned (.string (ba (trimR (bl s)))) ∧ Below w.heap.size w w' := by
  refine (Tryd.strings_TrimRight_laid s bkS w (by omega) (by decide) (ascii_of_all (by decide))).mono ?_
  rintro e w' ⟨rfl, hb⟩
  rw [show bkS.data.toList = [32, 9] from rfl, trim_set]
  exact ⟨rfl, hb⟩
theorem trimR_len (l : List UInt8) : (trimR l).length ≤ l.length := by
  unfold trimR
  rw [List.length_reverse]
  have := (List.dropWhile_sublist bk (l := l.reverse)).length_le
  rwa [List.length_reverse] at this

/-! The mark at the end. -/
/-- Does a mark stand at the end? -/
def markE (l : List UInt8) : Bool := l.getLast? == some 61
theorem last_get (s : ByteArray) (h : 0 < s.size) : (bl s).getLast? = some (s[s.size - 1]'(by omega)) := by
  rw [List.getLast?_eq_getElem?, bl_len, List.getElem?_eq_getElem (by rw [bl_len]; omega)]
  rfl
theorem to_pred (s : ByteArray) : bl (s.extract 0 (s.size - 1)) = (bl s).dropLast := by
  rw [bl_extract, List.drop_zero, List.dropLast_eq_take, bl_len]
  rfl
set_option maxRecDepth 100000 in
set_option maxHeartbeats 400000 in
theorem suffixL_any (s : ByteArray) (w : World) (hs : s.size ≤ 1000000000) :
    Calls Tryd.prog 41 #[.string s, .string markB] w fun e w' => e = .returned (.bool (markE (bl s))) ∧ w = w' := by
  by_cases h : 0 < s.size
  · have h' : (1 : Int) ≤ (s.size : Int) := by omega
    have hsub : (s.size : Int) - 1 = ((s.size - 1 : Nat) : Int) := by omega
    have e : ((s.extract (s.size - 1) s.size).toList == [61]) = markE (bl s) := by
      unfold markE
      rw [Lib.toList_data, last_get s h, show (s.extract (s.size - 1) s.size).data.toList = bl (s.extract (s.size - 1) s.size) from rfl, bl_from, drop_cons s (s.size - 1) (by omega), drop_end s (s.size - 1 + 1) (by omega)]
      rw [Bool.eq_iff_iff]
      simp
    have he := Lib.hid e
    clear e
    generalize (markE (bl s)) = b at *
    go_enter Tryd.func41, Tryd.ntmps41
    go_wp2
    go_ret
    exact ⟨ret_bool he.out, rfl⟩
  · have h' : ¬ (1 : Int) ≤ (s.size : Int) := by omega
    have hn : bl s = [] := by
      apply List.length_eq_zero_iff.1
      rw [bl_len]
      omega
    have he : Hid ((markE (bl s)) = false) := Lib.hid (by rw [hn]; rfl)
    clear hn
    go_enter Tryd.func41, Tryd.ntmps41
    go_wp2
    go_ret
    exact ⟨ret_bool he.out.symm, rfl⟩
theorem ret_sb {a b : ByteArray} {x y : Bool} (h1 : a = b) (h2 : x = y) : Ending.returned (.tuple #[.string a, .bool x]) = .returned (.tuple #[.string b, .bool y]) := by rw [h1, h2]
/-- What is left of a text, and whether a mark stood at its end. -/
def unmark (l : List UInt8) : List UInt8 := bif markE l then l.dropLast else l
set_option maxRecDepth 100000 in
set_option maxHeartbeats 400000 in
theorem sufL_any (s : ByteArray) (w : World) (hs : s.size ≤ 1000000000) :
    Calls Tryd.prog 32 #[.string s, .string markB] w fun e w' => e = .returned (.tuple #[.string (ba (unmark (bl s))), .bool (markE (bl s))]) ∧ w = w' := by
  have HS := Lib.hid (fun W => suffixL_any s W hs)
  have HU : Hid (unmark (bl s) = bif markE (bl s) then (bl s).dropLast else bl s) := Lib.hid rfl
  cases hb : (markE (bl s))
  · rw [hb] at HS HU
    clear hb
    go_enter Tryd.func32, Tryd.ntmps32
    go_wp2_with fail
    refine (HS.out _).mono ?_
    rintro e w1 ⟨rfl, rfl⟩
    go_wp2_with fail
    go_ret2
    exact ⟨ret_sb (by rw [HU.out, cond_false, ba_bl]) rfl, rfl⟩
  · have h0 : 0 < s.size := by
      rcases Nat.eq_zero_or_pos s.size with h | h
      · have hn : bl s = [] := by
          apply List.length_eq_zero_iff.1
          rw [bl_len]
          omega
        rw [hn] at hb
        cases hb
      · exact h
    have hsub : (s.size : Int) - 1 = ((s.size - 1 : Nat) : Int) := by omega
    rw [hb] at HS HU
    clear hb
    go_enter Tryd.func32, Tryd.ntmps32
    go_wp2_with fail
    refine (HS.out _).mono ?_
    rintro e w1 ⟨rfl, rfl⟩
    go_wp2_with fail
    go_ret2
    exact ⟨ret_sb (by rw [HU.out, cond_true, ← to_pred, ba_bl]) rfl, rfl⟩
set_option maxRecDepth 100000 in
set_option maxHeartbeats 400000 in
theorem suf_any (s : ByteArray) (w : World) (hs : s.size ≤ 1000000000) :
    Calls Tryd.prog 21 #[.string s, .string markB] w fun e w' => e = .returned (.tuple #[.string (ba (unmark (bl s))), .bool (markE (bl s))]) ∧ w = w' := by
  have HS := Lib.hid (fun W => sufL_any s W hs)
  go_enter Tryd.func21, Tryd.ntmps21
  go_wp2_with fail
  refine (HS.out _).mono ?_
  rintro e w1 ⟨rfl, rfl⟩
  go_wp2_with fail
  go_ret2
  exact ⟨rfl, rfl⟩
theorem unmark_trim (l : List UInt8) : unmark (trimR l) = bodyL l ∧ markE (trimR l) = softB l := by
  refine ⟨?_, rfl⟩
  have e : markE (trimR l) = softB l := rfl
  unfold unmark bodyL
  rw [e]
  cases softB l <;> rfl
theorem unmark_len (l : List UInt8) : (unmark l).length ≤ l.length := by
  unfold unmark
  cases markE l
  · exact Nat.le_refl _
  · rw [cond_true, List.length_dropLast]; omega
theorem body_len (l : List UInt8) : (bodyL l).length ≤ l.length := by
  rw [← (unmark_trim l).1]
  exact Nat.le_trans (unmark_len (trimR l)) (trimR_len l)

/-! Decode. -/
/-- What Decode answers: a text and a code. -/
def decV (s : List UInt8) : List UInt8 := (decL s).getD []
def decC (s : List UInt8) : Nat := if (decL s).isSome then 0 else 3
def DcPost (s : List UInt8) (w : World) (e : Ending) (w' : World) : Prop := e = .returned (.tuple #[.string (ba (decV s)), .int .i64 (decC s)]) ∧ Below w.heap.size w w'
theorem DcPost.bad {s : List UInt8} {w w' : World} (h : decL s = none) (hb : Below w.heap.size w w') : DcPost s w (.returned (.tuple #[.string ⟨#[]⟩, .int .i64 3])) w' := by
  unfold DcPost decV decC
  rw [h]
  exact ⟨rfl, hb⟩
theorem DcPost.good {s x : List UInt8} {w w' : World} (h : decL s = some x) (hb : Below w.heap.size w w') : DcPost s w (.returned (.tuple #[.string (ba x), .int .i64 0])) w' := by
  unfold DcPost decV decC
  rw [h]
  exact ⟨rfl, hb⟩
/-- How much is to be read. -/
def moreSz : Value → Value → Nat
  | v, .bool true => strSz v + 1
  | _, _ => 0
/-- What is read so far, where more is to be read or not. -/
structure DcAt (s : ByteArray) (w wr : World) (more : Bool) (rest : ByteArray) (acc : List UInt8) : Prop where
  eq : if more = true then decL (bl s) = (decL (bl rest)).map (acc ++ ·) else decL (bl s) = some acc
  built : BuiltAt w wr acc
  few : acc.length + rest.size ≤ s.size + 2
theorem soft_few {l x : List UInt8} (h : rdW (bodyL l) = some x) : x.length ≤ l.length := Nat.le_trans (rdW_len _ _ _ (Nat.le_refl _) h) (body_len l)
set_option maxRecDepth 100000 in
set_option maxHeartbeats 2000000 in
theorem decode_any (s : ByteArray) (w : World) (hs : s.size ≤ 1000000) (hm : MaxAt w) :
    Calls Tryd.prog 11 #[.string s] w (DcPost (bl s) w) := by
  have HI : Hid (DcAt s w (w.alloc (.cells #[.pointer none, .slice none 0 0] 37)) true s []) := Lib.hid ⟨by rw [if_pos rfl]; simp, BuiltAt.start w, by simp⟩
  have HM := Lib.hid hm
  clear hm
  go_enter Tryd.func11, Tryd.ntmps11
  go_wp2_with fail
  go_loopw [0, 5] (fun v m wr => ∃ (rest : ByteArray) (more : Bool) (acc : List UInt8), v = .string rest ∧ m = .bool more ∧ Hid (DcAt s w wr more rest acc)) (fun v m _ => moreSz v m)
  case atStart => exact ⟨s, true, [], rfl, rfl, HI⟩
  case round =>
    clear HI
    obtain ⟨rest, more, acc, rfl, rfl, hD⟩ := hrel
    have hrz : rest.size ≤ 1000002 := by have := hD.out.few; omega
    have haz : acc.length ≤ 1000002 := by have := hD.out.few; omega
    cases more
    · have HE := Lib.hid hD.out.eq
      rw [if_neg (by decide)] at HE
      have HW := Lib.hid (wend w wr acc hD.out.built)
      go_wp2_with fail
      refine HW.out.mono ?_
      rintro e w1 ⟨rfl, hb⟩
      have HB := Lib.hid hb
      clear hb
      go_wp2_with fail
      go_ret2
      exact DcPost.good HE.out HB.out
    · have heq := hD.out.eq
      rw [if_pos rfl] at heq
      have HR : Hid (∀ W a l, BuiltAt w W a → a.length ≤ 1000002 → l.size ≤ 1000002 → Calls Tryd.prog 23 #[.pointer (some ⟨w.heap.size, 0, none⟩), .string l] W (RlPost w a (bl l))) := Lib.hid (fun W a l h1 h2 h3 => readLine_any w W a l h1 (by omega) (by omega))
      cases hc : cut2 (bl rest) with
      | none =>
        have HC := Lib.hid (cutN_any rest wr (by omega) (HM.out.below hD.out.built.2) hc)
        rw [dec_none hc] at heq
        have HT := Lib.hid (fun W => trimR_any rest W (by omega))
        have HF := Lib.hid (fun W => suf_any (ba (trimR (bl rest))) W (by rw [ba_size]; have := trimR_len (bl rest); rw [bl_len] at this; omega))
        rw [bl_ba, (unmark_trim (bl rest)).1, (unmark_trim (bl rest)).2] at HF
        have hbz : (bodyL (bl rest)).length ≤ rest.size := by have := body_len (bl rest); rwa [bl_len] at this
        have HR1 : Hid (∀ W, BuiltAt w W acc → Calls Tryd.prog 23 #[.pointer (some ⟨w.heap.size, 0, none⟩), .string (ba (bodyL (bl rest)))] W (RlPost w acc (bodyL (bl rest)))) := Lib.hid (fun W h => by
          have := HR.out W acc (ba (bodyL (bl rest))) h haz (by rw [ba_size]; omega)
          rwa [bl_ba] at this)
        have hft : ∀ x, rdW (bodyL (bl rest)) = some x → x.length ≤ rest.size := fun x hx => by have := soft_few hx; rwa [bl_len] at this
        unfold RlPost at HR1
        clear HR hc hbz
        generalize bodyL (bl rest) = B at *
        generalize softB (bl rest) = sf at *
        generalize ba (trimR (bl rest)) = T at *
        cases hr : rdW B with
        | none =>
          rw [hr] at HR1 heq
          have HE : Hid (decL (bl s) = none) := Lib.hid heq
          clear hr heq hft
          go_wp2_with fail
          refine HC.out.mono ?_
          rintro e w1 ⟨rfl, hb⟩
          have HB1 := Lib.hid (hD.out.built.kept hb)
          clear hb
          go_wp2_with fail
          refine (HT.out _).mono ?_
          rintro e w2 ⟨rfl, hb⟩
          have HB2 := Lib.hid (HB1.out.kept hb)
          clear hb
          go_wp2_with fail
          refine (HF.out _).mono ?_
          rintro e w3 ⟨rfl, rfl⟩
          go_wp2_with fail
          refine (HR1.out _ HB2.out).mono ?_
          rintro e w3 ⟨rfl, a, hb⟩
          have HB3 := Lib.hid hb.2
          clear hb
          go_wp2_with fail
          go_ret2
          exact DcPost.bad HE.out HB3.out
        | some x =>
          rw [hr] at HR1 heq
          have HE : Hid (decL (bl s) = some (acc ++ x)) := Lib.hid heq
          have hxz := hft x hr
          have hfew := hD.out.few
          clear hr heq hft
          go_wp2_with fail
          refine HC.out.mono ?_
          rintro e w1 ⟨rfl, hb⟩
          have HB1 := Lib.hid (hD.out.built.kept hb)
          clear hb
          go_wp2_with fail
          refine (HT.out _).mono ?_
          rintro e w2 ⟨rfl, hb⟩
          have HB2 := Lib.hid (HB1.out.kept hb)
          clear hb
          go_wp2_with fail
          refine (HF.out _).mono ?_
          rintro e w3 ⟨rfl, rfl⟩
          go_wp2_with fail
          refine (HR1.out _ HB2.out).mono ?_
          rintro e w3 ⟨rfl, hb⟩
          have HN : Hid (DcAt s w w3 false ⟨#[]⟩ (acc ++ x)) := Lib.hid ⟨by rw [if_neg (by decide)]; exact HE.out, hb, by rw [List.length_append]; have : (⟨#[]⟩ : ByteArray).size = 0 := rfl; omega⟩
          clear hb
          go_wp2_with fail
          go_roundw
          case rel => exact ⟨_, _, _, rfl, rfl, HN⟩
          case measure => simp [moreSz]
      | some p =>
        obtain ⟨t, r⟩ := p
        have HC := Lib.hid (cutS_any rest t r wr (by omega) (HM.out.below hD.out.built.2) hc)
        rw [dec_some hc] at heq
        have hlen := cut2_len hc
        rw [bl_len] at hlen
        have htz : (ba t).size = t.length := ba_size t
        have hrz2 : (ba r).size = r.length := ba_size r
        have HT := Lib.hid (fun W => trimR_any (ba t) W (by omega))
        have HF := Lib.hid (fun W => suf_any (ba (trimR t)) W (by rw [ba_size]; have := trimR_len t; omega))
        rw [bl_ba] at HT
        rw [bl_ba, (unmark_trim t).1, (unmark_trim t).2] at HF
        have hbz := body_len t
        have HR1 : Hid (∀ W, BuiltAt w W acc → Calls Tryd.prog 23 #[.pointer (some ⟨w.heap.size, 0, none⟩), .string (ba (bodyL t))] W (RlPost w acc (bodyL t))) := Lib.hid (fun W h => by
          have := HR.out W acc (ba (bodyL t)) h haz (by rw [ba_size]; omega)
          rwa [bl_ba] at this)
        have hft : ∀ x, rdW (bodyL t) = some x → x.length ≤ t.length := fun x hx => soft_few hx
        unfold RlPost at HR1
        clear HR hc hbz
        generalize bodyL t = B at *
        generalize softB t = sf at *
        generalize ba (trimR t) = T at *
        have HX : Hid (bl (ba r) = r) := Lib.hid (bl_ba r)
        generalize ba t = tb at *
        generalize ba r = rb at *
        cases hr : rdW B with
        | none =>
          rw [hr] at HR1 heq
          have HE : Hid (decL (bl s) = none) := Lib.hid heq
          clear hr heq hft
          go_wp2_with fail
          refine HC.out.mono ?_
          rintro e w1 ⟨rfl, hb⟩
          have HB1 := Lib.hid (hD.out.built.kept hb)
          clear hb
          go_wp2_with fail
          refine (HT.out _).mono ?_
          rintro e w2 ⟨rfl, hb⟩
          have HB2 := Lib.hid (HB1.out.kept hb)
          clear hb
          go_wp2_with fail
          refine (HF.out _).mono ?_
          rintro e w3 ⟨rfl, rfl⟩
          go_wp2_with fail
          refine (HR1.out _ HB2.out).mono ?_
          rintro e w3 ⟨rfl, a, hb⟩
          have HB3 := Lib.hid hb.2
          clear hb
          go_wp2_with fail
          go_ret2
          exact DcPost.bad HE.out HB3.out
        | some x =>
          rw [hr] at HR1 heq
          have hxz := hft x hr
          have hfew := hD.out.few
          cases sf
          · have HN : Hid (∀ W, BuiltAt w W ((acc ++ x) ++ [13, 10]) → DcAt s w W true rb ((acc ++ x) ++ [13, 10])) := Lib.hid (fun W h => ⟨by
              rw [if_pos rfl, heq, HX.out, Option.map_map]
              congr 1
              funext z
              simp, h, by simp only [List.length_append, List.length_cons, List.length_nil]; omega⟩)
            have hal : (acc ++ x).length ≤ 1000000000 := by rw [List.length_append]; omega
            clear hr heq hft
            go_wp2_with fail
            refine HC.out.mono ?_
            rintro e w1 ⟨rfl, hb⟩
            have HB1 := Lib.hid (hD.out.built.kept hb)
            clear hb
            go_wp2_with fail
            refine (HT.out _).mono ?_
            rintro e w2 ⟨rfl, hb⟩
            have HB2 := Lib.hid (HB1.out.kept hb)
            clear hb
            go_wp2_with fail
            refine (HF.out _).mono ?_
            rintro e w3 ⟨rfl, rfl⟩
            go_wp2_with fail
            refine (HR1.out _ HB2.out).mono ?_
            rintro e w3 ⟨rfl, hb⟩
            have HB3 := Lib.hid hb
            clear hb
            go_wp2_with fail
            refine (wstr w w3 (acc ++ x) endS HB3.out hal (by decide)).mono ?_
            rintro e w4 ⟨rfl, hb⟩
            have HB4 := Lib.hid (HN.out w4 hb)
            clear hb
            go_wp2_with fail
            go_roundw
            case rel => exact ⟨_, _, _, rfl, rfl, HB4⟩
            case measure => simp [moreSz, strSz]; omega
          · have HN : Hid (∀ W, BuiltAt w W (acc ++ x) → DcAt s w W true rb (acc ++ x)) := Lib.hid (fun W h => ⟨by
              rw [if_pos rfl, heq, HX.out, Option.map_map]
              congr 1
              funext z
              simp, h, by rw [List.length_append]; omega⟩)
            clear hr heq hft
            go_wp2_with fail
            refine HC.out.mono ?_
            rintro e w1 ⟨rfl, hb⟩
            have HB1 := Lib.hid (hD.out.built.kept hb)
            clear hb
            go_wp2_with fail
            refine (HT.out _).mono ?_
            rintro e w2 ⟨rfl, hb⟩
            have HB2 := Lib.hid (HB1.out.kept hb)
            clear hb
            go_wp2_with fail
            refine (HF.out _).mono ?_
            rintro e w3 ⟨rfl, rfl⟩
            go_wp2_with fail
            refine (HR1.out _ HB2.out).mono ?_
            rintro e w3 ⟨rfl, hb⟩
            have HB3 := Lib.hid (HN.out w3 hb)
            clear hb
            go_wp2_with fail
            go_roundw
            case rel => exact ⟨_, _, _, rfl, rfl, HB3⟩
            case measure => simp [moreSz, strSz]; omega
end Go.Proofs.YtobnckbpgckgjaaDoor.Qp
