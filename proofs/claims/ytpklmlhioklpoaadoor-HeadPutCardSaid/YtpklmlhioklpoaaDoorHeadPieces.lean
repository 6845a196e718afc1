/-
  Walks: pieces, Show.
-/
import Derived.Test.YtpklmlhioklpoaaDoorHeadMem
import Derived.Test.YtpklmlhioklpoaaDoorHeadTest
namespace Go.Proofs.YtpklmlhioklpoaaDoor.Head
open Go Go.RowKit
open Go.Proofs.YtpklmlhioklpoaaDoor.Lex (wstr wend BuiltAt)

theorem TxAt.add {w W : World} {n c : Nat} {a : Option Addr} {ws : List ByteArray} (h : TxAt w W (.slice a n c) ws) (hn : ws.length = n) (x : ByteArray) (hl : n ≤ 2000000) :
    ∃ a' c' w', (Builtin.append_ #[strsT, strsT] strsT #[.slice a n c, .slice (some ⟨W.heap.size, 0, none⟩) 1 1]).run Tryd.prog (W.alloc (.cells #[.string x] strT)) = .ok (.slice a' (n + 1) c') w' ∧ Hid (TxAt w w' (.slice a' (n + 1) c') (ws ++ [x])) := by
  have ho := h.1
  obtain ⟨a', c', w', hr, hh⟩ := append_str W w.heap.size (.slice a n c) ws x (by rw [hn]; rw [hn] at ho; exact ho) (by omega) h.2.size
  rw [hn] at hr hh
  refine ⟨a', c', w', hr, Lib.hid ⟨?_, h.2.trans hh.out.2.1⟩⟩
  rw [List.length_append, hn]
  exact hh.out.1
theorem pcs_count : ∀ (t w : List UInt8) (b : Bool), (pcs w b t).length ≤ t.length + 1
  | [], w, b => by simp [pcs]
  | c :: t, w, b => by
    rw [pcs]
    split
    · have := pcs_count t [c] true
      simp only [List.length_cons]
      omega
    · have := pcs_count t (w ++ [c]) (bk c)
      simp only [List.length_cons]
      omega
/-- The pieces so far, and the one at hand. -/
structure PcAt (x : ByteArray) (P : List (List UInt8)) (w wr : World) (ov : Value) (D : List ByteArray) (st i : Nat) : Prop where
  eq : ∃ h : i - 1 < x.size, D.map bl ++ pcs (bl (x.extract st i)) (bk (x[i - 1]'h)) ((bl x).drop i) = P
  le : st ≤ i
  few : D.length ≤ i
  own : TxAt w wr ov D
theorem ext_snoc (x : ByteArray) (st i : Nat) (hs : st ≤ i) (hi : i < x.size) : bl (x.extract st (i + 1)) = bl (x.extract st i) ++ [x[i]] := by
  rw [bl_extract, bl_extract, show i + 1 - st = (i - st) + 1 by omega, List.take_add_one, List.getElem?_drop, show st + (i - st) = i by omega]
  rw [List.getElem?_eq_getElem (by rw [bl_len]; exact hi)]
  rfl
theorem ext_one (x : ByteArray) (i : Nat) (hi : i < x.size) : bl (x.extract i (i + 1)) = [x[i]] := by
  rw [ext_snoc x i i (Nat.le_refl _) hi]
  rw [bl_extract]
  simp
set_option maxRecDepth 100000 in
set_option maxHeartbeats 2000000 in
theorem pieces_any (s : ByteArray) (w : World) (hs : s.size ≤ 1000000) :
    Calls Tryd.prog 48 #[.string s] w fun e w' => ∃ v, e = .returned v ∧ TxAt w w' v ((piecesL (bl s)).map ba) := by
  have hq := empty_any s
  by_cases h0 : bl s = []
  · rw [h0] at hq ⊢
    rw [show ([] : List UInt8).isEmpty = true from rfl] at hq
    go_enter Tryd.func48, Tryd.ntmps48
    go_wp2_with fail
    go_ret
    exact ⟨_, rfl, TxAt.start w⟩
  · have hte : (bl s).isEmpty = false := by
      cases h : bl s with
      | nil => exact absurd h h0
      | cons c1 t1 => rfl
    rw [hte] at hq
    obtain ⟨P, hP⟩ : ∃ P, P = pcs [32] true (bl s) := ⟨_, rfl⟩
    have hpl : piecesL (bl s) = P := by unfold piecesL; rw [if_neg h0, hP]
    rw [hpl]
    obtain ⟨x, hx⟩ : ∃ x : ByteArray, x = (⟨#[32]⟩ : ByteArray) ++ s := ⟨_, rfl⟩
    have hbx : bl x = 32 :: bl s := by
      rw [hx]
      show ((⟨#[32]⟩ : ByteArray) ++ s).data.toList = _
      rw [ByteArray.data_append]
      simp
    have hxs : x.size = s.size + 1 := by rw [← bl_len, hbx, List.length_cons, bl_len]
    have HX := Lib.hid hx
    have HI : Hid (PcAt x P w w (.slice none 0 0) [] 0 1) := Lib.hid ⟨⟨by omega, by
        have h1 : bl (x.extract 0 1) = [32] := by rw [bl_extract, hbx]; rfl
        have h2 : x[1 - 1]'(by omega) = 32 := by
          have : (bl x)[0]? = some 32 := by rw [hbx]; rfl
          rw [List.getElem?_eq_getElem (by rw [bl_len]; omega)] at this
          exact Option.some.inj this
        rw [h1, h2, hbx, hP]
        rfl⟩, by omega, by simp, TxAt.start w⟩
    clear hte hpl h0 hP hbx hx
    go_enter Tryd.func48, Tryd.ntmps48
    go_wp2_with fail
    rw [← HX.out]
    have hxz : x.size ≤ 1000001 := by omega
    clear hxs hs hq HX
    go_loopw [4, 5, 6] (fun ov st i wr => ∃ (D : List ByteArray) (a k : Nat), 1 ≤ k ∧ k ≤ x.size ∧ a ≤ k ∧ st = .int .i64 a ∧ i = .int .i64 k ∧ Hid (PcAt x P w wr ov D a k)) (fun _ _ i _ => x.size - (intOf i).toNat)
    case atStart => exact ⟨[], 0, 1, by omega, by obtain ⟨h, _⟩ := HI.out.eq; omega, by omega, rfl, rfl, HI⟩
    case round =>
      clear HI
      obtain ⟨D, a, k, hk1, hk, hak, rfl, rfl, hI⟩ := hrel
      obtain ⟨oa, oc, rfl⟩ := owns_slice hI.out.own.1
      obtain ⟨m, hm⟩ : ∃ m, m = D.length := ⟨_, rfl⟩
      have hmk : m ≤ k := by rw [hm]; exact hI.out.few
      rw [← hm]
      have HMM := Lib.hid hm
      clear hm
      by_cases hlt : k < x.size
      · have hpr : k - 1 < x.size := by omega
        have hsub : (k : Int) - 1 = ((k - 1 : Nat) : Int) := by omega
        obtain ⟨_, heq⟩ := hI.out.eq
        rw [drop_cons x k hlt, pcs] at heq
        have HB1 := Lib.hid (fun W => blank_any x[k] W)
        have HB2 := Lib.hid (fun W => blank_any (x[k - 1]'hpr) W)
        cases b1 : bk x[k]
        · rw [b1, if_neg (by rintro ⟨h, _⟩; cases h)] at heq
          rw [b1] at HB1
          have HN : Hid (PcAt x P w wr (.slice oa m oc) D a (k + 1)) := Lib.hid ⟨⟨by omega, by
            rw [ext_snoc x a k hak hlt]
            simp only [Nat.add_sub_cancel]
            rw [b1]
            exact heq⟩, by omega, by have := hI.out.few; omega, by have := hI.out.own; rw [← HMM.out] at this; exact this⟩
          clear heq b1
          go_wp2_with fail
          refine (HB1.out _).mono ?_
          rintro e w1 ⟨rfl, rfl⟩
          go_wp2_with fail
          go_roundw
          case rel => exact ⟨D, a, k + 1, by omega, by omega, by omega, rfl, by simp, HN⟩
          case measure => simp [intOf]; omega
        · rw [b1] at HB1
          cases b2 : bk (x[k - 1]'hpr)
          · rw [b2] at HB2
            rw [b1, b2, if_pos ⟨rfl, rfl⟩] at heq
            have hown := hI.out.own
            rw [← HMM.out] at hown
            obtain ⟨a', c', w4, hr, hh⟩ := hown.add HMM.out.symm (x.extract a k) (by omega)
            have HR := Lib.hid hr
            have HN : Hid (PcAt x P w w4 (.slice a' (m + 1) c') (D ++ [x.extract a k]) k (k + 1)) := Lib.hid ⟨⟨by omega, by
              rw [ext_one x k hlt]
              simp only [Nat.add_sub_cancel]
              rw [b1, List.map_append, List.append_assoc]
              exact heq⟩, by omega, by rw [List.length_append]; have := hI.out.few; simp; omega, hh.out⟩
            clear heq b1 b2 hr hh hown
            go_wp2_with fail
            refine (HB1.out _).mono ?_
            rintro e w1 ⟨rfl, rfl⟩
            go_wp2_with fail
            refine (HB2.out _).mono ?_
            rintro e w1 ⟨rfl, rfl⟩
            go_wp2_with (at_builtin; refine Lib.wpList_append_run _ rfl _ _ _ _ rfl _ _ rfl rfl _ _ HR.out ?_)
            go_roundw
            case rel => exact ⟨_, k, k + 1, by omega, by omega, by omega, rfl, by simp, HN⟩
            case measure => simp [intOf]; omega
          · rw [b2] at HB2
            rw [b1, b2, if_neg (by rintro ⟨_, h⟩; cases h)] at heq
            have HN : Hid (PcAt x P w wr (.slice oa m oc) D a (k + 1)) := Lib.hid ⟨⟨by omega, by
              rw [ext_snoc x a k hak hlt]
              simp only [Nat.add_sub_cancel]
              rw [b1]
              exact heq⟩, by omega, by have := hI.out.few; omega, by have := hI.out.own; rw [← HMM.out] at this; exact this⟩
            clear heq b1 b2
            go_wp2_with fail
            refine (HB1.out _).mono ?_
            rintro e w1 ⟨rfl, rfl⟩
            go_wp2_with fail
            refine (HB2.out _).mono ?_
            rintro e w1 ⟨rfl, rfl⟩
            go_wp2_with fail
            go_roundw
            case rel => exact ⟨D, a, k + 1, by omega, by omega, by omega, rfl, by simp, HN⟩
            case measure => simp [intOf]; omega
      · have hkx : k = x.size := by omega
        obtain ⟨_, heq⟩ := hI.out.eq
        rw [drop_end x k hlt, pcs] at heq
        have hown := hI.out.own
        rw [← HMM.out] at hown
        obtain ⟨a', c', w4, hr, hh⟩ := hown.add HMM.out.symm (x.extract a x.size) (by omega)
        have HR := Lib.hid hr
        have HN : Hid (TxAt w w4 (.slice a' (m + 1) c') (P.map ba)) := Lib.hid (by
          have e : P.map ba = D ++ [x.extract a x.size] := by
            rw [← heq, List.map_append, List.map_map, hkx]
            rw [show (ba ∘ bl) = id from funext fun y => ba_bl y]
            simp
          rw [e]
          exact hh.out)
        clear heq hr hh hown hkx
        go_wp2_with (at_builtin; refine Lib.wpList_append_run _ rfl _ _ _ _ rfl _ _ rfl rfl _ _ HR.out ?_)
        go_ret
        exact ⟨_, rfl, HN.out⟩
end Go.Proofs.YtpklmlhioklpoaaDoor.Head
