/-
  Walks: Quote, Word, Print.
-/
import Derived.Test.YtklmhjoiffaniaaDoorLexScan
namespace Go.Proofs.YtklmhjoiffaniaaDoor.Lex
open Go Go.RowKit

theorem wbyteN (w wr : World) (acc : List UInt8) (n : Int) (c : UInt8) (hn : (c.toNat : Int) = n) (h : BuiltAt w wr acc) (hl : acc.length ≤ 1000000000) :
    Calls Tryd.prog 57 #[.pointer (some ⟨w.heap.size, 0, none⟩), .int .u8 n] wr fun e w' => e = .returned .nilIface ∧ BuiltAt w w' (acc ++ [c]) := by
  subst hn
  exact wbyte w wr acc c h hl
/-- A string's quoted bytes, up to a place. -/
def QAt (l : List UInt8) (k : Nat) (acc : List UInt8) : Prop := acc ++ body (l.drop k) ++ [34] = quoteL l
theorem QAt.next {l : List UInt8} {k : Nat} {acc : List UInt8} {c : UInt8} {t q : List UInt8} (h : QAt l k acc) (hd : l.drop k = c :: t) (hq : qbyte c = q) (ht : l.drop (k + 1) = t) : QAt l (k + 1) (acc ++ q) := by
  unfold QAt at *
  rw [ht, ← h, hd]
  show acc ++ q ++ body t ++ [34] = acc ++ (qbyte c ++ body t) ++ [34]
  rw [hq]
  simp
set_option maxRecDepth 100000 in
set_option maxHeartbeats 2000000 in
theorem quote_any (s : ByteArray) (w : World) (hs : s.size ≤ 100000000) :
    Calls Tryd.prog 32 #[.string s] w fun e w' => e = .returned (.string (ba (quoteL (bl s)))) ∧ Below w.heap.size w w' := by
  have HW := Lib.hid (wbyteN w _ [] 34 34 rfl (BuiltAt.start w) (by simp))
  go_enter Tryd.func32, Tryd.ntmps32
  go_wp2_with fail
  refine HW.out.mono ?_
  rintro e w1 ⟨rfl, h1⟩
  have HB := Lib.hid h1
  have HI : Hid (QAt (bl s) 0 [34]) := Lib.hid (by unfold QAt quoteL; simp)
  clear h1 HW
  go_wp2_with fail
  go_loopw [9] (fun i wr => ∃ (k : Nat) (acc : List UInt8), k ≤ s.size ∧ i = .int .i64 k ∧ acc.length ≤ 2 * k + 1 ∧ Hid (QAt (bl s) k acc) ∧ Hid (BuiltAt w wr acc)) (fun i _ => s.size - (intOf i).toNat)
  case atStart => exact ⟨0, [34], by omega, rfl, by simp, HI, HB⟩
  case round =>
    clear HI HB
    obtain ⟨k, acc, hk, rfl, hal, hI, hB⟩ := hrel
    by_cases hlt : k < s.size
    · have hdc := drop_cons s k hlt
      have h8 : s[k].toNat < 256 := s[k].toNat_lt
      have HT := Lib.hid (fun W => text_any (s[k].toNat : Int) W (by omega) (by omega))
      have hnx := fun q hq => hI.out.next (q := q) hdc hq rfl
      by_cases h34 : s[k].toNat = 34
      · have hc : s[k] = 34 := UInt8.toNat.inj h34
        have t34 : ((s[k].toNat : Int) == 34) = true := by rw [h34]; rfl
        have hq : qbyte s[k] = [92, s[k]] := by unfold qbyte; rw [if_pos (.inl h34)]
        have HE := Lib.hid (hnx _ hq)
        have HW := Lib.hid (wbyteN w wr acc 92 92 rfl hB.out (by omega))
        have HW2 := Lib.hid (fun W (h : BuiltAt w W (acc ++ [92])) => wbyteN w W (acc ++ [92]) _ s[k] rfl h (by rw [List.length_append]; simp; omega))
        clear hnx hdc hq h34 hc hI
        go_wp2_with fail
        refine HW.out.mono ?_
        rintro e' w2 ⟨rfl, h2⟩
        have HB2 := Lib.hid (HW2.out _ h2)
        clear h2
        go_wp2_with fail
        refine HB2.out.mono ?_
        rintro e' w3 ⟨rfl, h3⟩
        have HB3 := Lib.hid (show BuiltAt w w3 (acc ++ [92, s[k]]) by rw [List.append_assoc] at h3; exact h3)
        clear h3
        go_wp2_with fail
        go_roundw
        case rel => exact ⟨k + 1, _, by omega, by simp, by rw [List.length_append]; simp; omega, HE, HB3⟩
        case measure => simp [intOf]; omega
      · have t34 : ((s[k].toNat : Int) == 34) = false := by rw [beq_eq_false_iff_ne]; omega
        by_cases h92 : s[k].toNat = 92
        · have t92 : ((s[k].toNat : Int) == 92) = true := by rw [h92]; rfl
          have hq : qbyte s[k] = [92, s[k]] := by unfold qbyte; rw [if_pos (.inr h92)]
          have HE := Lib.hid (hnx _ hq)
          have HW := Lib.hid (wbyteN w wr acc 92 92 rfl hB.out (by omega))
          have HW2 := Lib.hid (fun W (h : BuiltAt w W (acc ++ [92])) => wbyteN w W (acc ++ [92]) _ s[k] rfl h (by rw [List.length_append]; simp; omega))
          clear hnx hdc hq h92 h34 hI
          go_wp2_with fail
          refine HW.out.mono ?_
          rintro e' w2 ⟨rfl, h2⟩
          have HB2 := Lib.hid (HW2.out _ h2)
          clear h2
          go_wp2_with fail
          refine HB2.out.mono ?_
          rintro e' w3 ⟨rfl, h3⟩
          have HB3 := Lib.hid (show BuiltAt w w3 (acc ++ [92, s[k]]) by rw [List.append_assoc] at h3; exact h3)
          clear h3
          go_wp2_with fail
          go_roundw
          case rel => exact ⟨k + 1, _, by omega, by simp, by rw [List.length_append]; simp; omega, HE, HB3⟩
          case measure => simp [intOf]; omega
        · have t92 : ((s[k].toNat : Int) == 92) = false := by rw [beq_eq_false_iff_ne]; omega
          cases ht : tx s[k]
          · rw [show txN (s[k].toNat : Int).toNat = false from ht] at HT
            have hq : qbyte s[k] = [32] := by unfold qbyte; rw [if_neg (by omega), ht, if_neg (by decide)]
            have HE := Lib.hid (hnx _ hq)
            have HW := Lib.hid (wbyteN w wr acc 32 32 rfl hB.out (by omega))
            clear hnx hdc hq ht h34 h92 hI
            go_wp2_with fail
            refine (HT.out _).mono ?_
            rintro e' w1 ⟨rfl, rfl⟩
            go_wp2_with fail
            refine HW.out.mono ?_
            rintro e' w2 ⟨rfl, h2⟩
            have HB2 := Lib.hid h2
            clear h2
            go_wp2_with fail
            go_roundw
            case rel => exact ⟨k + 1, _, by omega, by simp, by rw [List.length_append]; simp; omega, HE, HB2⟩
            case measure => simp [intOf]; omega
          · rw [show txN (s[k].toNat : Int).toNat = true from ht] at HT
            have hq : qbyte s[k] = [s[k]] := by unfold qbyte; rw [if_neg (by omega), ht, if_pos rfl]
            have HE := Lib.hid (hnx _ hq)
            have HW := Lib.hid (wbyteN w wr acc _ s[k] rfl hB.out (by omega))
            clear hnx hdc hq ht h34 h92 hI
            go_wp2_with fail
            refine (HT.out _).mono ?_
            rintro e' w1 ⟨rfl, rfl⟩
            go_wp2_with fail
            refine HW.out.mono ?_
            rintro e' w2 ⟨rfl, h2⟩
            have HB2 := Lib.hid h2
            clear h2
            go_wp2_with fail
            go_roundw
            case rel => exact ⟨k + 1, _, by omega, by simp, by rw [List.length_append]; simp; omega, HE, HB2⟩
            case measure => simp [intOf]; omega
    · have hX : Hid (acc ++ [34] = quoteL (bl s)) := Lib.hid (by
        have h := hI.out
        unfold QAt at h
        rw [drop_end s k hlt, show body [] = [] from rfl, List.append_nil] at h
        exact h)
      have HW := Lib.hid (wbyteN w wr acc 34 34 rfl hB.out (by omega))
      clear hI
      go_wp2_with fail
      refine HW.out.mono ?_
      rintro e' w2 ⟨rfl, h2⟩
      have HE := Lib.hid (wend w w2 _ h2)
      clear h2
      go_wp2_with fail
      refine HE.out.mono ?_
      rintro e' w3 ⟨rfl, hb⟩
      have HB3 := Lib.hid hb
      clear hb
      go_wp2_with fail
      go_ret
      exact ⟨by rw [← hX.out]; rfl, HB3.out⟩
end Go.Proofs.YtklmhjoiffaniaaDoor.Lex
