/-
  Clean and Spell.
-/
import Derived.Test.YtpmhajpaijngmaaDoorGlyphBuild
namespace Go.Proofs.YtpmhajpaijngmaaDoor.Glyph
open Go.RowKit

theorem cleanL_next {s : ByteArray} {p r k : Nat} (hp : p < s.size) (H : AtHand s p r k) : cleanL ((bl s).drop p) = enc (cw (sg ((bl s).drop p))).toNat ++ cleanL ((bl s).drop (p + k)) := by
  unfold cleanL
  rw [H.signs hp]
  rfl
theorem clean_rune {s : ByteArray} {p r k : Nat} (hp : p < s.size) (H : AtHand s p r k) (b : Bool) (hb : ctlB r = b) : Sc (if b = true then 32 else r) ∧ (cw (sg ((bl s).drop p))).toNat = if b = true then 32 else r := by
  subst hb
  have hc : (ctlB r = true) ↔ ((r : Int) < 32 ∨ 126 < (r : Int) ∧ (r : Int) ≤ 159) := by
    unfold ctlB
    simp only [Bool.or_eq_true, Bool.and_eq_true, decide_eq_true_eq]
  by_cases hbad : sg ((bl s).drop p) = -1
  · have := sg_bad _ hbad
    have hr := H.2.1
    rw [this] at hr
    obtain ⟨rfl, _⟩ := Prod.mk.inj hr
    rw [hbad]
    unfold Sc
    decide
  · have hg := sg_of_good _ hbad
    rw [H.one] at hg
    have hs : Sc r := by
      rcases sg_cases _ (drop_ne s p hp) with h | ⟨q, t, hq, _, h⟩
      · exact absurd h hbad
      · rw [hg] at h
        have : r = q := by omega
        rw [this]; exact hq
    have hcw : cw (r : Int) = if (r : Int) < 32 ∨ (127 ≤ (r : Int) ∧ (r : Int) ≤ 159) then 32 else (r : Int) := by
      unfold cw
      rw [if_neg (show ¬ (r : Int) = -1 by omega)]
    rw [hg, hcw]
    by_cases hct : ctlB r = true
    · rw [if_pos hct, if_pos (by have := hc.1 hct; omega)]
      exact ⟨by unfold Sc; omega, rfl⟩
    · rw [if_neg hct, if_neg (by intro h; exact hct (hc.2 (by omega)))]
      exact ⟨hs, by omega⟩
set_option maxHeartbeats 1000000 in
theorem clean_any (s : ByteArray) (w : World) (hs : s.size ≤ 100000000) :
    Calls Tryd.prog 16 #[.string s] w fun e w' => e = .returned (.string (ba (cleanL (bl s)))) ∧ Below w.heap.size w w' := by
  have HI := Lib.hid (BuiltAt.start s w)
  go_enter Tryd.func16, Tryd.ntmps16
  go_wp2
  go_loopw [] (fun wr => ∃ p acc, p ≤ s.size ∧ Hid (BuiltAt s w wr p acc) ∧ acc.length ≤ 4 * p ∧ Hid (acc ++ cleanL ((bl s).drop p) = cleanL (bl s))) (fun wr => s.size - wr.iterPos (w.heap.size + 1))
  case atStart => exact ⟨0, [], Nat.zero_le _, HI, Nat.le_refl _, Lib.hid rfl⟩
  case round =>
    clear HI
    obtain ⟨p, acc, hps, hI, hal, hx⟩ := hrel
    have hpos := Lib.hid hI.out.pos
    by_cases hp : p < s.size
    · obtain ⟨r, k, H, hd, hk, hk2, hr⟩ := at_hand s p hp
      have hnx := next_in hI.out hp hd
      have hI2 := Lib.hid (hI.out.next (p + k))
      have hN := Lib.hid (cleanL_next hp H.out)
      have hc := clean_rune hp H.out
      have hi := fun W => control_any r W
      clear hd
      cases hv : ctlB r
      · obtain ⟨hsc, hcw⟩ := hc false hv
        rw [if_neg (by decide)] at hsc hcw
        rw [hv] at hi
        have hw := wrune s w _ _ acc r hsc hI2.out (by omega)
        have hel := (enc_len r).2
        clear hc
        go_wp2_with fail
        refine (hi _).mono ?_
        rintro e w' ⟨rfl, rfl⟩
        go_wp2_with fail
        refine hw.mono ?_
        rintro e w1 ⟨⟨n, rfl⟩, h1⟩
        have H1 := Lib.hid h1
        clear h1 hw
        go_wp2
        go_roundw
        case rel => exact ⟨p + k, acc ++ enc r, hk2, H1, by rw [List.length_append]; omega, Lib.hid (by rw [← hx.out, hN.out, hcw, List.append_assoc])⟩
        case measure => rw [H1.out.pos, hpos.out]; omega
      · obtain ⟨hsc, hcw⟩ := hc true hv
        rw [if_pos rfl] at hsc hcw
        rw [hv] at hi
        have hw := wrune s w _ _ acc 32 hsc hI2.out (by omega)
        have hel := (enc_len 32).2
        clear hc
        go_wp2_with fail
        refine (hi _).mono ?_
        rintro e w' ⟨rfl, rfl⟩
        go_wp2_with fail
        refine hw.mono ?_
        rintro e w1 ⟨⟨n, rfl⟩, h1⟩
        have H1 := Lib.hid h1
        clear h1 hw
        go_wp2
        go_roundw
        case rel => exact ⟨p + k, acc ++ enc 32, hk2, H1, by rw [List.length_append]; omega, Lib.hid (by rw [← hx.out, hN.out, hcw, List.append_assoc])⟩
        case measure => rw [H1.out.pos, hpos.out]; omega
    · have hnx : ∀ ty, (Instr.next (.pointer (some ⟨w.heap.size + 1, 0, none⟩)) true ty).run Tryd.prog wr = _ := fun ty => Lib.run_next_end_at wr (w.heap.size + 1) s p ty hI.out.2.1 hp
      have hw := bend s w wr p acc hI.out
      have e := hx.out
      rw [drop_end s p hp, show cleanL [] = [] from rfl, List.append_nil] at e
      rw [e] at hw
      clear e
      go_wp2_with fail
      refine hw.mono ?_
      rintro e w1 ⟨rfl, h1⟩
      go_wp2
      go_ret
      exact ⟨rfl, h1⟩

theorem spellL_next {s : ByteArray} {p r k : Nat} (hp : p < s.size) (H : AtHand s p r k) : spellL ((bl s).drop p) = sp (sg ((bl s).drop p)) ++ spellL ((bl s).drop (p + k)) := by
  unfold spellL
  rw [H.signs hp]
  rfl
theorem spell_good {s : ByteArray} {p r k : Nat} (hp : p < s.size) (H : AtHand s p r k) (hbad : ¬ sg ((bl s).drop p) = -1) :
    Sc r ∧ sp (sg ((bl s).drop p)) = if plainB r = true ∧ r ≠ 123 then enc r else 123 :: (hexL r ++ [125]) := by
  have hg := sg_of_good _ hbad
  rw [H.one] at hg
  have hs : Sc r := by
    rcases sg_cases _ (drop_ne s p hp) with h | ⟨q, t, hq, _, h⟩
    · exact absurd h hbad
    · rw [hg] at h
      have : r = q := by omega
      rw [this]; exact hq
  refine ⟨hs, ?_⟩
  rw [hg]
  unfold sp
  rw [if_neg (by omega)]
  have hc : (plainB r = true) ↔ (32 ≤ (r : Int) ∧ (r : Int) ≤ 126) := by
    unfold plainB
    simp only [Bool.and_eq_true, decide_eq_true_eq]
  by_cases h : plainB r = true ∧ r ≠ 123
  · have := hc.1 h.1
    rw [if_pos h, if_pos (by omega)]
    rfl
  · rw [if_neg h, if_neg (by intro hh; exact h ⟨hc.2 (by omega), by omega⟩)]
    rfl
theorem sp_bad : sp (-1) = [123, 98, 97, 100, 125] := rfl
theorem braces (l : List UInt8) : (⟨#[123]⟩ : ByteArray) ++ ba l ++ ⟨#[125]⟩ = ba (123 :: (l ++ [125])) := by
  rw [show (⟨#[123]⟩ : ByteArray) = ba [123] from rfl, show (⟨#[125]⟩ : ByteArray) = ba [125] from rfl, ba_append, ba_append]
  simp
set_option maxRecDepth 100000 in
set_option maxHeartbeats 2000000 in
theorem spell_any (s : ByteArray) (w : World) (hs : s.size ≤ 100000000) (ht : Tab w) :
    Calls Tryd.prog 18 #[.string s] w fun e w' => e = .returned (.string (ba (spellL (bl s)))) ∧ Below w.heap.size w w' := by
  have HI := Lib.hid (BuiltAt.start s w)
  have HT := Lib.hid ht
  clear ht
  go_enter Tryd.func18, Tryd.ntmps18
  go_wp2
  go_loopw [] (fun wr => ∃ p acc, p ≤ s.size ∧ Hid (BuiltAt s w wr p acc) ∧ acc.length ≤ 8 * p ∧ Hid (acc ++ spellL ((bl s).drop p) = spellL (bl s))) (fun wr => s.size - wr.iterPos (w.heap.size + 1))
  case atStart => exact ⟨0, [], Nat.zero_le _, HI, Nat.le_refl _, Lib.hid rfl⟩
  case round =>
    clear HI
    obtain ⟨p, acc, hps, hI, hal, hx⟩ := hrel
    have hpos := Lib.hid hI.out.pos
    by_cases hp : p < s.size
    · obtain ⟨r, k, H, hd, hk, hk2, hr⟩ := at_hand s p hp
      have hnx := next_in hI.out hp hd
      have hI2 := Lib.hid (hI.out.next (p + k))
      have hN := Lib.hid (spellL_next hp H.out)
      have hi := fun W => invalid_at s p r k hp H W
      clear hd
      by_cases hbad : sg ((bl s).drop p) = -1
      · have hw := wstr s w _ _ acc [123, 98, 97, 100, 125] hI2.out (by simp; omega)
        rw [decide_eq_true hbad] at hi
        have hsp := Lib.hid (show spellL ((bl s).drop p) = [123, 98, 97, 100, 125] ++ spellL ((bl s).drop (p + k)) by rw [hN.out, hbad, sp_bad])
        clear hbad hN
        go_wp2_with fail
        refine (hi _).mono ?_
        rintro e w' ⟨rfl, rfl⟩
        go_wp2_with fail
        refine hw.mono ?_
        rintro e w1 ⟨⟨n, rfl⟩, h1⟩
        have H1 := Lib.hid h1
        clear h1 hw
        go_wp2
        go_roundw
        case rel => exact ⟨p + k, _, hk2, H1, by rw [List.length_append]; simp; omega, Lib.hid (by rw [← hx.out, hsp.out, List.append_assoc])⟩
        case measure => rw [H1.out.pos, hpos.out]; omega
      · obtain ⟨hsc, hsp⟩ := spell_good hp H.out hbad
        rw [decide_eq_false hbad] at hi
        have hpl := fun W => plain_any r W
        by_cases hg : plainB r = true ∧ r ≠ 123
        · rw [if_pos hg] at hsp
          have hspx := Lib.hid (show spellL ((bl s).drop p) = enc r ++ spellL ((bl s).drop (p + k)) by rw [hN.out, hsp])
          have hw := wrune s w _ _ acc r hsc hI2.out (by omega)
          have hel := (enc_len r).2
          have hne : ((r : Int) != 123) = true := by simp; omega
          rw [hg.1] at hpl
          clear hbad hN hsp hg
          go_wp2_with fail
          refine (hi _).mono ?_
          rintro e w' ⟨rfl, rfl⟩
          go_wp2_with fail
          refine (hpl _).mono ?_
          rintro e w' ⟨rfl, rfl⟩
          go_wp2_with fail
          refine hw.mono ?_
          rintro e w1 ⟨⟨n, rfl⟩, h1⟩
          have H1 := Lib.hid h1
          clear h1 hw
          go_wp2
          go_roundw
          case rel => exact ⟨p + k, _, hk2, H1, by rw [List.length_append]; omega, Lib.hid (by rw [← hx.out, hspx.out, List.append_assoc])⟩
          case measure => rw [H1.out.pos, hpos.out]; omega
        · rw [if_neg hg] at hsp
          have hspx := Lib.hid (show spellL ((bl s).drop p) = (123 :: (hexL r ++ [125])) ++ spellL ((bl s).drop (p + k)) by rw [hN.out, hsp])
          have hlen : (hexL r).length ≤ 6 := hexL_len 5 r (by omega)
          have hT2 := HT.out.below (hI2.out.2.2)
          have hf := format_any r _ (by omega) hT2
          have hbr := Lib.hid (braces (hexL r))
          have hz : (ba (hexL r)).size ≤ 6 := by rw [ba_size]; exact hlen
          have hw := fun w1 (hb : Below (wr.iterAt (w.heap.size + 1) s (p + k)).heap.size (wr.iterAt (w.heap.size + 1) s (p + k)) w1) => wstr s w w1 _ acc (123 :: (hexL r ++ [125])) (hI2.out.kept hb) (by simp; omega)
          have hl8 : Hid ((123 :: (hexL r ++ [125])).length ≤ 8) := Lib.hid (by simp; omega)
          generalize ba (hexL r) = X at hf hbr hz
          clear hbad hN hsp hT2
          by_cases hpp : plainB r = true
          · have h123 : r = 123 := by
              rcases Nat.decEq r 123 with h | h
              · exact absurd ⟨hpp, h⟩ hg
              · exact h
            have hne : ((r : Int) != 123) = false := by subst h123; decide
            rw [hpp] at hpl
            clear hg hpp h123
            go_wp2_with fail
            refine (hi _).mono ?_
            rintro e w' ⟨rfl, rfl⟩
            go_wp2_with fail
            refine (hpl _).mono ?_
            rintro e w' ⟨rfl, rfl⟩
            go_wp2_with fail
            refine hf.mono ?_
            rintro e w' ⟨rfl, hb⟩
            go_wp2_with fail
            rw [hbr.out]
            refine (hw _ hb).mono ?_
            rintro e w1 ⟨⟨n, rfl⟩, h1⟩
            have H1 := Lib.hid h1
            clear h1 hw
            go_wp2
            go_roundw
            case rel => exact ⟨p + k, _, hk2, H1, by rw [List.length_append]; have := hl8.out; omega, Lib.hid (by rw [← hx.out, hspx.out, List.append_assoc])⟩
            case measure => rw [H1.out.pos, hpos.out]; omega
          · rw [Bool.eq_false_iff.2 hpp] at hpl
            clear hg hpp
            go_wp2_with fail
            refine (hi _).mono ?_
            rintro e w' ⟨rfl, rfl⟩
            go_wp2_with fail
            refine (hpl _).mono ?_
            rintro e w' ⟨rfl, rfl⟩
            go_wp2_with fail
            refine hf.mono ?_
            rintro e w' ⟨rfl, hb⟩
            go_wp2_with fail
            rw [hbr.out]
            refine (hw _ hb).mono ?_
            rintro e w1 ⟨⟨n, rfl⟩, h1⟩
            have H1 := Lib.hid h1
            clear h1 hw
            go_wp2
            go_roundw
            case rel => exact ⟨p + k, _, hk2, H1, by rw [List.length_append]; have := hl8.out; omega, Lib.hid (by rw [← hx.out, hspx.out, List.append_assoc])⟩
            case measure => rw [H1.out.pos, hpos.out]; omega
    · have hnx : ∀ ty, (Instr.next (.pointer (some ⟨w.heap.size + 1, 0, none⟩)) true ty).run Tryd.prog wr = _ := fun ty => Lib.run_next_end_at wr (w.heap.size + 1) s p ty hI.out.2.1 hp
      have hw := bend s w wr p acc hI.out
      have e := hx.out
      rw [drop_end s p hp, show spellL [] = [] from rfl, List.append_nil] at e
      rw [e] at hw
      clear e
      go_wp2_with fail
      refine hw.mono ?_
      rintro e w1 ⟨rfl, h1⟩
      go_wp2
      go_ret
      exact ⟨rfl, h1⟩
end Go.Proofs.YtpmhajpaijngmaaDoor.Glyph
