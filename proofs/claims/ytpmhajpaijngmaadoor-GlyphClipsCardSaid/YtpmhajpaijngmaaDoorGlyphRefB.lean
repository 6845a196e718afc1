/-
  The document's Write, Clean and Spell.
-/
import Derived.Test.YtpmhajpaijngmaaDoorGlyphClean
namespace Go.Proofs.YtpmhajpaijngmaaDoor.Glyph
open Go.RowKit

set_option maxHeartbeats 1000000 in
theorem write_any (r : Nat) (w : World) (hr : Sc r) :
    Calls Tryd.prog 29 #[.int .i64 r] w fun e w' => e = .returned (.string (ba (enc r))) ∧ Below w.heap.size w w' := by
  have hs := hr
  unfold Sc at hs
  by_cases c1 : r < 128
  · have d1 : (r : Int) < 128 := by omega
    have hl := laid1 w (r : Int)
    have hst : strOfNums [(r : Int)] = ba (enc r) := by
      have := strOf_byts [r]
      rw [enc_one c1]
      simpa using this
    rw [hst] at hl
    go_enter Tryd.func29, Tryd.ntmps29
    go_wp2
    go_ret
    exact ⟨rfl, (Below.refl _ _).alloc (Nat.le_refl _) _⟩
  have d1 : ¬ (r : Int) < 128 := by omega
  obtain ⟨q1, h1⟩ : ∃ q, r / 64 = q := ⟨_, rfl⟩
  obtain ⟨m0, h0⟩ : ∃ q, r % 64 = q := ⟨_, rfl⟩
  have i1 : (r : Int) / 64 = (q1 : Int) := by omega
  have i0 : (r : Int) % 64 = (m0 : Int) := by omega
  by_cases c2 : r < 2048
  · have d2 : (r : Int) < 2048 := by omega
    have hl := laid2 w (192 + (q1 : Int)) (128 + (m0 : Int))
    have hst : strOfNums [192 + (q1 : Int), 128 + (m0 : Int)] = ba (enc r) := by
      have := strOf_byts [192 + q1, 128 + m0]
      rw [enc_two (by omega) c2, h1, h0]
      simpa using this
    rw [hst] at hl
    go_enter Tryd.func29, Tryd.ntmps29
    go_wp2
    go_ret
    exact ⟨rfl, (Below.refl _ _).alloc (Nat.le_refl _) _⟩
  have d2 : ¬ (r : Int) < 2048 := by omega
  obtain ⟨q2, h2⟩ : ∃ q, r / 4096 = q := ⟨_, rfl⟩
  obtain ⟨m1, g1⟩ : ∃ q, q1 % 64 = q := ⟨_, rfl⟩
  have i2 : (r : Int) / 4096 = (q2 : Int) := by omega
  have j1 : (q1 : Int) % 64 = (m1 : Int) := by omega
  by_cases c3 : r < 65536
  · have d3 : (r : Int) < 65536 := by omega
    have hl := laid3 w (224 + (q2 : Int)) (128 + (m1 : Int)) (128 + (m0 : Int))
    have hst : strOfNums [224 + (q2 : Int), 128 + (m1 : Int), 128 + (m0 : Int)] = ba (enc r) := by
      have := strOf_byts [224 + q2, 128 + m1, 128 + m0]
      rw [enc_three (by omega) c3, h1, h0, h2, g1]
      simpa using this
    rw [hst] at hl
    go_enter Tryd.func29, Tryd.ntmps29
    go_wp2
    go_ret
    exact ⟨rfl, (Below.refl _ _).alloc (Nat.le_refl _) _⟩
  have d3 : ¬ (r : Int) < 65536 := by omega
  obtain ⟨q3, h3⟩ : ∃ q, r / 262144 = q := ⟨_, rfl⟩
  obtain ⟨m2, g2⟩ : ∃ q, q2 % 64 = q := ⟨_, rfl⟩
  have i3 : (r : Int) / 262144 = (q3 : Int) := by omega
  have j2 : (q2 : Int) % 64 = (m2 : Int) := by omega
  have hl := laid4 w (240 + (q3 : Int)) (128 + (m2 : Int)) (128 + (m1 : Int)) (128 + (m0 : Int))
  have hst : strOfNums [240 + (q3 : Int), 128 + (m2 : Int), 128 + (m1 : Int), 128 + (m0 : Int)] = ba (enc r) := by
    have := strOf_byts [240 + q3, 128 + m2, 128 + m1, 128 + m0]
    rw [enc_four (by omega), h1, h0, h2, g1, g2, h3]
    simpa using this
  rw [hst] at hl
  go_enter Tryd.func29, Tryd.ntmps29
  go_wp2
  go_ret
  exact ⟨rfl, (Below.refl _ _).alloc (Nat.le_refl _) _⟩

/-- The first j of them, written one behind the other. -/
def upTo (f : Int → List UInt8) (S : List Int) (j : Nat) : List UInt8 := ((S.take j).map f).flatten
theorem upTo_next (f : Int → List UInt8) (S : List Int) (j : Nat) (h : j < S.length) : upTo f S (j + 1) = upTo f S j ++ f (S.getD j 0) := by
  unfold upTo
  rw [List.take_succ_eq_append_getElem h, List.getD_eq_getElem?_getD, List.getElem?_eq_getElem h, List.map_append, List.flatten_append, List.map_singleton, List.flatten_singleton]
  rfl
theorem upTo_end (f : Int → List UInt8) (S : List Int) (j : Nat) (h : S.length ≤ j) : upTo f S j = (S.map f).flatten := by
  unfold upTo; rw [List.take_of_length_le h]
theorem upTo_len (f : Int → List UInt8) (k : Nat) (S : List Int) (hf : ∀ n ∈ S, (f n).length ≤ k) (j : Nat) : (upTo f S j).length ≤ k * S.length := by
  have : ∀ T : List Int, (∀ n ∈ T, (f n).length ≤ k) → (T.map f).flatten.length ≤ k * T.length := by
    intro T
    induction T with
    | nil => simp
    | cons n T ih =>
      intro h
      simp only [List.map_cons, List.flatten_cons, List.length_append, List.length_cons]
      have h1 := h n (by simp)
      have := ih fun q hq => h q (by simp [hq])
      rw [Nat.mul_add]
      omega
  have h1 := this (S.take j) (fun n hn => hf n (List.mem_of_mem_take hn))
  have h2 : (S.take j).length ≤ S.length := by rw [List.length_take]; omega
  have h3 := Nat.mul_le_mul_left k h2
  unfold upTo
  omega
def UpAt (f : Int → List UInt8) (S : List Int) (w : World) (o i : Value) (wr : World) : Prop :=
  ∃ j : Nat, j ≤ S.length ∧ i = .int .i64 j ∧ o = .string (ba (upTo f S j)) ∧ Below w.heap.size w wr
theorem getD_ok (s : ByteArray) (j : Nat) (h : j < (signs (bl s)).length) : Ok ((signs (bl s)).getD j 0) := by
  apply signs_ok (bl s)
  rw [List.getD_eq_getElem?_getD, List.getElem?_eq_getElem h]
  exact List.getElem_mem h
def fc (n : Int) : List UInt8 := enc (cw n).toNat
set_option maxHeartbeats 2000000 in
theorem refClean_any (s : ByteArray) (w : World) (hs : s.size ≤ 1000000) :
    Calls Tryd.prog 17 #[.string s] w fun e w' => e = .returned (.string (ba (cleanL (bl s)))) ∧ Below w.heap.size w w' := by
  have hS := signs_le (bl s)
  rw [bl_len] at hS
  have hOk := Lib.hid (getD_ok s)
  have hE : Hid (∀ S, S = signs (bl s) → (S.map fc).flatten = cleanL (bl s)) := Lib.hid (by rintro S rfl; rfl)
  have hL : Hid (∀ j, (upTo fc (signs (bl s)) j).length ≤ 4 * (signs (bl s)).length) := Lib.hid (fun j => upTo_len fc 4 _ (fun n _ => (enc_len _).2) j)
  go_enter Tryd.func17, Tryd.ntmps17
  go_wp2_with fail
  refine (signs_any s _ hs).mono ?_
  rintro e w1 ⟨v, rfl, hR, hb1⟩
  have hE' := Lib.hid (hE.out _ rfl)
  clear hE
  generalize signs (bl s) = S at *
  obtain ⟨a, cap, rfl, hR⟩ := hR
  have HR := Lib.hid hR
  have HB1 := Lib.hid hb1
  clear hR hb1
  have HI : Hid (UpAt fc S w1 (.string ⟨#[]⟩) (.int .i64 0) w1) := ⟨0, Nat.zero_le _, rfl, rfl, Below.refl _ _⟩
  go_wp2
  go_loopw [4, 5] (fun o i wr => UpAt fc S w1 o i wr) (fun _ i _ => S.length - (intOf i).toNat)
  case atStart => exact HI.out
  case round =>
    clear HI
    obtain ⟨j, hj, rfl, rfl, hb⟩ := hrel
    have hos : (ba (upTo fc S j)).size ≤ 4000000 := by rw [ba_size]; have := hL.out j; omega
    have HB := Lib.hid hb
    have hbs := hb.size
    by_cases hlt : j < S.length
    · have hlt' : (j : Int) < (S.length : Int) := by omega
      obtain ⟨g, rfl, hg1, hg2⟩ := HR.out j hlt
      rw [← hb.cell (p := ⟨g, j, none⟩) hg1] at hg2
      have hN : Hid (ba (upTo fc S (j + 1)) = ba (upTo fc S j) ++ ba (fc (S.getD j 0))) := Lib.hid (by rw [upTo_next fc S j hlt, ba_append])
      have hok := hOk.out j hlt
      clear hb
      generalize S.getD j 0 = n at *
      obtain ⟨hsc, hc0, hc1⟩ := cw_sc hok
      have hwr := fun W => write_any (cw n).toNat W hsc
      have hez : (ba (fc n)).size ≤ 4 := by rw [ba_size]; exact (enc_len _).2
      have hfc : enc (cw n).toNat = fc n := rfl
      rw [hfc, show ((cw n).toNat : Int) = cw n by omega] at hwr
      have hlo : -1 ≤ n ∧ n ≤ 1114111 := by
        rcases hok with rfl | ⟨r, hr, rfl⟩
        · omega
        · unfold Sc at hr; omega
      have hcwv : (n = -1 → cw n = 65533) ∧ (n ≠ -1 → n < 32 → cw n = 32) ∧ (n ≠ -1 → 127 ≤ n → n ≤ 159 → cw n = 32) ∧ (n ≠ -1 → ¬ n < 32 → ¬ (127 ≤ n ∧ n ≤ 159) → cw n = n) := by
        unfold cw
        refine ⟨fun h => by rw [if_pos h], fun h h1 => by rw [if_neg h, if_pos (.inl h1)], fun h h1 h2 => by rw [if_neg h, if_pos (.inr ⟨h1, h2⟩)], fun h h1 h2 => by rw [if_neg h, if_neg (by omega)]⟩
      clear hfc hok hsc
      generalize ba (fc n) = x at hN hez hwr
      generalize ba (upTo fc S j) = o at hN hos ⊢
      by_cases n0 : n = -1
      · rw [hcwv.1 n0] at hwr
        subst n0
        clear hcwv
        go_wp2_with fail
        refine (hwr _).mono ?_
        rintro e w2 ⟨rfl, hb2⟩
        have HB2 := Lib.hid (HB.out.trans (hb2.mono hbs))
        clear hb2 hwr
        go_wp2
        go_roundw
        case rel => exact ⟨j + 1, hlt, int_eq (by omega), by rw [hN.out], HB2.out⟩
        case measure => simp [intOf]; omega
      have n0' : (n == -1) = false := by simp; exact n0
      by_cases n1 : n < 32
      · rw [hcwv.2.1 n0 n1] at hwr
        clear hcwv
        go_wp2_with fail
        refine (hwr _).mono ?_
        rintro e w2 ⟨rfl, hb2⟩
        have HB2 := Lib.hid (HB.out.trans (hb2.mono hbs))
        clear hb2 hwr
        go_wp2
        go_roundw
        case rel => exact ⟨j + 1, hlt, int_eq (by omega), by rw [hN.out], HB2.out⟩
        case measure => simp [intOf]; omega
      by_cases n2 : 127 ≤ n
      · by_cases n3 : n ≤ 159
        · rw [hcwv.2.2.1 n0 n2 n3] at hwr
          clear hcwv
          go_wp2_with fail
          refine (hwr _).mono ?_
          rintro e w2 ⟨rfl, hb2⟩
          have HB2 := Lib.hid (HB.out.trans (hb2.mono hbs))
          clear hb2 hwr
          go_wp2
          go_roundw
          case rel => exact ⟨j + 1, hlt, int_eq (by omega), by rw [hN.out], HB2.out⟩
          case measure => simp [intOf]; omega
        · rw [hcwv.2.2.2 n0 n1 (by omega)] at hwr
          clear hcwv
          go_wp2_with fail
          refine (hwr _).mono ?_
          rintro e w2 ⟨rfl, hb2⟩
          have HB2 := Lib.hid (HB.out.trans (hb2.mono hbs))
          clear hb2 hwr
          go_wp2
          go_roundw
          case rel => exact ⟨j + 1, hlt, int_eq (by omega), by rw [hN.out], HB2.out⟩
          case measure => simp [intOf]; omega
      · rw [hcwv.2.2.2 n0 n1 (by omega)] at hwr
        clear hcwv
        go_wp2_with fail
        refine (hwr _).mono ?_
        rintro e w2 ⟨rfl, hb2⟩
        have HB2 := Lib.hid (HB.out.trans (hb2.mono hbs))
        clear hb2 hwr
        go_wp2
        go_roundw
        case rel => exact ⟨j + 1, hlt, int_eq (by omega), by rw [hN.out], HB2.out⟩
        case measure => simp [intOf]; omega
    · have hlt' : ¬ (j : Int) < (S.length : Int) := by omega
      have hend := Lib.hid (upTo_end fc S j (by omega))
      clear hb
      go_wp2
      go_ret
      exact ⟨by rw [hend.out, hE'.out]; rfl, HB1.out.trans (HB.out.mono HB1.out.size)⟩
set_option maxHeartbeats 2000000 in
theorem refSpell_any (s : ByteArray) (w : World) (hs : s.size ≤ 1000000) :
    Calls Tryd.prog 19 #[.string s] w fun e w' => e = .returned (.string (ba (spellL (bl s)))) ∧ Below w.heap.size w w' := by
  have hS := signs_le (bl s)
  rw [bl_len] at hS
  have hOk := Lib.hid (getD_ok s)
  have hE : Hid (∀ S, S = signs (bl s) → (S.map sp).flatten = spellL (bl s)) := Lib.hid (by rintro S rfl; rfl)
  have hL : Hid (∀ j, (upTo sp (signs (bl s)) j).length ≤ 8 * (signs (bl s)).length) := Lib.hid (fun j => upTo_len sp 8 _ (fun n hn => sp_len (signs_ok _ n hn)) j)
  go_enter Tryd.func19, Tryd.ntmps19
  go_wp2_with fail
  refine (signs_any s _ hs).mono ?_
  rintro e w1 ⟨v, rfl, hR, hb1⟩
  have hE' := Lib.hid (hE.out _ rfl)
  clear hE
  generalize signs (bl s) = S at *
  obtain ⟨a, cap, rfl, hR⟩ := hR
  have HR := Lib.hid hR
  have HB1 := Lib.hid hb1
  clear hR hb1
  have HI : Hid (UpAt sp S w1 (.string ⟨#[]⟩) (.int .i64 0) w1) := ⟨0, Nat.zero_le _, rfl, rfl, Below.refl _ _⟩
  go_wp2
  go_loopw [4, 5] (fun o i wr => UpAt sp S w1 o i wr) (fun _ i _ => S.length - (intOf i).toNat)
  case atStart => exact HI.out
  case round =>
    clear HI
    obtain ⟨j, hj, rfl, rfl, hb⟩ := hrel
    have hos : (ba (upTo sp S j)).size ≤ 8000000 := by rw [ba_size]; have := hL.out j; omega
    have HB := Lib.hid hb
    have hbs := hb.size
    by_cases hlt : j < S.length
    · have hlt' : (j : Int) < (S.length : Int) := by omega
      obtain ⟨g, rfl, hg1, hg2⟩ := HR.out j hlt
      rw [← hb.cell (p := ⟨g, j, none⟩) hg1] at hg2
      have hN : Hid (ba (upTo sp S (j + 1)) = ba (upTo sp S j) ++ ba (sp (S.getD j 0))) := Lib.hid (by rw [upTo_next sp S j hlt, ba_append])
      have hok := hOk.out j hlt
      clear hb
      generalize S.getD j 0 = n at *
      generalize ba (upTo sp S j) = o at hN hos ⊢
      rcases hok with rfl | ⟨r, hr, rfl⟩
      · rw [sp_bad] at hN
        have hN' : Hid (ba (upTo sp S (j + 1)) = o ++ ⟨#[123, 98, 97, 100, 125]⟩) := hN
        clear hN
        go_wp2
        go_roundw
        case rel => exact ⟨j + 1, hlt, int_eq (by omega), by rw [hN'.out], HB.out⟩
        case measure => simp [intOf]; omega
      have hr' := hr
      unfold Sc at hr'
      have n0' : ((r : Int) == -1) = false := by rw [beq_eq_false_iff_ne]; omega
      by_cases hp : (32 ≤ r ∧ r ≤ 126) ∧ r ≠ 123
      · have hsp : sp (r : Int) = enc r := by
          unfold sp
          rw [if_neg (by omega), if_pos (by omega)]
          rfl
        rw [hsp] at hN
        have hwr := fun W => write_any r W hr
        have hez : (ba (enc r)).size ≤ 4 := by rw [ba_size]; exact (enc_len _).2
        generalize ba (enc r) = x at hN hez hwr
        have p1 : (32 : Int) ≤ (r : Int) := by omega
        have p2 : (r : Int) ≤ 126 := by omega
        have p3 : ((r : Int) != 123) = true := by simp; omega
        clear hsp hp hr
        go_wp2_with fail
        refine (hwr _).mono ?_
        rintro e w2 ⟨rfl, hb2⟩
        have HB2 := Lib.hid (HB.out.trans (hb2.mono hbs))
        clear hb2 hwr
        go_wp2
        go_roundw
        case rel => exact ⟨j + 1, hlt, int_eq (by omega), by rw [hN.out], HB2.out⟩
        case measure => simp [intOf]; omega
      · have hsp : sp (r : Int) = 123 :: (hexL r ++ [125]) := by
          unfold sp
          rw [if_neg (by omega), if_neg (by omega)]
          rfl
        rw [hsp] at hN
        have hlen : (hexL r).length ≤ 6 := hexL_len 5 r (by omega)
        have hwr := fun W => refHex_any r W (by omega)
        have hez : (ba (hexL r)).size ≤ 6 := by rw [ba_size]; exact hlen
        have hbr : Hid (o ++ ⟨#[123]⟩ ++ ba (hexL r) ++ ⟨#[125]⟩ = ba (upTo sp S (j + 1))) := Lib.hid (by
          rw [hN.out, ← braces]
          simp only [ByteArray.append_assoc])
        generalize ba (hexL r) = x at hbr hez hwr
        clear hsp hN hr
        by_cases q1 : (32 : Int) ≤ (r : Int)
        · by_cases q2 : (r : Int) ≤ 126
          · have q3 : ((r : Int) != 123) = false := by
              have : r = 123 := by omega
              subst this; decide
            clear hp
            go_wp2_with fail
            refine (hwr _).mono ?_
            rintro e w2 ⟨rfl, rfl⟩
            clear hwr
            go_wp2
            go_roundw
            case rel => exact ⟨j + 1, hlt, int_eq (by omega), by rw [hbr.out], HB.out⟩
            case measure => simp [intOf]; omega
          · clear hp
            go_wp2_with fail
            refine (hwr _).mono ?_
            rintro e w2 ⟨rfl, rfl⟩
            clear hwr
            go_wp2
            go_roundw
            case rel => exact ⟨j + 1, hlt, int_eq (by omega), by rw [hbr.out], HB.out⟩
            case measure => simp [intOf]; omega
        · clear hp
          go_wp2_with fail
          refine (hwr _).mono ?_
          rintro e w2 ⟨rfl, rfl⟩
          clear hwr
          go_wp2
          go_roundw
          case rel => exact ⟨j + 1, hlt, int_eq (by omega), by rw [hbr.out], HB.out⟩
          case measure => simp [intOf]; omega
    · have hlt' : ¬ (j : Int) < (S.length : Int) := by omega
      have hend := Lib.hid (upTo_end sp S j (by omega))
      clear hb
      go_wp2
      go_ret
      exact ⟨by rw [hend.out, hE'.out]; rfl, HB1.out.trans (HB.out.mono HB1.out.size)⟩
end Go.Proofs.YtpmhajpaijngmaaDoor.Glyph
