/-
  Walks of the document addr, the second part.
-/
import Derived.Test.YtegbkfloiiilfaaGreatDoorMgAddrR

/-
  Walks of the document's answers: Domain, Dotted, Text, Key, Why, Right.
-/
namespace Go.Proofs.YtegbkfloiiilfaaGreatDoor.Addr
open Go Go.RowKit
open Go.Proofs.YtegbkfloiiilfaaGreatDoor.Lex
open Go.Proofs.YtegbkfloiiilfaaGreatDoor.Glyph (fd foldL foldL_foldL fold_any)
open Go.Proofs.YtegbkfloiiilfaaGreatDoor.Sha (Kept wp_region_kept wp_region_kept_tail quiet_load_row)

theorem refFoldX_any (s : ByteArray) (w : World) (hs : s.size ≤ 1000000) :
    Calls Tryz.prog 51 #[.string s] w fun e w' => e = .returned (.string (ba (foldL (bl s)))) ∧ Below w.heap.size w w' := Glyph.refFold_any s w hs
set_option maxRecDepth 100000 in
set_option maxHeartbeats 2000000 in
theorem refDomain_any (s : ByteArray) (w : World) (hs : s.size ≤ 1000000) :
    Calls Tryz.prog 135 #[.string s] w (DomPost (bl s) w) := by
  have HS := Lib.hid (fun W => refSplit_any s W hs)
  have HF := Lib.hid (fun W => refFoldX_any s W hs)
  obtain ⟨n, hn⟩ : ∃ n, n = (pieces (bl s)).length := ⟨_, rfl⟩
  have hn1 : n ≤ 1000001 := by
    have := pcs_count (bl s) []
    rw [bl_len] at this
    rw [hn]
    exact Nat.le_trans this (by omega)
  obtain ⟨L0, hL0⟩ : ∃ b, decide ((253 : Int) < (s.size : Int)) = b := ⟨_, rfl⟩
  have HZ : Hid (longK (bl s) 0 = L0) := Lib.hid (by rw [longK_zero, bl_len, ← hL0]; exact decide_eq_decide.2 (by omega))
  go_enter Tryz.func135, Tryz.ntmps135
  go_wp2_with fail
  refine (HS.out _).mono ?_
  rintro e w1 ⟨v, rfl, ⟨b, cap, rfl, hc, hbl, hcell⟩, hb⟩
  rw [← hn] at hc ⊢
  have HB := Lib.hid hb
  have HC := Lib.hid hcell
  clear hb hcell
  go_wp2_with fail
  go_loopw [5, 6] (fun lo i wr => ∃ k : Nat, k ≤ n ∧ i = .int .i64 k ∧ lo = .bool (longK (bl s) k) ∧ Hid (((pieces (bl s)).take k).all labelB = true) ∧ wr = w1) (fun _ i _ => n - (intOf i).toNat)
  case atStart => exact ⟨0, Nat.zero_le _, rfl, by rw [HZ.out], Lib.hid (by simp), rfl⟩
  case round =>
    obtain ⟨k, hk, rfl, rfl, hall, rfl⟩ := hrel
    by_cases hlt : k < n
    · obtain ⟨p, hp⟩ : ∃ p, (pieces (bl s))[k]? = some p := ⟨(pieces (bl s))[k]'(by omega), List.getElem?_eq_getElem _⟩
      have hx := HC.out k p hp
      have hz := piece_size hp
      have HL := Lib.hid (fun W => refLabel_any (ba p) W (by omega))
      rw [bl_ba] at HL
      have hnx := longK_next hp
      obtain ⟨L1, hL1⟩ : ∃ b, decide ((63 : Int) < ((ba p).size : Int)) = b := ⟨_, rfl⟩
      have e1 : decide (63 < p.length) = L1 := by rw [← hL1, ba_size]; exact decide_eq_decide.2 (by omega)
      rw [e1] at hnx
      have HNX := Lib.hid hnx
      clear hnx e1
      generalize longK (bl s) k = L at *
      cases ha : labelB p
      · rw [ha] at HL
        have HE := Lib.hid (all_not hp ha)
        clear ha hp
        generalize ba p = x at *
        go_wp2_with fail
        refine (HL.out _).mono ?_
        rintro e' w2 ⟨rfl, rfl⟩
        go_wp2_with fail
        go_ret2
        exact DomPost.bad HE.out HB.out
      · rw [ha] at HL
        have HN := Lib.hid (all_take hp hall.out ha)
        clear ha hp
        generalize ba p = x at *
        cases L <;> cases L1
        all_goals
          go_wp2_with fail
          refine (HL.out _).mono ?_
          rintro e' w2 ⟨rfl, rfl⟩
          go_wp2_with fail
          go_roundw
          case rel => exact ⟨k + 1, by omega, by simp, by rw [HNX.out]; rfl, HN, trivial⟩
          case measure => simp [intOf]; omega
    · obtain rfl : k = n := by omega
      have HE : Hid ((pieces (bl s)).all labelB = true) := Lib.hid (by
        have h := hall.out
        rwa [List.take_of_length_le (by omega)] at h)
      have HLL : Hid (longK (bl s) k = longB (bl s)) := Lib.hid (by rw [hn]; exact longK_end _)
      obtain ⟨L, hL⟩ : ∃ b, longB (bl s) = b := ⟨_, rfl⟩
      have HG := Lib.hid hL
      rw [HLL.out, HG.out]
      clear hL
      cases L
      · go_wp2_with fail
        refine (HF.out _).mono ?_
        rintro e' w2 ⟨rfl, hb⟩
        have HB2 := Lib.hid (HB.out.trans (hb.mono HB.out.size))
        clear hb
        go_wp2_with fail
        go_ret2
        exact DomPost.good HE.out HG.out HB2.out
      · go_wp2_with fail
        go_ret2
        exact DomPost.long HE.out HG.out HB.out
set_option maxRecDepth 100000 in
set_option maxHeartbeats 2000000 in
theorem refDotted_any (s : ByteArray) (w : World) (hs : s.size ≤ 1000000) :
    Calls Tryz.prog 153 #[.string s] w fun e w' => e = .returned (.bool (dottedB (bl s))) ∧ Below w.heap.size w w' := by
  have HS := Lib.hid (fun W => refSplit_any s W hs)
  obtain ⟨n, hn⟩ : ∃ n, n = (pieces (bl s)).length := ⟨_, rfl⟩
  have hn1 : n ≤ 1000001 := by
    have := pcs_count (bl s) []
    rw [bl_len] at this
    rw [hn]
    exact Nat.le_trans this (by omega)
  go_enter Tryz.func153, Tryz.ntmps153
  go_wp2_with fail
  refine (HS.out _).mono ?_
  rintro e w1 ⟨v, rfl, ⟨b, cap, rfl, hc, hbl, hcell⟩, hb⟩
  rw [← hn] at hc ⊢
  have HB := Lib.hid hb
  have HC := Lib.hid hcell
  clear hb hcell
  go_wp2_with fail
  go_loopw [4] (fun i wr => ∃ k : Nat, k ≤ n ∧ i = .int .i64 k ∧ Hid (((pieces (bl s)).take k).all atomB = true) ∧ wr = w1) (fun i _ => n - (intOf i).toNat)
  case atStart => exact ⟨0, Nat.zero_le _, rfl, Lib.hid (by simp), rfl⟩
  case round =>
    obtain ⟨k, hk, rfl, hall, rfl⟩ := hrel
    by_cases hlt : k < n
    · obtain ⟨p, hp⟩ : ∃ p, (pieces (bl s))[k]? = some p := ⟨(pieces (bl s))[k]'(by omega), List.getElem?_eq_getElem _⟩
      have hx := HC.out k p hp
      have hz := piece_size hp
      have HL := Lib.hid (fun W => refIsAtom_any (ba p) W (by omega))
      rw [bl_ba] at HL
      cases ha : atomB p
      · rw [ha] at HL
        have HE := Lib.hid (all_not hp ha)
        clear ha hp
        generalize ba p = x at *
        go_wp2_with fail
        refine (HL.out _).mono ?_
        rintro e' w2 ⟨rfl, rfl⟩
        go_wp2_with fail
        go_ret
        exact ⟨ret_bool HE.out.symm, HB.out⟩
      · rw [ha] at HL
        have HN := Lib.hid (all_take hp hall.out ha)
        clear ha hp
        generalize ba p = x at *
        go_wp2_with fail
        refine (HL.out _).mono ?_
        rintro e' w2 ⟨rfl, rfl⟩
        go_wp2_with fail
        go_roundw
        case rel => exact ⟨k + 1, by omega, by simp, HN, trivial⟩
        case measure => simp [intOf]; omega
    · obtain rfl : k = n := by omega
      have HE : Hid ((pieces (bl s)).all atomB = true) := Lib.hid (by
        have h := hall.out
        rwa [List.take_of_length_le (by omega)] at h)
      go_wp2_with fail
      go_ret
      exact ⟨ret_bool HE.out.symm, HB.out⟩
set_option maxRecDepth 100000 in
set_option maxHeartbeats 2000000 in
theorem refText_any (l d : ByteArray) (w : World) (hl : l.size ≤ 400000) (hd : d.size ≤ 400000) :
    Calls Tryz.prog 136 #[adB l d] w fun e w' => e = .returned (.string (ba (textL ⟨bl l, bl d⟩))) ∧ Below w.heap.size w w' := by
  have HD := Lib.hid (fun W => refDotted_any l W (by omega))
  have HN := Lib.hid (new_boxA w arT l d)
  have HA : Hid (Below w.heap.size w (w.alloc (boxA arT l d))) := Lib.hid ((Below.refl _ _).alloc (Nat.le_refl _) _)
  cases hb : dottedB (bl l)
  · rw [hb] at HD
    have HX := Lib.hid (txt_quoted (d := d) hb)
    have HQ := Lib.hid (fun W => refQuote_any l W (by omega))
    have hq : (ba (quoteL (bl l))).size ≤ 2 * l.size + 2 := by
      rw [ba_size]
      have := quote_len (bl l)
      rwa [bl_len] at this
    clear hb
    generalize ba (quoteL (bl l)) = q at *
    go_enter Tryz.func136, Tryz.ntmps136
    go_wp2_with fail
    refine (HD.out _).mono ?_
    rintro e w1 ⟨rfl, hb⟩
    have HR := Lib.hid (range_below HN.out (by simp) hb)
    have HB := Lib.hid (HA.out.trans (hb.mono HA.out.size))
    have HL : Hid (w.heap.size < w1.heap.size) := Lib.hid (by have := hb.size; simp at this; omega)
    clear hb
    go_wp2_with fail
    refine wp_region_kept (by kernel_rfl) (by kernel_rfl) ?_
    repeat (first
      | (go_big_quiet_want
         first
           | refine quiet_load_str 9 (.tmp 12) rfl ⟨w.heap.size, 0, none⟩ rfl (.string l) (fun w' hk => (twoA (range_below HR.out HL.out hk)).1) Tryz.underlying9 ?_
           | refine quiet_load_str 9 (.tmp 16) rfl ⟨w.heap.size, 0 + 1, none⟩ rfl (.string d) (fun w' hk => (twoA (range_below HR.out HL.out hk)).2) Tryz.underlying9 ?_
         go_simp
         go_big_quiet_on)
      | (go_big_quiet_step ((first | (exact fun _ => rfl) | (intro hk; go_at_call 154; exact hk.call_same (HQ.out _))))))
    refine wpQuiet_nil ?_
    intro W2 hk2
    have HK2 := Lib.hid (HB.out.trans (hk2.below.mono HB.out.size))
    clear hk2
    go_wp2_with fail
    go_ret
    exact ⟨by rw [← HX.out]; rfl, HK2.out⟩
  · rw [hb] at HD
    have HX := Lib.hid (txt_dotted (d := d) hb)
    clear hb
    go_enter Tryz.func136, Tryz.ntmps136
    go_wp2_with fail
    refine (HD.out _).mono ?_
    rintro e w1 ⟨rfl, hb⟩
    have hr := range_below HN.out (by simp) hb
    obtain ⟨c0, c1⟩ := twoA hr
    have HB := Lib.hid (HA.out.trans (hb.mono HA.out.size))
    clear hb hr
    go_wp2_with fail
    go_ret
    exact ⟨by rw [← HX.out]; rfl, HB.out⟩
theorem pl_nat (c : UInt8) : pl c = (decide (32 ≤ c.toNat) && decide (c.toNat ≤ 126)) := by
  unfold pl
  rw [Bool.eq_iff_iff]
  simp
theorem big_eq (l d : ByteArray) : bigB (bl l) (bl d) = (!(domC (bl d) == 0) || (decide (64 < l.size) || decide (254 < (ba (textL ⟨bl l, bl d⟩)).size))) := by
  unfold bigB
  rw [bl_len, ba_size (textL ⟨bl l, bl d⟩), textlen (bl l) (bl d) (foldL (bl d)) (foldL_len _)]
def WhyP (l d : ByteArray) (w : World) (e : Ending) (w' : World) : Prop := e = .returned (.int .i64 (whyC (bl l) (bl d))) ∧ Below w.heap.size w w'
theorem why_form {l d : List UInt8} (h : formB l d = true) : whyC l d = 130 := by unfold whyC; rw [if_pos h]
theorem why_big {l d : List UInt8} (h : formB l d = false) (h2 : bigB l d = true) : whyC l d = 2 := by unfold whyC; rw [h, if_neg (by decide), if_pos h2]
theorem why_good {l d : List UInt8} (h : formB l d = false) (h2 : bigB l d = false) : whyC l d = 0 := by unfold whyC; rw [h, h2]; rfl
theorem WhyP.of {l d : ByteArray} {w w' : World} {c : Nat} (h : whyC (bl l) (bl d) = c) (hb : Below w.heap.size w w') : WhyP l d w (.returned (.int .i64 c)) w' := by
  subst h
  exact ⟨rfl, hb⟩
set_option maxRecDepth 100000 in
set_option maxHeartbeats 4000000 in
theorem refWhy_any (l d : ByteArray) (w : World) (hl : l.size ≤ 100000) (hd : d.size ≤ 100000) :
    Calls Tryz.prog 106 #[adB l d] w (WhyP l d w) := by
  have HD := Lib.hid (fun W => refDomain_any d W (by omega))
  have HT := Lib.hid (fun W => refText_any l d W (by omega) (by omega))
  have HN := Lib.hid (new_boxA w arT l d)
  have HA : Hid (Below w.heap.size w (w.alloc (boxA arT l d))) := Lib.hid ((Below.refl _ _).alloc (Nat.le_refl _) _)
  have he := empty_any l
  have HF : Hid (formB (bl l) (bl d) = ((bl l).isEmpty || (!((bl l).all pl) || domC (bl d) == 130))) := Lib.hid rfl
  by_cases h3 : domC (bl d) = 130
  · have HX := Lib.hid (why_form (l := bl l) (d := bl d) (by rw [HF.out, h3]; simp))
    have HE := Lib.hid h3
    clear HF h3
    go_enter Tryz.func106, Tryz.ntmps106
    go_wp2_with fail
    refine (HD.out _).mono ?_
    rintro e w1 ⟨rfl, hb⟩
    have HB1 := Lib.hid (HA.out.trans (hb.mono HA.out.size))
    rw [HE.out]
    clear hb
    go_wp2_with fail
    go_ret
    exact WhyP.of (c := 130) HX.out HB1.out
  · have t3 : ((domC (bl d) : Int) == 130) = false := by rw [beq_eq_false_iff_ne]; omega
    have t3' : (domC (bl d) == 130) = false := by rw [beq_eq_false_iff_ne]; exact h3
    have HG := Lib.hid (big_eq l d)
    have hzt : (ba (textL ⟨bl l, bl d⟩)).size ≤ 400000 := by
      have := textL_le ⟨bl l, bl d⟩
      rw [ba_size]
      simp only [bl_len] at this
      omega
    rw [t3'] at HF
    clear t3'
    generalize ba (textL ⟨bl l, bl d⟩) = t at *
    generalize hdc : domC (bl d) = dc at *
    cases h1 : (bl l).isEmpty
    · rw [h1] at HF he
      go_enter Tryz.func106, Tryz.ntmps106
      go_wp2_with fail
      refine (HD.out _).mono ?_
      rintro e w1 ⟨rfl, hb⟩
      have HB1 := Lib.hid (HA.out.trans (hb.mono HA.out.size))
      have HR := Lib.hid (range_below HN.out (by simp) hb)
      have HZ : Hid (w.heap.size < w1.heap.size) := Lib.hid (by have := hb.size; simp at this; omega)
      obtain ⟨a0, a1⟩ := twoA HR.out
      rw [hdc]
      have HDC := Lib.hid h3
      clear hb hdc h1 h3
      go_wp2_with fail
      go_loopw [5] (fun i wr => ∃ k : Nat, k ≤ l.size ∧ i = .int .i64 k ∧ Hid (∀ c ∈ (bl l).take k, pl c = true) ∧ wr = w1) (fun i _ => l.size - (intOf i).toNat)
      case atStart => exact ⟨0, Nat.zero_le _, rfl, Lib.hid (by simp), rfl⟩
      case round =>
        obtain ⟨k, hk, rfl, hall, rfl⟩ := hrel
        by_cases hlt : k < l.size
        · have h8 : l[k].toNat < 256 := l[k].toNat_lt
          have hdc := drop_cons l k hlt
          have hbad : pl l[k] = false → Hid (whyC (bl l) (bl d) = 130) := fun h => Lib.hid (by
            refine why_form ?_
            rw [HF.out]
            have : (bl l).all pl = false := by
              rw [← Bool.not_eq_true, List.all_eq_true]
              intro ha
              have := ha l[k] (by
                have : l[k] ∈ (bl l).drop k := by rw [hdc]; simp
                exact List.mem_of_mem_drop this)
              rw [h] at this
              cases this
            rw [this]
            rfl)
          have hpn := pl_nat l[k]
          by_cases g1 : 32 ≤ l[k].toNat
          · have d1 : decide ((l[k].toNat : Int) < 32) = false := decide_eq_false (by omega)
            by_cases g2 : l[k].toNat ≤ 126
            · have d2 : decide ((126 : Int) < (l[k].toNat : Int)) = false := decide_eq_false (by omega)
              have HNX := Lib.hid (take_all hall.out hdc (by rw [hpn, decide_eq_true g1, decide_eq_true g2]; rfl))
              clear hdc hbad hpn g1 g2
              go_wp2_with fail
              go_roundw
              case rel => exact ⟨k + 1, by omega, by simp, HNX, trivial⟩
              case measure => simp [intOf]; omega
            · have d2 : decide ((126 : Int) < (l[k].toNat : Int)) = true := decide_eq_true (by omega)
              have HX := hbad (by rw [hpn, decide_eq_false g2]; simp)
              clear hdc hbad hpn g1 g2
              go_wp2_with fail
              go_ret
              exact WhyP.of (c := 130) HX.out HB1.out
          · have d1 : decide ((l[k].toNat : Int) < 32) = true := decide_eq_true (by omega)
            have HX := hbad (by rw [hpn, decide_eq_false g1]; rfl)
            clear hdc hbad hpn g1
            go_wp2_with fail
            go_ret
            exact WhyP.of (c := 130) HX.out HB1.out
        · have HFF : Hid (formB (bl l) (bl d) = false) := Lib.hid (by
            have h := hall.out
            rw [List.take_of_length_le (by rw [bl_len]; omega)] at h
            rw [HF.out, List.all_eq_true.2 h]
            rfl)
          clear hall
          by_cases g1 : dc = 0
          · subst g1
            have u1 : ((0 : Nat) == 0) = true := rfl
            by_cases g2 : 64 < l.size
            · have d2 : decide ((64 : Int) < (l.size : Int)) = true := decide_eq_true (by omega)
              have HX := Lib.hid (why_big HFF.out (by rw [HG.out, decide_eq_true g2]; simp))
              clear g2 u1
              go_wp2_with fail
              go_ret
              exact WhyP.of (c := 2) HX.out HB1.out
            · have d2 : decide ((64 : Int) < (l.size : Int)) = false := decide_eq_false (by omega)
              by_cases g3 : 254 < t.size
              · have d3 : decide ((254 : Int) < (t.size : Int)) = true := decide_eq_true (by omega)
                have HX := Lib.hid (why_big HFF.out (by rw [HG.out, decide_eq_true g3]; simp))
                clear g2 g3 u1
                go_wp2_with fail
                refine (HT.out _).mono ?_
                rintro e w2 ⟨rfl, hb⟩
                have HB2 := Lib.hid (HB1.out.trans (hb.mono HB1.out.size))
                clear hb
                go_wp2_with fail
                go_ret
                exact WhyP.of (c := 2) HX.out HB2.out
              · have d3 : decide ((254 : Int) < (t.size : Int)) = false := decide_eq_false (by omega)
                have HX := Lib.hid (why_good HFF.out (by rw [HG.out, decide_eq_false g3, decide_eq_false g2]; rfl))
                clear g2 g3 u1
                go_wp2_with fail
                refine (HT.out _).mono ?_
                rintro e w2 ⟨rfl, hb⟩
                have HB2 := Lib.hid (HB1.out.trans (hb.mono HB1.out.size))
                clear hb
                go_wp2_with fail
                go_ret
                exact WhyP.of (c := 0) HX.out HB2.out
          · have u1 : ((dc : Int) != 0) = true := by rw [bne_iff_ne]; omega
            have HX := Lib.hid (why_big HFF.out (by rw [HG.out, show (dc == 0) = false by rw [beq_eq_false_iff_ne]; exact g1]; rfl))
            clear g1
            go_wp2_with fail
            go_ret
            exact WhyP.of (c := 2) HX.out HB1.out
    · rw [h1] at HF he
      have HX := Lib.hid (why_form (l := bl l) (d := bl d) (by rw [HF.out]; rfl))
      clear HF h1
      go_enter Tryz.func106, Tryz.ntmps106
      go_wp2_with fail
      refine (HD.out _).mono ?_
      rintro e w1 ⟨rfl, hb⟩
      have HB1 := Lib.hid (HA.out.trans (hb.mono HA.out.size))
      obtain ⟨a0, a1⟩ := twoA (range_below HN.out (by simp) hb)
      rw [hdc]
      clear hb hdc
      go_wp2_with fail
      go_ret
      exact WhyP.of (c := 130) HX.out HB1.out
end Go.Proofs.YtegbkfloiiilfaaGreatDoor.Addr

/-
  Walk of the document's Of.
-/
namespace Go.Proofs.YtegbkfloiiilfaaGreatDoor.Addr
open Go Go.RowKit
open Go.Proofs.YtegbkfloiiilfaaGreatDoor.Lex
open Go.Proofs.YtegbkfloiiilfaaGreatDoor.Glyph (fd foldL foldL_foldL fold_any)

/-! The form of the tokens, place by place. -/
def tokOk (ok : Int → Bool) (j : Nat) (t : Tk) : Bool := if j % 2 = 1 then dotB t else ok t.kind
theorem joined_iff {ok : Int → Bool} : ∀ (L : List Tk) (i : Nat), joined ok i L = true ↔ (∀ j t, L[j]? = some t → tokOk ok (i + j) t = true) ∧ (i + L.length) % 2 = 1
  | [], i => by simp [joined]
  | x :: L, i => by
    rw [joined, Bool.and_eq_true, joined_iff L (i + 1)]
    constructor
    · rintro ⟨h1, h2, h3⟩
      refine ⟨fun j t hj => ?_, by rw [List.length_cons]; omega⟩
      cases j with
      | zero =>
        obtain rfl : x = t := by simpa using hj
        exact h1
      | succ j =>
        have := h2 j t (by simpa using hj)
        rwa [show i + 1 + j = i + (j + 1) by omega] at this
    · rintro ⟨h1, h2⟩
      refine ⟨h1 0 x rfl, fun j t hj => ?_, by rw [List.length_cons] at h2; omega⟩
      have := h1 (j + 1) t (by simpa using hj)
      rwa [show i + (j + 1) = i + 1 + j by omega] at this
/-- What is asked of the token at a place, the @ being at m. -/
def chk (m i : Nat) (t : Tk) : Bool := if i = m then true else if i < m then tokOk wordK i t else tokOk atomK (i - m - 1) t
theorem form_iff {T : List Tk} (hm : atN T < T.length) : formT T = true ↔ (∀ i t, T[i]? = some t → chk (atN T) i t = true) ∧ atN T % 2 = 1 ∧ (T.length - atN T - 1) % 2 = 1 := by
  unfold formT
  rw [decide_eq_true hm, Bool.true_and, Bool.and_eq_true, joined_iff, joined_iff]
  constructor
  · rintro ⟨⟨h1, h2⟩, h3, h4⟩
    rw [List.length_take] at h2
    rw [List.length_drop] at h4
    refine ⟨fun i t hi => ?_, by omega, by omega⟩
    unfold chk
    split
    · rfl
    · split
      · rename_i hne hlt
        have := h1 i t (by rw [List.getElem?_take, if_pos hlt]; exact hi)
        rwa [Nat.zero_add] at this
      · rename_i hne hlt
        have := h3 (i - atN T - 1) t (by rw [List.getElem?_drop, show atN T + 1 + (i - atN T - 1) = i by omega]; exact hi)
        rwa [Nat.zero_add] at this
  · rintro ⟨h1, h2, h3⟩
    refine ⟨⟨fun j t hj => ?_, by rw [List.length_take]; omega⟩, fun j t hj => ?_, by rw [List.length_drop]; omega⟩
    · rw [List.getElem?_take] at hj
      split at hj
      · rename_i hlt
        have := h1 j t hj
        unfold chk at this
        rw [if_neg (by omega), if_pos hlt] at this
        rwa [Nat.zero_add]
      · cases hj
    · rw [List.getElem?_drop] at hj
      have := h1 _ t hj
      unfold chk at this
      rw [if_neg (by omega), if_neg (by omega), show atN T + 1 + j - atN T - 1 = j by omega] at this
      rwa [Nat.zero_add]
theorem form_bad {T : List Tk} (hm : atN T < T.length) {i : Nat} {t : Tk} (hi : T[i]? = some t) (hc : chk (atN T) i t = false) : ofL T = (noAd, 130) := by
  refine of_no ?_
  rw [← Bool.not_eq_true, form_iff hm]
  rintro ⟨h, _⟩
  rw [h i t hi] at hc
  cases hc
/-- The document's at, so far. -/
def atK (T : List Tk) (k : Nat) : Int := if atN T < k then (atN T : Int) else -1
theorem at_le {T : List Tk} {k : Nat} {t : Tk} (hk : T[k]? = some t) (h : atB t = true) : atN T ≤ k := by
  obtain ⟨hl, rfl⟩ := List.getElem?_eq_some_iff.1 hk
  refine Nat.le_of_not_lt fun hlt => ?_
  have := List.not_of_lt_findIdx (p := atB) (xs := T) hlt
  exact absurd h (by simpa using this)
theorem at_ne {T : List Tk} {k : Nat} {t : Tk} (hk : T[k]? = some t) (h : atB t = false) : atN T ≠ k := by
  obtain ⟨hl, rfl⟩ := List.getElem?_eq_some_iff.1 hk
  intro e
  have hlt : T.findIdx atB < T.length := by
    have : T.findIdx atB = k := e
    omega
  have := List.findIdx_getElem (p := atB) (xs := T) (w := hlt)
  have e2 : T[T.findIdx atB]'hlt = T[k] := by
    have : T.findIdx atB = k := e
    simp [this]
  rw [e2, h] at this
  cases this
theorem atK_same {T : List Tk} {k : Nat} (h : atN T ≠ k) : atK T (k + 1) = atK T k := by
  unfold atK
  by_cases h1 : atN T < k
  · rw [if_pos h1, if_pos (by omega)]
  · rw [if_neg h1, if_neg (by omega)]
theorem atK_old {T : List Tk} {k : Nat} (h : atN T < k) : atK T (k + 1) = atN T ∧ atK T k = atN T := by
  unfold atK
  exact ⟨if_pos (by omega), if_pos h⟩
theorem atK_new {T : List Tk} {k : Nat} (h : atN T = k) : atK T (k + 1) = k ∧ atK T k = -1 := by
  unfold atK
  exact ⟨by rw [if_pos (by omega), h], if_neg (by omega)⟩
theorem text_at (t : Tk) : (bl t.text == [64]) = (t.text.toList == [64]) := by rw [Lib.toList_data]
theorem text_dot (t : Tk) : (bl t.text == [46]) = (t.text.toList == [46]) := by rw [Lib.toList_data]
theorem atB_eq (t : Tk) : atB t = ((t.kind == 3) && (t.text.toList == [64])) := by
  unfold atB
  rw [text_at]
  congr 1
theorem dotB_eq (t : Tk) : dotB t = ((t.kind == 3) && (t.text.toList == [46])) := by
  unfold dotB
  rw [text_dot]
  congr 1
/-- The address so far, in its box; the result's box. -/
structure OfAt (w : World) (b : Nat) (T : List Tk) (m i : Nat) (L D : ByteArray) (wr : World) : Prop where
  own : Lies wr b #[.string L, .string D] arT
  res : Lies wr w.heap.size #[.string ⟨#[]⟩, .string ⟨#[]⟩] arT
  low : w.heap.size < b
  below : Below w.heap.size w wr
  hl : bl L = textsL (T.take (min i m))
  hd : bl D = textsL ((T.take i).drop (m + 1))
  ok : ∀ j t, j < i → T[j]? = some t → chk m j t = true
theorem ok_next {T : List Tk} {m i : Nat} {t : Tk} (h : ∀ j t, j < i → T[j]? = some t → chk m j t = true) (ht : T[i]? = some t) (hc : chk m i t = true) : ∀ j t, j < i + 1 → T[j]? = some t → chk m j t = true := by
  intro j u hj hu
  by_cases e : j = i
  · subst e
    obtain rfl : t = u := by rw [ht] at hu; exact Option.some.inj hu
    exact hc
  · exact h j u (by omega) hu
theorem textsL_snoc (L : List Tk) (t : Tk) : textsL (L ++ [t]) = textsL L ++ bl t.text := by simp [textsL]
theorem bl_app (a b : ByteArray) : bl (a ++ b) = bl a ++ bl b := by
  rw [← ba_bl a, ← ba_bl b, ba_cat, bl_ba, bl_ba, bl_ba]
section
variable {w wr : World} {b m i : Nat} {T : List Tk} {L D : ByteArray} {t : Tk}
theorem OfAt.skip (h : OfAt w b T m i L D wr) (ht : T[i]? = some t) (hi : i = m) (o : Obj) : OfAt w b T m (i + 1) L D (wr.alloc o) := by
  have hlt := (List.getElem?_eq_some_iff.1 ht).1
  have hbb : Below wr.heap.size wr (wr.alloc o) := (Below.refl _ _).alloc (Nat.le_refl _) _
  refine ⟨h.own.same (hbb.block _ h.own.lt), h.res.same (hbb.block _ h.res.lt), h.low, h.below.trans (hbb.mono h.below.size), ?_, ?_, ok_next h.ok ht (by unfold chk; rw [if_pos hi])⟩
  · rw [h.hl, show min (i + 1) m = min i m by omega]
  · rw [h.hd, List.drop_eq_nil_of_le (by rw [List.length_take]; omega), List.drop_eq_nil_of_le (by rw [List.length_take]; omega)]
theorem OfAt.loc (h : OfAt w b T m i L D wr) (ht : T[i]? = some t) (hi : i < m) (hc : chk m i t = true) (o : Obj) : OfAt w b T m (i + 1) (L ++ t.text) D ((wr.alloc o).setCell ⟨b, 0, none⟩ (.string (L ++ t.text))) := by
  have hlt := (List.getElem?_eq_some_iff.1 ht).1
  have hbb : Below wr.heap.size wr (wr.alloc o) := (Below.refl _ _).alloc (Nat.le_refl _) _
  have hb2 := h.below.trans (hbb.mono h.below.size)
  refine ⟨(h.own.same (hbb.block _ h.own.lt)).set 0 _, (h.res.same (hbb.block _ h.res.lt)).other _ (by have := h.low; omega), h.low, hb2.setCell (Nat.le_of_lt h.low) _, ?_, ?_, ok_next h.ok ht hc⟩
  · rw [bl_app, h.hl, show min (i + 1) m = i + 1 by omega, show min i m = i by omega, List.take_add_one, ht]
    exact (textsL_snoc _ t).symm
  · rw [h.hd, List.drop_eq_nil_of_le (by rw [List.length_take]; omega), List.drop_eq_nil_of_le (by rw [List.length_take]; omega)]
theorem OfAt.dom (h : OfAt w b T m i L D wr) (ht : T[i]? = some t) (hi : m < i) (hc : chk m i t = true) (o : Obj) : OfAt w b T m (i + 1) L (D ++ t.text) ((wr.alloc o).setCell ⟨b, 1, none⟩ (.string (D ++ t.text))) := by
  have hlt := (List.getElem?_eq_some_iff.1 ht).1
  have hbb : Below wr.heap.size wr (wr.alloc o) := (Below.refl _ _).alloc (Nat.le_refl _) _
  have hb2 := h.below.trans (hbb.mono h.below.size)
  refine ⟨(h.own.same (hbb.block _ h.own.lt)).set 1 _, (h.res.same (hbb.block _ h.res.lt)).other _ (by have := h.low; omega), h.low, hb2.setCell (Nat.le_of_lt h.low) _, ?_, ?_, ok_next h.ok ht hc⟩
  · rw [h.hl, show min (i + 1) m = min i m by omega]
  · rw [bl_app, h.hd, List.take_add_one, ht]
    have e : (T.take i ++ [t]).drop (m + 1) = (T.take i).drop (m + 1) ++ [t] := by
      rw [List.drop_append_of_le_length (by rw [List.length_take]; omega)]
    show _ = textsL ((T.take i ++ [t]).drop (m + 1))
    rw [e, textsL_snoc]
end
end Go.Proofs.YtegbkfloiiilfaaGreatDoor.Addr

/-
  Walks of the document's Of, Parse, Strict.
-/
namespace Go.Proofs.YtegbkfloiiilfaaGreatDoor.Addr
open Go Go.RowKit
open Go.Proofs.YtegbkfloiiilfaaGreatDoor.Lex
open Go.Proofs.YtegbkfloiiilfaaGreatDoor.Glyph (fd foldL foldL_foldL fold_any)
open Go.Proofs.YtegbkfloiiilfaaGreatDoor.Sha (Kept wp_region_kept wp_region_kept_tail quiet_load_row)

theorem of_start (w : World) (T : List Tk) (m : Nat) : OfAt w (w.heap.size + 1) T m 0 ⟨#[]⟩ ⟨#[]⟩ ((w.alloc (boxA arT ⟨#[]⟩ ⟨#[]⟩)).alloc (boxA arT ⟨#[]⟩ ⟨#[]⟩)) := by
  have hw1 : (w.alloc (boxA arT ⟨#[]⟩ ⟨#[]⟩)).heap.size = w.heap.size + 1 := by simp
  refine ⟨?_, (Lies.new w _ _).same (Below.heap_alloc _ _ _ (by simp)), by omega, ((Below.refl _ _).alloc (Nat.le_refl _) _).alloc (by rw [hw1]; omega) _, by simp [textsL], by simp [textsL], fun j t hj => by omega⟩
  have h := Lies.new (w.alloc (boxA arT ⟨#[]⟩ ⟨#[]⟩)) #[.string ⟨#[]⟩, .string ⟨#[]⟩] arT
  rwa [hw1] at h
def KindOk (T : List Tk) : Prop := ∀ t ∈ T, t.kind = 1 ∨ t.kind = 2 ∨ t.kind = 3
theorem word_ok {k : Int} (h : k = 1 ∨ k = 2 ∨ k = 3) (h3 : (k == 3) = false) : wordK k = true := by
  rw [beq_eq_false_iff_ne] at h3
  unfold wordK
  rcases h with rfl | rfl | rfl
  · rfl
  · rfl
  · exact absurd rfl h3
theorem word_no {k : Int} (h3 : (k == 3) = true) : wordK k = false := by
  rw [beq_iff_eq] at h3
  subst h3; rfl
theorem atom_ok {k : Int} (h : (k != 1) = false) : atomK k = true := by
  have : k = 1 := by simpa using h
  subst this; rfl
theorem atom_no {k : Int} (h : (k != 1) = true) : atomK k = false := by
  have : k ≠ 1 := by simpa using h
  unfold atomK
  simp [this]
theorem atom_no3 {k : Int} (h3 : (k == 3) = true) : atomK k = false := by
  rw [beq_iff_eq] at h3
  subst h3; rfl
set_option maxRecDepth 100000 in
set_option maxHeartbeats 8000000 in
theorem refOf_any (v : Value) (T : List Tk) (w : World) (hv : ReadsT w v T) (hl : T.length ≤ 10000) (hc : cost T ≤ 50000) (hkd : KindOk T) :
    Calls Tryz.prog 82 #[v] w (AdPost (ofL T) w) := by
  obtain ⟨va, vc, rfl⟩ := hv.shape
  obtain ⟨n, hn⟩ : ∃ n, n = T.length := ⟨_, rfl⟩
  rw [← hn] at hv hl ⊢
  have HV := Lib.hid (fun k a ha => hv.at_ k a ha)
  have HNN := Lib.hid hn
  have HKD := Lib.hid hkd
  have HR0 := Lib.hid (Res.start w arT)
  clear hv hn hkd
  go_enter Tryz.func82, Tryz.ntmps82
  go_wp2_with fail
  go_loopw [4, 5] (fun at_ i wr => ∃ k : Nat, k ≤ n ∧ i = .int .i64 k ∧ at_ = .int .i64 (atK T k) ∧ wr = w.alloc (boxA arT ⟨#[]⟩ ⟨#[]⟩)) (fun _ i _ => n - (intOf i).toNat)
  case atStart => exact ⟨0, Nat.zero_le _, rfl, rfl, rfl⟩
  case round =>
    obtain ⟨k, hk, rfl, rfl, rfl⟩ := hrel
    by_cases hlt : k < n
    · obtain ⟨t, ht⟩ : ∃ a, T[k]? = some a := ⟨T[k]'(by have := HNN.out; omega), List.getElem?_eq_getElem _⟩
      obtain ⟨b1, o1, rfl, hb1, r1⟩ := HV.out k t ht
      obtain ⟨c0, c1⟩ := two (range_below r1 hb1 HR0.out.below)
      have hab := atB_eq t
      cases q1 : (t.kind == 3)
      · have HS := Lib.hid (atK_same (at_ne ht (by rw [hab, q1]; rfl)))
        clear ht r1 hab
        generalize atK T k = av at *
        go_wp2_with fail
        go_roundw
        case rel => exact ⟨k + 1, by omega, by simp, by rw [HS.out], trivial⟩
        case measure => simp [intOf]; omega
      · cases q2 : (t.text.toList == [64])
        · have HS := Lib.hid (atK_same (at_ne ht (by rw [hab, q1, q2]; rfl)))
          clear ht r1 hab
          generalize atK T k = av at *
          go_wp2_with fail
          go_roundw
          case rel => exact ⟨k + 1, by omega, by simp, by rw [HS.out], trivial⟩
          case measure => simp [intOf]; omega
        · have hle := at_le ht (by rw [hab, q1, q2]; rfl)
          by_cases he : atN T = k
          · obtain ⟨e1, e2⟩ := atK_new he
            have HS := Lib.hid e1
            rw [e2]
            clear ht r1 hab hle he e1 e2
            go_wp2_with fail
            go_roundw
            case rel => exact ⟨k + 1, by omega, by simp, by rw [HS.out], trivial⟩
            case measure => simp [intOf]; omega
          · obtain ⟨e1, e2⟩ := atK_old (T := T) (k := k) (by omega)
            have HS := Lib.hid e1
            rw [e2]
            have h0 : decide (((atN T : Nat) : Int) < 0) = false := decide_eq_false (by omega)
            clear ht r1 hab hle he e1 e2
            generalize atN T = m at *
            go_wp2_with fail
            go_roundw
            case rel => exact ⟨k + 1, by omega, by simp, by rw [HS.out], trivial⟩
            case measure => simp [intOf]; omega
    · obtain rfl : k = n := by omega
      by_cases hat : atN T < k
      · have HM : Hid (atK T k = atN T) := Lib.hid (by unfold atK; rw [if_pos hat])
        rw [HM.out]
        have hatT : atN T < T.length := by rw [← HNN.out]; exact hat
        have HBAD := Lib.hid (fun i t (hi : T[i]? = some t) hc => form_bad hatT (i := i) (t := t) hi hc)
        have HFI := Lib.hid (form_iff hatT)
        have HOY := Lib.hid (fun h => of_yes (T := T) h)
        have HON := Lib.hid (fun h => of_no (T := T) h)
        have h0 : decide (((atN T : Nat) : Int) < 0) = false := decide_eq_false (by omega)
        clear HM hatT
        generalize hm : atN T = m at *
        clear hm
        have HST : Hid (OfAt w (w.heap.size + 1) T m 0 ⟨#[]⟩ ⟨#[]⟩ ((w.alloc (boxA arT ⟨#[]⟩ ⟨#[]⟩)).alloc (boxA arT ⟨#[]⟩ ⟨#[]⟩))) := Lib.hid (of_start w T m)
        go_wp2_with fail
        go_loopw [7] (fun i_ wr => ∃ (i : Nat) (L D : ByteArray), i ≤ k ∧ i_ = .int .i64 i ∧ Hid (OfAt w (w.heap.size + 1) T m i L D wr)) (fun i_ _ => k - (intOf i_).toNat)
        case atStart => exact ⟨0, _, _, Nat.zero_le _, rfl, HST⟩
        case round =>
          clear HST
          obtain ⟨i, L, D, hik, rfl, hI⟩ := hrel
          have hzL : L.size ≤ 50000 := by
            rw [← bl_len, hI.out.hl]
            exact Nat.le_trans (texts_le _) (Nat.le_trans (costT_le T _) hc)
          have hzD : D.size ≤ 50000 := by
            rw [← bl_len, hI.out.hd]
            exact Nat.le_trans (texts_le _) (Nat.le_trans (cost_drop _ _) (Nat.le_trans (costT_le T _) hc))
          by_cases hlt2 : i < k
          · obtain ⟨t, ht⟩ : ∃ a, T[i]? = some a := ⟨T[i]'(by have := HNN.out; omega), List.getElem?_eq_getElem _⟩
            have hzt : t.text.size ≤ 50000 := Nat.le_trans (mem_cost (List.mem_of_getElem? ht)) hc
            have hkd := HKD.out t (List.mem_of_getElem? ht)
            obtain ⟨b1, o1, rfl, hb1, r1⟩ := HV.out i t ht
            obtain ⟨d0, d1⟩ := two (range_below r1 hb1 hI.out.below)
            clear r1
            rcases (by omega : i = m ∨ i < m ∨ m < i) with hi | hi | hi
            · have HNX := Lib.hid (hI.out.skip ht hi (boxT rfT t))
              have t1 : ((i : Int) != m) = false := by rw [hi]; simp
              have t2 : decide ((m : Int) < (i : Int)) = false := decide_eq_false (by omega)
              have t2n : decide (m < i) = false := decide_eq_false (by omega)
              have t3 : decide ((i : Int) < (m : Int)) = false := decide_eq_false (by omega)
              have t3n : decide (i < m) = false := decide_eq_false (by omega)
              clear ht HBAD HFI HOY HON hI hi
              go_wp2_with fail
              go_roundw
              case rel => exact ⟨i + 1, _, _, by omega, by simp, HNX⟩
              case measure => simp [intOf]; omega
            · have t1 : ((i : Int) != m) = true := by rw [bne_iff_ne]; omega
              have t2 : decide ((m : Int) < (i : Int)) = false := decide_eq_false (by omega)
              have t2n : decide (m < i) = false := decide_eq_false (by omega)
              have t3 : decide ((i : Int) < (m : Int)) = true := decide_eq_true (by omega)
              have t3n : decide (i < m) = true := decide_eq_true (by omega)
              have hck : chk m i t = tokOk wordK i t := by unfold chk; rw [if_neg (by omega), if_pos hi]
              by_cases h2 : i % 2 = 1
              · have hm := rem_odd h2
                have hck2 : chk m i t = dotB t := by rw [hck]; unfold tokOk; rw [if_pos h2]
                rw [dotB_eq] at hck2
                clear h2 hck
                cases q1 : (t.kind == 3)
                · have q1n : (t.kind != 3) = true := by rw [bne, q1]; rfl
                  rw [q1] at hck2
                  have HX := Lib.hid (HBAD.out i t ht hck2)
                  have HRS := Lib.hid (hI.out.res.same (w' := wr.alloc (boxT rfT t)) (((Below.refl wr.heap.size wr).alloc (Nat.le_refl _) (boxT rfT t)).block _ hI.out.res.lt))
                  have HBL : Hid (Below w.heap.size w (wr.alloc (boxT rfT t))) := Lib.hid (hI.out.below.alloc hI.out.below.size _)
                  have c0 := HRS.out.cell 0
                  have c1 := HRS.out.cell 1
                  have f0 := HRS.out.free 0
                  have f1 := HRS.out.free 1
                  clear ht HBAD HFI HOY HON hI
                  go_wp2_with fail
                  have hl2 := lies_fill2 HRS.out (.string ⟨#[]⟩) (.string ⟨#[]⟩)
                  have hb2 := below_fill2 HBL.out (Nat.le_refl _) (.string ⟨#[]⟩) (.string ⟨#[]⟩)
                  exact bodyPost_ret (v := .tuple #[adB ⟨#[]⟩ ⟨#[]⟩, .int .i64 130]) (results_ad2 Tryz.results82 _ _ w.heap.size arT _ (0, 0) _ rfl hl2 Tryz.underlying49 rfl sizeAR) rfl (AdPost.no (c := 130) HX.out hb2)
                · have q1n : (t.kind != 3) = false := by rw [bne, q1]; rfl
                  cases q2 : (t.text.toList == [46])
                  · rw [q1, q2] at hck2
                    have HX := Lib.hid (HBAD.out i t ht hck2)
                    have HRS := Lib.hid (hI.out.res.same (w' := wr.alloc (boxT rfT t)) (((Below.refl wr.heap.size wr).alloc (Nat.le_refl _) (boxT rfT t)).block _ hI.out.res.lt))
                    have HBL : Hid (Below w.heap.size w (wr.alloc (boxT rfT t))) := Lib.hid (hI.out.below.alloc hI.out.below.size _)
                    have c0 := HRS.out.cell 0
                    have c1 := HRS.out.cell 1
                    have f0 := HRS.out.free 0
                    have f1 := HRS.out.free 1
                    clear ht HBAD HFI HOY HON hI
                    go_wp2_with fail
                    have hl2 := lies_fill2 HRS.out (.string ⟨#[]⟩) (.string ⟨#[]⟩)
                    have hb2 := below_fill2 HBL.out (Nat.le_refl _) (.string ⟨#[]⟩) (.string ⟨#[]⟩)
                    exact bodyPost_ret (v := .tuple #[adB ⟨#[]⟩ ⟨#[]⟩, .int .i64 130]) (results_ad2 Tryz.results82 _ _ w.heap.size arT _ (0, 0) _ rfl hl2 Tryz.underlying49 rfl sizeAR) rfl (AdPost.no (c := 130) HX.out hb2)
                  · rw [q1, q2] at hck2
                    have HNX := Lib.hid (hI.out.loc ht hi hck2 (boxT rfT t))
                    have HOW := Lib.hid (hI.out.own.same (w' := wr.alloc (boxT rfT t)) (((Below.refl wr.heap.size wr).alloc (Nat.le_refl _) (boxT rfT t)).block _ hI.out.own.lt))
                    have c0 := HOW.out.cell 0
                    have c1 := HOW.out.cell 1
                    have f0 := HOW.out.free 0
                    have f1 := HOW.out.free 1
                    have hzz : L.size + t.text.size ≤ 1000000 := by omega
                    clear ht HBAD HFI HOY HON hI
                    go_wp2_with fail
                    go_roundw
                    case rel => exact ⟨i + 1, _, _, by omega, by simp, HNX⟩
                    case measure => simp [intOf]; omega
              · have hm := rem_even h2
                have hck2 : chk m i t = wordK t.kind := by rw [hck]; unfold tokOk; rw [if_neg h2]
                clear h2 hck
                cases q1 : (t.kind == 3)
                · have hck3 : chk m i t = true := by rw [hck2]; exact word_ok hkd q1
                  have q1n : (t.kind != 3) = true := by rw [bne, q1]; rfl
                  have HNX := Lib.hid (hI.out.loc ht hi hck3 (boxT rfT t))
                  have HOW := Lib.hid (hI.out.own.same (w' := wr.alloc (boxT rfT t)) (((Below.refl wr.heap.size wr).alloc (Nat.le_refl _) (boxT rfT t)).block _ hI.out.own.lt))
                  have c0 := HOW.out.cell 0
                  have c1 := HOW.out.cell 1
                  have f0 := HOW.out.free 0
                  have f1 := HOW.out.free 1
                  have hzz : L.size + t.text.size ≤ 1000000 := by omega
                  clear ht HBAD HFI HOY HON hI
                  go_wp2_with fail
                  go_roundw
                  case rel => exact ⟨i + 1, _, _, by omega, by simp, HNX⟩
                  case measure => simp [intOf]; omega
                · have hck3 : chk m i t = false := by rw [hck2]; exact word_no q1
                  have q1n : (t.kind != 3) = false := by rw [bne, q1]; rfl
                  have HX := Lib.hid (HBAD.out i t ht hck3)
                  have HRS := Lib.hid (hI.out.res.same (w' := wr.alloc (boxT rfT t)) (((Below.refl wr.heap.size wr).alloc (Nat.le_refl _) (boxT rfT t)).block _ hI.out.res.lt))
                  have HBL : Hid (Below w.heap.size w (wr.alloc (boxT rfT t))) := Lib.hid (hI.out.below.alloc hI.out.below.size _)
                  have c0 := HRS.out.cell 0
                  have c1 := HRS.out.cell 1
                  have f0 := HRS.out.free 0
                  have f1 := HRS.out.free 1
                  clear ht HBAD HFI HOY HON hI
                  go_wp2_with fail
                  have hl2 := lies_fill2 HRS.out (.string ⟨#[]⟩) (.string ⟨#[]⟩)
                  have hb2 := below_fill2 HBL.out (Nat.le_refl _) (.string ⟨#[]⟩) (.string ⟨#[]⟩)
                  exact bodyPost_ret (v := .tuple #[adB ⟨#[]⟩ ⟨#[]⟩, .int .i64 130]) (results_ad2 Tryz.results82 _ _ w.heap.size arT _ (0, 0) _ rfl hl2 Tryz.underlying49 rfl sizeAR) rfl (AdPost.no (c := 130) HX.out hb2)
            · have t1 : ((i : Int) != m) = true := by rw [bne_iff_ne]; omega
              have t2 : decide ((m : Int) < (i : Int)) = true := decide_eq_true (by omega)
              have t2n : decide (m < i) = true := decide_eq_true (by omega)
              have t3 : decide ((i : Int) < (m : Int)) = false := decide_eq_false (by omega)
              have t3n : decide (i < m) = false := decide_eq_false (by omega)
              have hck : chk m i t = tokOk atomK (i - m - 1) t := by unfold chk; rw [if_neg (by omega), if_neg (by omega)]
              obtain ⟨j, hj⟩ : ∃ j, i = m + 1 + j := ⟨i - m - 1, by omega⟩
              rw [show i - m - 1 = j by omega] at hck
              have hjj : (i : Int) - (m : Int) - 1 = (j : Int) := by omega
              clear hj
              by_cases h2 : j % 2 = 1
              · have hm := rem_odd h2
                have hck2 : chk m i t = dotB t := by rw [hck]; unfold tokOk; rw [if_pos h2]
                rw [dotB_eq] at hck2
                clear h2 hck
                cases q1 : (t.kind == 3)
                · have q1n : (t.kind != 3) = true := by rw [bne, q1]; rfl
                  rw [q1] at hck2
                  have HX := Lib.hid (HBAD.out i t ht hck2)
                  have HRS := Lib.hid (hI.out.res.same (w' := wr.alloc (boxT rfT t)) (((Below.refl wr.heap.size wr).alloc (Nat.le_refl _) (boxT rfT t)).block _ hI.out.res.lt))
                  have HBL : Hid (Below w.heap.size w (wr.alloc (boxT rfT t))) := Lib.hid (hI.out.below.alloc hI.out.below.size _)
                  have c0 := HRS.out.cell 0
                  have c1 := HRS.out.cell 1
                  have f0 := HRS.out.free 0
                  have f1 := HRS.out.free 1
                  clear ht HBAD HFI HOY HON hI
                  go_wp2_with fail
                  have hl2 := lies_fill2 HRS.out (.string ⟨#[]⟩) (.string ⟨#[]⟩)
                  have hb2 := below_fill2 HBL.out (Nat.le_refl _) (.string ⟨#[]⟩) (.string ⟨#[]⟩)
                  exact bodyPost_ret (v := .tuple #[adB ⟨#[]⟩ ⟨#[]⟩, .int .i64 130]) (results_ad2 Tryz.results82 _ _ w.heap.size arT _ (0, 0) _ rfl hl2 Tryz.underlying49 rfl sizeAR) rfl (AdPost.no (c := 130) HX.out hb2)
                · have q1n : (t.kind != 3) = false := by rw [bne, q1]; rfl
                  cases q2 : (t.text.toList == [46])
                  · rw [q1, q2] at hck2
                    have HX := Lib.hid (HBAD.out i t ht hck2)
                    have HRS := Lib.hid (hI.out.res.same (w' := wr.alloc (boxT rfT t)) (((Below.refl wr.heap.size wr).alloc (Nat.le_refl _) (boxT rfT t)).block _ hI.out.res.lt))
                    have HBL : Hid (Below w.heap.size w (wr.alloc (boxT rfT t))) := Lib.hid (hI.out.below.alloc hI.out.below.size _)
                    have c0 := HRS.out.cell 0
                    have c1 := HRS.out.cell 1
                    have f0 := HRS.out.free 0
                    have f1 := HRS.out.free 1
                    clear ht HBAD HFI HOY HON hI
                    go_wp2_with fail
                    have hl2 := lies_fill2 HRS.out (.string ⟨#[]⟩) (.string ⟨#[]⟩)
                    have hb2 := below_fill2 HBL.out (Nat.le_refl _) (.string ⟨#[]⟩) (.string ⟨#[]⟩)
                    exact bodyPost_ret (v := .tuple #[adB ⟨#[]⟩ ⟨#[]⟩, .int .i64 130]) (results_ad2 Tryz.results82 _ _ w.heap.size arT _ (0, 0) _ rfl hl2 Tryz.underlying49 rfl sizeAR) rfl (AdPost.no (c := 130) HX.out hb2)
                  · rw [q1, q2] at hck2
                    have HNX := Lib.hid (hI.out.dom ht hi hck2 (boxT rfT t))
                    have HOW := Lib.hid (hI.out.own.same (w' := wr.alloc (boxT rfT t)) (((Below.refl wr.heap.size wr).alloc (Nat.le_refl _) (boxT rfT t)).block _ hI.out.own.lt))
                    have c0 := HOW.out.cell 0
                    have c1 := HOW.out.cell 1
                    have f0 := HOW.out.free 0
                    have f1 := HOW.out.free 1
                    have hzz : D.size + t.text.size ≤ 1000000 := by omega
                    clear ht HBAD HFI HOY HON hI
                    go_wp2_with fail
                    go_roundw
                    case rel => exact ⟨i + 1, _, _, by omega, by simp, HNX⟩
                    case measure => simp [intOf]; omega
              · have hm := rem_even h2
                have hck2 : chk m i t = atomK t.kind := by rw [hck]; unfold tokOk; rw [if_neg h2]
                clear h2 hck
                cases q1 : (t.kind == 3)
                · have q1n : (t.kind != 3) = true := by rw [bne, q1]; rfl
                  cases q3 : (t.kind != 1)
                  · have hck3 : chk m i t = true := by rw [hck2]; exact atom_ok q3
                    have HNX := Lib.hid (hI.out.dom ht hi hck3 (boxT rfT t))
                    have HOW := Lib.hid (hI.out.own.same (w' := wr.alloc (boxT rfT t)) (((Below.refl wr.heap.size wr).alloc (Nat.le_refl _) (boxT rfT t)).block _ hI.out.own.lt))
                    have c0 := HOW.out.cell 0
                    have c1 := HOW.out.cell 1
                    have f0 := HOW.out.free 0
                    have f1 := HOW.out.free 1
                    have hzz : D.size + t.text.size ≤ 1000000 := by omega
                    clear ht HBAD HFI HOY HON hI
                    go_wp2_with fail
                    go_roundw
                    case rel => exact ⟨i + 1, _, _, by omega, by simp, HNX⟩
                    case measure => simp [intOf]; omega
                  · have hck3 : chk m i t = false := by rw [hck2]; exact atom_no q3
                    have HX := Lib.hid (HBAD.out i t ht hck3)
                    have HRS := Lib.hid (hI.out.res.same (w' := wr.alloc (boxT rfT t)) (((Below.refl wr.heap.size wr).alloc (Nat.le_refl _) (boxT rfT t)).block _ hI.out.res.lt))
                    have HBL : Hid (Below w.heap.size w (wr.alloc (boxT rfT t))) := Lib.hid (hI.out.below.alloc hI.out.below.size _)
                    have c0 := HRS.out.cell 0
                    have c1 := HRS.out.cell 1
                    have f0 := HRS.out.free 0
                    have f1 := HRS.out.free 1
                    clear ht HBAD HFI HOY HON hI
                    go_wp2_with fail
                    have hl2 := lies_fill2 HRS.out (.string ⟨#[]⟩) (.string ⟨#[]⟩)
                    have hb2 := below_fill2 HBL.out (Nat.le_refl _) (.string ⟨#[]⟩) (.string ⟨#[]⟩)
                    exact bodyPost_ret (v := .tuple #[adB ⟨#[]⟩ ⟨#[]⟩, .int .i64 130]) (results_ad2 Tryz.results82 _ _ w.heap.size arT _ (0, 0) _ rfl hl2 Tryz.underlying49 rfl sizeAR) rfl (AdPost.no (c := 130) HX.out hb2)
                · have hck3 : chk m i t = false := by rw [hck2]; exact atom_no3 q1
                  have q1n : (t.kind != 3) = false := by rw [bne, q1]; rfl
                  have HX := Lib.hid (HBAD.out i t ht hck3)
                  have HRS := Lib.hid (hI.out.res.same (w' := wr.alloc (boxT rfT t)) (((Below.refl wr.heap.size wr).alloc (Nat.le_refl _) (boxT rfT t)).block _ hI.out.res.lt))
                  have HBL : Hid (Below w.heap.size w (wr.alloc (boxT rfT t))) := Lib.hid (hI.out.below.alloc hI.out.below.size _)
                  have c0 := HRS.out.cell 0
                  have c1 := HRS.out.cell 1
                  have f0 := HRS.out.free 0
                  have f1 := HRS.out.free 1
                  clear ht HBAD HFI HOY HON hI
                  go_wp2_with fail
                  have hl2 := lies_fill2 HRS.out (.string ⟨#[]⟩) (.string ⟨#[]⟩)
                  have hb2 := below_fill2 HBL.out (Nat.le_refl _) (.string ⟨#[]⟩) (.string ⟨#[]⟩)
                  exact bodyPost_ret (v := .tuple #[adB ⟨#[]⟩ ⟨#[]⟩, .int .i64 130]) (results_ad2 Tryz.results82 _ _ w.heap.size arT _ (0, 0) _ rfl hl2 Tryz.underlying49 rfl sizeAR) rfl (AdPost.no (c := 130) HX.out hb2)
          · obtain rfl : i = k := by omega
            have hTi : T.take i = T := List.take_of_length_le (by have := HNN.out; omega)
            have HLD : Hid (bl L = textsL (T.take m) ∧ bl D = textsL (T.drop (m + 1))) := Lib.hid ⟨by rw [hI.out.hl, show min i m = m by omega], by rw [hI.out.hd, hTi]⟩
            have HOK : Hid (∀ j t, T[j]? = some t → chk m j t = true) := Lib.hid (fun j t hj => hI.out.ok j t (by have := (List.getElem?_eq_some_iff.1 hj).1; have := HNN.out; omega) hj)
            have HFO : Hid (formT T = true ↔ (m % 2 = 1 ∧ (i - m - 1) % 2 = 1)) := Lib.hid (by
              rw [HFI.out, ← HNN.out]
              exact ⟨fun h => h.2, fun h => ⟨HOK.out, h⟩⟩)
            have HRS := Lib.hid (And.intro hI.out.res hI.out.below)
            have HOW := Lib.hid (And.intro hI.out.own (And.intro hI.out.low (And.intro hI.out.own.lt hI.out.below)))
            obtain ⟨j, hj⟩ : ∃ j, i - m - 1 = j := ⟨_, rfl⟩
            have hjj : (i : Int) - (m : Int) - 1 = (j : Int) := by omega
            rw [hj] at HFO
            clear hTi HOK HFI HBAD hI hj
            by_cases p1 : m % 2 = 1
            · have hm1 := rem_odd p1
              by_cases p2 : j % 2 = 1
              · have hm2 := rem_odd p2
                have HX : Hid (ofL T = buildL (bl L) (bl D)) := Lib.hid (by rw [HOY.out (HFO.out.2 ⟨p1, p2⟩), HLD.out.1, HLD.out.2])
                have HFD := Lib.hid (fun W => refFoldX_any D W (by omega))
                have hzd : (ba (foldL (bl D))).size ≤ 50000 := by rw [ba_size, foldL_len, bl_len]; exact hzD
                have HY := Lib.hid (fun W => refWhy_any L (ba (foldL (bl D))) W (by omega) (by omega))
                have HYE : Hid (whyC (bl L) (bl (ba (foldL (bl D)))) = whyC (bl L) (bl D)) := Lib.hid (by rw [bl_ba, why_fd2])
                have HRES : Hid (buildL (bl L) (bl D) = if whyC (bl L) (bl D) = 0 then (⟨bl L, foldL (bl D)⟩, 0) else (noAd, whyC (bl L) (bl D))) := Lib.hid rfl
                unfold WhyP at HY
                rw [HYE.out] at HY
                generalize hfd : ba (foldL (bl D)) = x at *
                have HXF : Hid (ba (foldL (bl D)) = x) := Lib.hid hfd
                generalize whyC (bl L) (bl D) = c at *
                clear p1 p2 HFO HOY HON HYE HLD hfd
                have c0 := HOW.out.1.cell 0
                have c1 := HOW.out.1.cell 1
                go_wp2_with fail
                refine (HFD.out _).mono ?_
                rintro e w2 ⟨rfl, hb⟩
                have HOW2 := Lib.hid (HOW.out.1.same (hb.block _ HOW.out.2.2.1))
                have HRS2 := Lib.hid (And.intro (HRS.out.1.same (hb.block _ HRS.out.1.lt)) (HRS.out.2.trans (hb.mono HRS.out.2.size)))
                have d0 := HOW2.out.cell 0
                have d1 := HOW2.out.cell 1
                have f0 := HOW2.out.free 0
                have f1 := HOW2.out.free 1
                have HOW3 := Lib.hid (HOW2.out.set 1 (.string x))
                have HRS3 : Hid (Lies (w2.setCell ⟨w.heap.size + 1, 1, none⟩ (.string x)) w.heap.size #[.string ⟨#[]⟩, .string ⟨#[]⟩] arT ∧ Below w.heap.size w (w2.setCell ⟨w.heap.size + 1, 1, none⟩ (.string x))) := Lib.hid ⟨HRS2.out.1.other _ (by omega), HRS2.out.2.setCell (Nat.le_succ _) _⟩
                clear hb c0 c1
                go_upto_region 28 with (fail)
                clear d0 d1 f0 f1
                generalize hW3 : w2.setCell ⟨w.heap.size + 1, 1, none⟩ (.string x) = w3 at *
                have e0 : w3.cell? ⟨w.heap.size + 1, 0, none⟩ = some (.string L) := HOW3.out.cell 0
                have e1 : w3.cell? ⟨w.heap.size + 1, 1, none⟩ = some (.string x) := HOW3.out.cell 1
                clear hW3
                go_wp2_with fail
                refine (HY.out _).mono ?_
                rintro e w4 ⟨rfl, hb⟩
                have HOW4 := Lib.hid (HOW3.out.same (hb.block _ HOW3.out.lt))
                have HRS4 := Lib.hid (And.intro (HRS3.out.1.same (hb.block _ HRS3.out.1.lt)) (HRS3.out.2.trans (hb.mono HRS3.out.2.size)))
                have c0 := HRS4.out.1.cell 0
                have c1 := HRS4.out.1.cell 1
                have f0 := HRS4.out.1.free 0
                have f1 := HRS4.out.1.free 1
                have d0 : w4.cell? ⟨w.heap.size + 1, 0, none⟩ = some (.string L) := HOW4.out.cell 0
                have d1 : w4.cell? ⟨w.heap.size + 1, 1, none⟩ = some (.string x) := HOW4.out.cell 1
                clear hb e0 e1
                by_cases hc0 : c = 0
                · subst hc0
                  have HR5 : Hid (ofL T = (⟨bl L, foldL (bl D)⟩, 0)) := Lib.hid (by rw [HX.out, HRES.out]; simp)
                  go_wp2_with fail
                  have hl2 := lies_fill2 HRS4.out.1 (.string L) (.string x)
                  have hb2 := below_fill2 HRS4.out.2 (Nat.le_refl _) (.string L) (.string x)
                  exact bodyPost_ret (v := .tuple #[adB L x, .int .i64 0]) (results_ad2 Tryz.results82 _ _ w.heap.size arT _ (0, 0) _ rfl hl2 Tryz.underlying49 rfl sizeAR) rfl (AdPost.of (c := 0) (by rw [HR5.out]) (by rw [HR5.out]; exact HXF.out) (by rw [HR5.out]) hb2)
                · have u1 : ((c : Int) != 0) = true := by rw [bne_iff_ne]; omega
                  have HC := Lib.hid hc0
                  clear hc0
                  go_wp2_with fail
                  have hl2 := lies_fill2 HRS4.out.1 (.string ⟨#[]⟩) (.string ⟨#[]⟩)
                  have hb2 := below_fill2 HRS4.out.2 (Nat.le_refl _) (.string ⟨#[]⟩) (.string ⟨#[]⟩)
                  exact bodyPost_ret (v := .tuple #[adB ⟨#[]⟩ ⟨#[]⟩, .int .i64 c]) (results_ad2 Tryz.results82 _ _ w.heap.size arT _ (0, 0) _ rfl hl2 Tryz.underlying49 rfl sizeAR) rfl (AdPost.no (c := c) (by rw [HX.out, HRES.out, if_neg HC.out]) hb2)
              · have hm2 := rem_even p2
                have HX : Hid (ofL T = (noAd, 130)) := Lib.hid (HON.out (by rw [← Bool.not_eq_true, HFO.out]; exact fun h => p2 h.2))
                clear p1 p2 HFO HOY HON HLD
                have c0 := HRS.out.1.cell 0
                have c1 := HRS.out.1.cell 1
                have f0 := HRS.out.1.free 0
                have f1 := HRS.out.1.free 1
                go_wp2_with fail
                have hl2 := lies_fill2 HRS.out.1 (.string ⟨#[]⟩) (.string ⟨#[]⟩)
                have hb2 := below_fill2 HRS.out.2 (Nat.le_refl _) (.string ⟨#[]⟩) (.string ⟨#[]⟩)
                exact bodyPost_ret (v := .tuple #[adB ⟨#[]⟩ ⟨#[]⟩, .int .i64 130]) (results_ad2 Tryz.results82 _ _ w.heap.size arT _ (0, 0) _ rfl hl2 Tryz.underlying49 rfl sizeAR) rfl (AdPost.no (c := 130) HX.out hb2)
            · have hm1 := rem_even p1
              have HX : Hid (ofL T = (noAd, 130)) := Lib.hid (HON.out (by rw [← Bool.not_eq_true, HFO.out]; exact fun h => p1 h.1))
              clear p1 HFO HOY HON HLD
              have c0 := HRS.out.1.cell 0
              have c1 := HRS.out.1.cell 1
              have f0 := HRS.out.1.free 0
              have f1 := HRS.out.1.free 1
              go_wp2_with fail
              have hl2 := lies_fill2 HRS.out.1 (.string ⟨#[]⟩) (.string ⟨#[]⟩)
              have hb2 := below_fill2 HRS.out.2 (Nat.le_refl _) (.string ⟨#[]⟩) (.string ⟨#[]⟩)
              exact bodyPost_ret (v := .tuple #[adB ⟨#[]⟩ ⟨#[]⟩, .int .i64 130]) (results_ad2 Tryz.results82 _ _ w.heap.size arT _ (0, 0) _ rfl hl2 Tryz.underlying49 rfl sizeAR) rfl (AdPost.no (c := 130) HX.out hb2)
      · have HM : Hid (atK T k = -1) := Lib.hid (by unfold atK; rw [if_neg hat])
        have HX := Lib.hid (of_no (T := T) (by unfold formT; rw [decide_eq_false (by rw [← HNN.out]; exact hat)]; rfl))
        rw [HM.out]
        go_wp2_with fail
        exact bodyPost_ret (v := .tuple #[adB ⟨#[]⟩ ⟨#[]⟩, .int .i64 130]) (results_ad2 Tryz.results82 _ _ w.heap.size arT _ (0, 0) _ rfl HR0.out.lies Tryz.underlying49 rfl sizeAR) rfl (AdPost.no (c := 130) HX.out HR0.out.below)
end Go.Proofs.YtegbkfloiiilfaaGreatDoor.Addr
