/-
  Walks of the document's answers: Domain, Dotted, Text, Key, Why, Right.
-/
import Derived.Test.YtklmhjoiffaniaaDoorAddrRefA
namespace Go.Proofs.YtklmhjoiffaniaaDoor.Addr
open Go Go.RowKit
open Go.Proofs.YtklmhjoiffaniaaDoor.Lex
open Go.Proofs.YtklmhjoiffaniaaDoor.Glyph (fd foldL foldL_foldL fold_any)
open Go.Proofs.YtklmhjoiffaniaaDoor.Sha (Kept wp_region_kept wp_region_kept_tail quiet_load_row)

theorem refFoldX_any (s : ByteArray) (w : World) (hs : s.size ≤ 1000000) :
    Calls Tryd.prog 49 #[.string s] w fun e w' => e = .returned (.string (ba (foldL (bl s)))) ∧ Below w.heap.size w w' := Glyph.refFold_any s w hs
set_option maxRecDepth 100000 in
set_option maxHeartbeats 2000000 in
theorem refDomain_any (s : ByteArray) (w : World) (hs : s.size ≤ 1000000) :
    Calls Tryd.prog 68 #[.string s] w (DomPost (bl s) w) := by
  have HS := Lib.hid (fun W => refSplit_any s W hs)
  have HF := Lib.hid (fun W => refFoldX_any s W hs)
  obtain ⟨n, hn⟩ : ∃ n, n = (pieces (bl s)).length := ⟨_, rfl⟩
  have hn1 : n ≤ 1000001 := by
    have := pcs_count (bl s) []
    rw [bl_len] at this
    rw [hn]
    exact Nat.le_trans this (by omega)
  obtain ⟨L0, hL0⟩ : ∃ b, decide ((253 : Int) < (s.size : Int)) = b := ⟨_, rfl⟩
  have HZ : Hid (longK (bl s) 0 = L0) := Lib.hid (by rw [longK_zero, bl_len, ← hL0]; exact decide_eq_decide.2 (by omega))
  go_enter Tryd.func68, Tryd.ntmps68
  go_wp2_with fail
  refine (HS.out _).mono ?_
  rintro e w1 ⟨v, rfl, ⟨b, cap, rfl, hc, hbl, hcell⟩, hb⟩
  rw [← hn] at hc ⊢
  have HB := Lib.hid hb
  have HC := Lib.hid hcell
  clear hb hcell
  go_wp2_with fail
  go_loopw [5, 6] (fun lo i wr => ∃ k : Nat, k ≤ n ∧ i = .int .i64 k ∧ lo = .bool (longK (bl s) k) ∧ Hid (((pieces (bl s)).take k).all labelB = true) ∧ wr = w1) (fun _ i _ => n - (intOf i).toNat)
  case atStart => exact ⟨0, Nat.zero_le _, rfl, by rw [HZ.out], Lib.hid (by simp), rfl⟩
  case round =>
    obtain ⟨k, hk, rfl, rfl, hall, rfl⟩ := hrel
    by_cases hlt : k < n
    · obtain ⟨p, hp⟩ : ∃ p, (pieces (bl s))[k]? = some p := ⟨(pieces (bl s))[k]'(by omega), List.getElem?_eq_getElem _⟩
      have hx := HC.out k p hp
      have hz := piece_size hp
      have HL := Lib.hid (fun W => refLabel_any (ba p) W (by omega))
      rw [bl_ba] at HL
      have hnx := longK_next hp
      obtain ⟨L1, hL1⟩ : ∃ b, decide ((63 : Int) < ((ba p).size : Int)) = b := ⟨_, rfl⟩
      have e1 : decide (63 < p.length) = L1 := by rw [← hL1, ba_size]; exact decide_eq_decide.2 (by omega)
      rw [e1] at hnx
      have HNX := Lib.hid hnx
      clear hnx e1
      generalize longK (bl s) k = L at *
      cases ha : labelB p
      · rw [ha] at HL
        have HE := Lib.hid (all_not hp ha)
        clear ha hp
        generalize ba p = x at *
        go_wp2_with fail
        refine (HL.out _).mono ?_
        rintro e' w2 ⟨rfl, rfl⟩
        go_wp2_with fail
        go_ret2
        exact DomPost.bad HE.out HB.out
      · rw [ha] at HL
        have HN := Lib.hid (all_take hp hall.out ha)
        clear ha hp
        generalize ba p = x at *
        cases L <;> cases L1
        all_goals
          go_wp2_with fail
          refine (HL.out _).mono ?_
          rintro e' w2 ⟨rfl, rfl⟩
          go_wp2_with fail
          go_roundw
          case rel => exact ⟨k + 1, by omega, by simp, by rw [HNX.out]; rfl, HN, trivial⟩
          case measure => simp [intOf]; omega
    · obtain rfl : k = n := by omega
      have HE : Hid ((pieces (bl s)).all labelB = true) := Lib.hid (by
        have h := hall.out
        rwa [List.take_of_length_le (by omega)] at h)
      have HLL : Hid (longK (bl s) k = longB (bl s)) := Lib.hid (by rw [hn]; exact longK_end _)
      obtain ⟨L, hL⟩ : ∃ b, longB (bl s) = b := ⟨_, rfl⟩
      have HG := Lib.hid hL
      rw [HLL.out, HG.out]
      clear hL
      cases L
      · go_wp2_with fail
        refine (HF.out _).mono ?_
        rintro e' w2 ⟨rfl, hb⟩
        have HB2 := Lib.hid (HB.out.trans (hb.mono HB.out.size))
        clear hb
        go_wp2_with fail
        go_ret2
        exact DomPost.good HE.out HG.out HB2.out
      · go_wp2_with fail
        go_ret2
        exact DomPost.long HE.out HG.out HB.out
set_option maxRecDepth 100000 in
set_option maxHeartbeats 2000000 in
theorem refDotted_any (s : ByteArray) (w : World) (hs : s.size ≤ 1000000) :
    Calls Tryd.prog 52 #[.string s] w fun e w' => e = .returned (.bool (dottedB (bl s))) ∧ Below w.heap.size w w' := by
  have HS := Lib.hid (fun W => refSplit_any s W hs)
  obtain ⟨n, hn⟩ : ∃ n, n = (pieces (bl s)).length := ⟨_, rfl⟩
  have hn1 : n ≤ 1000001 := by
    have := pcs_count (bl s) []
    rw [bl_len] at this
    rw [hn]
    exact Nat.le_trans this (by omega)
  go_enter Tryd.func52, Tryd.ntmps52
  go_wp2_with fail
  refine (HS.out _).mono ?_
  rintro e w1 ⟨v, rfl, ⟨b, cap, rfl, hc, hbl, hcell⟩, hb⟩
  rw [← hn] at hc ⊢
  have HB := Lib.hid hb
  have HC := Lib.hid hcell
  clear hb hcell
  go_wp2_with fail
  go_loopw [4] (fun i wr => ∃ k : Nat, k ≤ n ∧ i = .int .i64 k ∧ Hid (((pieces (bl s)).take k).all atomB = true) ∧ wr = w1) (fun i _ => n - (intOf i).toNat)
  case atStart => exact ⟨0, Nat.zero_le _, rfl, Lib.hid (by simp), rfl⟩
  case round =>
    obtain ⟨k, hk, rfl, hall, rfl⟩ := hrel
    by_cases hlt : k < n
    · obtain ⟨p, hp⟩ : ∃ p, (pieces (bl s))[k]? = some p := ⟨(pieces (bl s))[k]'(by omega), List.getElem?_eq_getElem _⟩
      have hx := HC.out k p hp
      have hz := piece_size hp
      have HL := Lib.hid (fun W => refIsAtom_any (ba p) W (by omega))
      rw [bl_ba] at HL
      cases ha : atomB p
      · rw [ha] at HL
        have HE := Lib.hid (all_not hp ha)
        clear ha hp
        generalize ba p = x at *
        go_wp2_with fail
        refine (HL.out _).mono ?_
        rintro e' w2 ⟨rfl, rfl⟩
        go_wp2_with fail
        go_ret
        exact ⟨ret_bool HE.out.symm, HB.out⟩
      · rw [ha] at HL
        have HN := Lib.hid (all_take hp hall.out ha)
        clear ha hp
        generalize ba p = x at *
        go_wp2_with fail
        refine (HL.out _).mono ?_
        rintro e' w2 ⟨rfl, rfl⟩
        go_wp2_with fail
        go_roundw
        case rel => exact ⟨k + 1, by omega, by simp, HN, trivial⟩
        case measure => simp [intOf]; omega
    · obtain rfl : k = n := by omega
      have HE : Hid ((pieces (bl s)).all atomB = true) := Lib.hid (by
        have h := hall.out
        rwa [List.take_of_length_le (by omega)] at h)
      go_wp2_with fail
      go_ret
      exact ⟨ret_bool HE.out.symm, HB.out⟩
set_option maxRecDepth 100000 in
set_option maxHeartbeats 2000000 in
theorem refText_any (l d : ByteArray) (w : World) (hl : l.size ≤ 400000) (hd : d.size ≤ 400000) :
    Calls Tryd.prog 28 #[adB l d] w fun e w' => e = .returned (.string (ba (textL ⟨bl l, bl d⟩))) ∧ Below w.heap.size w w' := by
  have HD := Lib.hid (fun W => refDotted_any l W (by omega))
  have HN := Lib.hid (new_boxA w arT l d)
  have HA : Hid (Below w.heap.size w (w.alloc (boxA arT l d))) := Lib.hid ((Below.refl _ _).alloc (Nat.le_refl _) _)
  cases hb : dottedB (bl l)
  · rw [hb] at HD
    have HX := Lib.hid (txt_quoted (d := d) hb)
    have HQ := Lib.hid (fun W => refQuote_any l W (by omega))
    have hq : (ba (quoteL (bl l))).size ≤ 2 * l.size + 2 := by
      rw [ba_size]
      have := quote_len (bl l)
      rwa [bl_len] at this
    clear hb
    generalize ba (quoteL (bl l)) = q at *
    go_enter Tryd.func28, Tryd.ntmps28
    go_wp2_with fail
    refine (HD.out _).mono ?_
    rintro e w1 ⟨rfl, hb⟩
    have HR := Lib.hid (range_below HN.out (by simp) hb)
    have HB := Lib.hid (HA.out.trans (hb.mono HA.out.size))
    have HL : Hid (w.heap.size < w1.heap.size) := Lib.hid (by have := hb.size; simp at this; omega)
    clear hb
    go_wp2_with fail
    refine wp_region_kept (by kernel_rfl) (by kernel_rfl) ?_
    repeat (first
      | (go_big_quiet_want
         first
           | refine quiet_load_str 9 (.tmp 12) rfl ⟨w.heap.size, 0, none⟩ rfl (.string l) (fun w' hk => (twoA (range_below HR.out HL.out hk)).1) Tryd.underlying9 ?_
           | refine quiet_load_str 9 (.tmp 16) rfl ⟨w.heap.size, 0 + 1, none⟩ rfl (.string d) (fun w' hk => (twoA (range_below HR.out HL.out hk)).2) Tryd.underlying9 ?_
         go_simp
         go_big_quiet_on)
      | (go_big_quiet_step ((first | (exact fun _ => rfl) | (intro hk; go_at_call 35; exact hk.call_same (HQ.out _))))))
    refine wpQuiet_nil ?_
    intro W2 hk2
    have HK2 := Lib.hid (HB.out.trans (hk2.below.mono HB.out.size))
    clear hk2
    go_wp2_with fail
    go_ret
    exact ⟨by rw [← HX.out]; rfl, HK2.out⟩
  · rw [hb] at HD
    have HX := Lib.hid (txt_dotted (d := d) hb)
    clear hb
    go_enter Tryd.func28, Tryd.ntmps28
    go_wp2_with fail
    refine (HD.out _).mono ?_
    rintro e w1 ⟨rfl, hb⟩
    have hr := range_below HN.out (by simp) hb
    obtain ⟨c0, c1⟩ := twoA hr
    have HB := Lib.hid (HA.out.trans (hb.mono HA.out.size))
    clear hb hr
    go_wp2_with fail
    go_ret
    exact ⟨by rw [← HX.out]; rfl, HB.out⟩
theorem pl_nat (c : UInt8) : pl c = (decide (32 ≤ c.toNat) && decide (c.toNat ≤ 126)) := by
  unfold pl
  rw [Bool.eq_iff_iff]
  simp
theorem big_eq (l d : ByteArray) : bigB (bl l) (bl d) = (!(domC (bl d) == 0) || (decide (64 < l.size) || decide (254 < (ba (textL ⟨bl l, bl d⟩)).size))) := by
  unfold bigB
  rw [bl_len, ba_size (textL ⟨bl l, bl d⟩), textlen (bl l) (bl d) (foldL (bl d)) (foldL_len _)]
def WhyP (l d : ByteArray) (w : World) (e : Ending) (w' : World) : Prop := e = .returned (.int .i64 (whyC (bl l) (bl d))) ∧ Below w.heap.size w w'
theorem why_form {l d : List UInt8} (h : formB l d = true) : whyC l d = 130 := by unfold whyC; rw [if_pos h]
theorem why_big {l d : List UInt8} (h : formB l d = false) (h2 : bigB l d = true) : whyC l d = 2 := by unfold whyC; rw [h, if_neg (by decide), if_pos h2]
theorem why_good {l d : List UInt8} (h : formB l d = false) (h2 : bigB l d = false) : whyC l d = 0 := by unfold whyC; rw [h, h2]; rfl
theorem WhyP.of {l d : ByteArray} {w w' : World} {c : Nat} (h : whyC (bl l) (bl d) = c) (hb : Below w.heap.size w w') : WhyP l d w (.returned (.int .i64 c)) w' := by
  subst h
  exact ⟨rfl, hb⟩
set_option maxRecDepth 100000 in
set_option maxHeartbeats 4000000 in
theorem refWhy_any (l d : ByteArray) (w : World) (hl : l.size ≤ 100000) (hd : d.size ≤ 100000) :
    Calls Tryd.prog 50 #[adB l d] w (WhyP l d w) := by
  have HD := Lib.hid (fun W => refDomain_any d W (by omega))
  have HT := Lib.hid (fun W => refText_any l d W (by omega) (by omega))
  have HN := Lib.hid (new_boxA w arT l d)
  have HA : Hid (Below w.heap.size w (w.alloc (boxA arT l d))) := Lib.hid ((Below.refl _ _).alloc (Nat.le_refl _) _)
  have he := empty_any l
  have HF : Hid (formB (bl l) (bl d) = ((bl l).isEmpty || (!((bl l).all pl) || domC (bl d) == 130))) := Lib.hid rfl
  by_cases h3 : domC (bl d) = 130
  · have HX := Lib.hid (why_form (l := bl l) (d := bl d) (by rw [HF.out, h3]; simp))
    have HE := Lib.hid h3
    clear HF h3
    go_enter Tryd.func50, Tryd.ntmps50
    go_wp2_with fail
    refine (HD.out _).mono ?_
    rintro e w1 ⟨rfl, hb⟩
    have HB1 := Lib.hid (HA.out.trans (hb.mono HA.out.size))
    rw [HE.out]
    clear hb
    go_wp2_with fail
    go_ret
    exact WhyP.of (c := 130) HX.out HB1.out
  · have t3 : ((domC (bl d) : Int) == 130) = false := by rw [beq_eq_false_iff_ne]; omega
    have t3' : (domC (bl d) == 130) = false := by rw [beq_eq_false_iff_ne]; exact h3
    have HG := Lib.hid (big_eq l d)
    have hzt : (ba (textL ⟨bl l, bl d⟩)).size ≤ 400000 := by
      have := textL_le ⟨bl l, bl d⟩
      rw [ba_size]
      simp only [bl_len] at this
      omega
    rw [t3'] at HF
    clear t3'
    generalize ba (textL ⟨bl l, bl d⟩) = t at *
    generalize hdc : domC (bl d) = dc at *
    cases h1 : (bl l).isEmpty
    · rw [h1] at HF he
      go_enter Tryd.func50, Tryd.ntmps50
      go_wp2_with fail
      refine (HD.out _).mono ?_
      rintro e w1 ⟨rfl, hb⟩
      have HB1 := Lib.hid (HA.out.trans (hb.mono HA.out.size))
      have HR := Lib.hid (range_below HN.out (by simp) hb)
      have HZ : Hid (w.heap.size < w1.heap.size) := Lib.hid (by have := hb.size; simp at this; omega)
      obtain ⟨a0, a1⟩ := twoA HR.out
      rw [hdc]
      have HDC := Lib.hid h3
      clear hb hdc h1 h3
      go_wp2_with fail
      go_loopw [5] (fun i wr => ∃ k : Nat, k ≤ l.size ∧ i = .int .i64 k ∧ Hid (∀ c ∈ (bl l).take k, pl c = true) ∧ wr = w1) (fun i _ => l.size - (intOf i).toNat)
      case atStart => exact ⟨0, Nat.zero_le _, rfl, Lib.hid (by simp), rfl⟩
      case round =>
        obtain ⟨k, hk, rfl, hall, rfl⟩ := hrel
        by_cases hlt : k < l.size
        · have h8 : l[k].toNat < 256 := l[k].toNat_lt
          have hdc := drop_cons l k hlt
          have hbad : pl l[k] = false → Hid (whyC (bl l) (bl d) = 130) := fun h => Lib.hid (by
            refine why_form ?_
            rw [HF.out]
            have : (bl l).all pl = false := by
              rw [← Bool.not_eq_true, List.all_eq_true]
              intro ha
              have := ha l[k] (by
                have : l[k] ∈ (bl l).drop k := by rw [hdc]; simp
                exact List.mem_of_mem_drop this)
              rw [h] at this
              cases this
            rw [this]
            rfl)
          have hpn := pl_nat l[k]
          by_cases g1 : 32 ≤ l[k].toNat
          · have d1 : decide ((l[k].toNat : Int) < 32) = false := decide_eq_false (by omega)
            by_cases g2 : l[k].toNat ≤ 126
            · have d2 : decide ((126 : Int) < (l[k].toNat : Int)) = false := decide_eq_false (by omega)
              have HNX := Lib.hid (take_all hall.out hdc (by rw [hpn, decide_eq_true g1, decide_eq_true g2]; rfl))
              clear hdc hbad hpn g1 g2
              go_wp2_with fail
              go_roundw
              case rel => exact ⟨k + 1, by omega, by simp, HNX, trivial⟩
              case measure => simp [intOf]; omega
            · have d2 : decide ((126 : Int) < (l[k].toNat : Int)) = true := decide_eq_true (by omega)
              have HX := hbad (by rw [hpn, decide_eq_false g2]; simp)
              clear hdc hbad hpn g1 g2
              go_wp2_with fail
              go_ret
              exact WhyP.of (c := 130) HX.out HB1.out
          · have d1 : decide ((l[k].toNat : Int) < 32) = true := decide_eq_true (by omega)
            have HX := hbad (by rw [hpn, decide_eq_false g1]; rfl)
            clear hdc hbad hpn g1
            go_wp2_with fail
            go_ret
            exact WhyP.of (c := 130) HX.out HB1.out
        · have HFF : Hid (formB (bl l) (bl d) = false) := Lib.hid (by
            have h := hall.out
            rw [List.take_of_length_le (by rw [bl_len]; omega)] at h
            rw [HF.out, List.all_eq_true.2 h]
            rfl)
          clear hall
          by_cases g1 : dc = 0
          · subst g1
            have u1 : ((0 : Nat) == 0) = true := rfl
            by_cases g2 : 64 < l.size
            · have d2 : decide ((64 : Int) < (l.size : Int)) = true := decide_eq_true (by omega)
              have HX := Lib.hid (why_big HFF.out (by rw [HG.out, decide_eq_true g2]; simp))
              clear g2 u1
              go_wp2_with fail
              go_ret
              exact WhyP.of (c := 2) HX.out HB1.out
            · have d2 : decide ((64 : Int) < (l.size : Int)) = false := decide_eq_false (by omega)
              by_cases g3 : 254 < t.size
              · have d3 : decide ((254 : Int) < (t.size : Int)) = true := decide_eq_true (by omega)
                have HX := Lib.hid (why_big HFF.out (by rw [HG.out, decide_eq_true g3]; simp))
                clear g2 g3 u1
                go_wp2_with fail
                refine (HT.out _).mono ?_
                rintro e w2 ⟨rfl, hb⟩
                have HB2 := Lib.hid (HB1.out.trans (hb.mono HB1.out.size))
                clear hb
                go_wp2_with fail
                go_ret
                exact WhyP.of (c := 2) HX.out HB2.out
              · have d3 : decide ((254 : Int) < (t.size : Int)) = false := decide_eq_false (by omega)
                have HX := Lib.hid (why_good HFF.out (by rw [HG.out, decide_eq_false g3, decide_eq_false g2]; rfl))
                clear g2 g3 u1
                go_wp2_with fail
                refine (HT.out _).mono ?_
                rintro e w2 ⟨rfl, hb⟩
                have HB2 := Lib.hid (HB1.out.trans (hb.mono HB1.out.size))
                clear hb
                go_wp2_with fail
                go_ret
                exact WhyP.of (c := 0) HX.out HB2.out
          · have u1 : ((dc : Int) != 0) = true := by rw [bne_iff_ne]; omega
            have HX := Lib.hid (why_big HFF.out (by rw [HG.out, show (dc == 0) = false by rw [beq_eq_false_iff_ne]; exact g1]; rfl))
            clear g1
            go_wp2_with fail
            go_ret
            exact WhyP.of (c := 2) HX.out HB1.out
    · rw [h1] at HF he
      have HX := Lib.hid (why_form (l := bl l) (d := bl d) (by rw [HF.out]; rfl))
      clear HF h1
      go_enter Tryd.func50, Tryd.ntmps50
      go_wp2_with fail
      refine (HD.out _).mono ?_
      rintro e w1 ⟨rfl, hb⟩
      have HB1 := Lib.hid (HA.out.trans (hb.mono HA.out.size))
      obtain ⟨a0, a1⟩ := twoA (range_below HN.out (by simp) hb)
      rw [hdc]
      clear hb hdc
      go_wp2_with fail
      go_ret
      exact WhyP.of (c := 130) HX.out HB1.out
end Go.Proofs.YtklmhjoiffaniaaDoor.Addr
