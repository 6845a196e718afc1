/-
  Walks of the law BatchLast.
-/
import Derived.Test.YtkbeppmjdjddhaaDoorBatchLawC
namespace Go.Proofs.YtkbeppmjdjddhaaDoor.Batch
open Go Go.RowKit
open Nets (Tab str)

/-- What the last change of a key leaves: of it the change, of the others what there was. -/
theorem tells_other {q : List Chg} (hg : Good q) (c : Chg) (s : ByteArray) (h : s ≠ c.key ∨ code q c ≠ 0) : tells s (made q c) = tells s q ∧ (at? Chg.key s (made q c)).isSome = (at? Chg.key s q).isSome := by
  have ha : at? Chg.key s (made q c) = at? Chg.key s q := by
    unfold made
    by_cases h0 : code q c = 0
    · rw [if_pos h0]
      rcases h with h | h
      · exact at_put_other Chg.key c hg.rise h
      · exact absurd h0 h
    · rw [if_neg h0]
  unfold tells
  rw [ha]
  exact ⟨rfl, rfl⟩
theorem tells_same {q : List Chg} (hg : Good q) (c : Chg) (h : code q c = 0) : tells c.key (made q c) = c ∧ (at? Chg.key c.key (made q c)).isSome = true := by
  have ha : at? Chg.key c.key (made q c) = some c := by
    unfold made
    rw [if_pos h]
    exact at_put_same Chg.key c hg.rise
  unfold tells
  rw [ha]
  exact ⟨rfl, rfl⟩
def OnesAt (w : World) (d : Bt) (l : List Chg) (i : Value) (wr : World) : Prop :=
  ∃ (k : Nat) (d' : Bt), k ≤ l.length ∧ i = .int .i64 k ∧ Mem wr d' (madeL (l.take k)) ∧ Step w d wr d'
theorem ones_step {w wr w3 : World} {d d' d2 : Bt} {l : List Chg} {k : Nat} {x : Chg} (hkx : l[k]? = some x) (hs : Step w d wr d') (hm3 : Mem w3 d2 (made (madeL (l.take k)) x.norm)) (hs3 : Step wr d' w3 d2) : OnesAt w d l (.int .i64 ((k : Int) + 1)) w3 := by
  have ht : l.take (k + 1) = l.take k ++ [x] := by rw [List.take_add_one, hkx]; rfl
  have hlt := (List.getElem?_eq_some_iff.1 hkx).1
  refine ⟨k + 1, d2, by omega, by simp, ?_, hs.trans hs3⟩
  rw [ht, madeL_snoc]; exact hm3
theorem norm_parts (c : Chg) : c.norm = ⟨c.key, if c.gone then ⟨#[]⟩ else c.val, c.gone⟩ := by
  obtain ⟨k, v, g⟩ := c
  cases g <;> rfl
set_option maxRecDepth 100000 in
set_option maxHeartbeats 8000000 in
theorem batchLast_any (v : Value) (l : List Chg) (c : Chg) (s : ByteArray) (w : World) (hr : ReadsC w v l) (ho : ∀ c ∈ l, OkC c) (hm : l.length ≤ 9223372036854775807) (hc : OkC c) (hT : Tab w) :
    Calls Tryd.prog 6 #[v, chV c, .string s] w fun e w' => e = .returned (.bool true) ∧ Below w.heap.size w w' := by
  have hA : Below w.heap.size w (w.alloc (boxC refT c)) := (Below.refl _ _).alloc (Nat.le_refl _) _
  have HA := Lib.hid hA
  have HW := Lib.hid (fun W (hW : Below w.heap.size w W) => works_any W (hT.below hW))
  have HL := Lib.hid (fun W (hW : Below w.heap.size w W) => light_any v l W (hr.below hW) ho hm)
  have HR := Lib.hid hr
  have HO := Lib.hid ho
  have HCO := Lib.hid hc
  have hc1 := hc.1
  have hc2 := hc.2
  obtain ⟨va, vc, rfl⟩ := reads_form hr
  clear hr hT hA ho hc
  go_enter Tryd.func6, Tryd.ntmps6
  go_wp2_with fail
  refine (HW.out _ HA.out).mono ?_
  rintro e w1 ⟨rfl, hb1⟩
  have HB1 := Lib.hid hb1
  have HXB : Hid (∀ W, Below w1.heap.size w1 W → W.cell? ⟨w.heap.size, 0, none⟩ = some (.string c.key) ∧ W.cell? ⟨w.heap.size, 1, none⟩ = some (.string c.val) ∧ W.cell? ⟨w.heap.size, 2, none⟩ = some (.bool c.gone)) := Lib.hid fun W hW => by
    have h1 := box_at (w := w) (t := refT) (e := c) hb1
    have h2 := three (range_below h1 (block_lt_of_cell (three h1).1) hW)
    simp only [Nat.zero_add] at h2
    exact h2
  have HBW1 := Lib.hid (HA.out.trans (hb1.mono HA.out.size))
  clear hb1
  go_wp2_with fail
  refine (new_any w1).mono ?_
  rintro e w2 ⟨d, rfl, hp, hB, hm1, hb⟩
  have HM := Lib.hid (And.intro hm1 (And.intro (Nat.le_of_eq hB.symm) hb))
  have HBW2 := Lib.hid (HBW1.out.trans (hb.mono HBW1.out.size))
  clear hm1 hb hB hp
  go_wp2_with fail
  refine (HL.out _ HBW2.out).mono ?_
  rintro e w3 ⟨b, rfl, hbl, rfl⟩
  have HBL := Lib.hid hbl
  clear hbl
  obtain ⟨x0, x1, x2⟩ := HXB.out w2 HM.out.2.2
  cases b
  · go_wp2_with fail
    go_ret
    exact ⟨rfl, HBW2.out⟩
  · have HLL := Lib.hid (HBL.out rfl)
    have hll : l.length ≤ 40 := HLL.out.1
    clear HBL
    by_cases g1 : 300 < c.key.size
    · go_wp2_with fail
      go_ret
      exact ⟨rfl, HBW2.out⟩
    by_cases g2 : 1000 < c.val.size
    · go_wp2_with fail
      go_ret
      exact ⟨rfl, HBW2.out⟩
    go_wp2_with fail
    clear x0 x1 x2
    go_loopw [8] (fun i wr => OnesAt w2 d l i wr) (fun i _ => l.length - (intOf i).toNat)
    case atStart => exact ⟨0, d, Nat.zero_le _, rfl, HM.out.1, Step.refl _ _⟩
    case round =>
      obtain ⟨k, d2, hk, rfl, hm2, hst2⟩ := hrel
      have hpb : d2.pb = d.pb := hst2.pb
      have HM2 := Lib.hid (And.intro hm2 hst2)
      have HB12 : Hid (Below w1.heap.size w1 wr) := Lib.hid (HM.out.2.2.trans (hst2.below HM.out.1 HM.out.2.1))
      have HBW : Hid (Below w.heap.size w wr) := Lib.hid (HBW1.out.trans (HB12.out.mono HBW1.out.size))
      have hG := good_madeL (l.take k)
      have HG := Lib.hid hG
      clear hm2 hst2 hG
      by_cases hlt : k < l.length
      · rcases HR.out with ⟨_, _, _, h0⟩ | ⟨_, b, off, cap, e, h3, h4⟩
        · exfalso; rw [h0] at hlt; simp at hlt
        · obtain ⟨rfl, rfl⟩ : va = some ⟨b, off, none⟩ ∧ vc = cap := by simpa using e
          clear e
          obtain ⟨x, hkx⟩ : ∃ x, l[k]? = some x := ⟨l[k], List.getElem?_eq_getElem hlt⟩
          obtain ⟨c0, c1, c2⟩ := three (range_below (h4 k x hkx) h3 HBW.out)
          have HONE := Lib.hid (one_any HM2.out.1 HG.out x (HO.out x (List.mem_of_getElem? hkx)))
          rw [hpb] at HONE
          have HKX := Lib.hid hkx
          clear h3 h4 hkx
          go_wp2_with fail
          refine HONE.out.mono ?_
          rintro e w4 ⟨d4, rfl, hm4, hst4⟩
          have HS4 := Lib.hid (ones_step HKX.out HM2.out.2 hm4 hst4)
          clear hm4 hst4
          go_wp2_with fail
          go_roundw
          case rel => exact HS4.out
          case measure => simp [intOf]; omega
      · have htk : l.take k = l := List.take_of_length_le (by omega)
        rw [htk] at HM2 HG
        have HDB : Hid (w1.heap.size ≤ d2.B) := Lib.hid (by rw [HM2.out.2.B]; exact HM.out.2.1)
        have HGET := Lib.hid (get_any HM2.out.1 HG.out.rise (by have := HG.out.few; omega) s)
        rw [hpb] at HGET
        have hother := tells_other HG.out c.norm s
        have hsame := tells_same HG.out c.norm
        rw [norm_key] at hother hsame
        have HT := Lib.hid (And.intro hother hsame)
        have HG2 := Lib.hid (good_made HG.out c.norm)
        have HONE := Lib.hid (fun W (hW : Below wr.heap.size wr W) => one_any (HM2.out.1.below hW) HG.out c HCO.out)
        rw [hpb] at HONE
        clear hother hsame
        generalize madeL l = Q at *
        generalize hwas : tells s Q = was at *
        generalize hhad : (at? Chg.key s Q).isSome = had at *
        generalize hcd : code Q c.norm = cd at *
        go_wp2_with fail
        refine HGET.out.mono ?_
        rintro e w4 ⟨rfl, hb4⟩
        have HB4 := Lib.hid (hb4.alloc hb4.size (boxC chgT was))
        have HB14 := Lib.hid (HB12.out.trans (HB4.out.mono HB12.out.size))
        have HB40 := Lib.hid hb4
        clear hb4
        obtain ⟨x0, x1, x2⟩ := HXB.out _ HB14.out
        have HX4 := Lib.hid (new_box w4 chgT was)
        go_wp2_with fail
        refine (HONE.out _ HB4.out).mono ?_
        rintro e w5 ⟨d5, rfl, hm5, hst5⟩
        have hpb5 : d5.pb = d.pb := hst5.pb.trans hpb
        have HS5 : Hid (Below w1.heap.size (w4.alloc (boxC chgT was)) w5) := Lib.hid (hst5.below (HM2.out.1.below HB4.out) HDB.out)
        have HB15 : Hid (Below w1.heap.size w1 w5) := Lib.hid (HB14.out.trans HS5.out)
        have HM5 := Lib.hid hm5
        rw [hcd]
        have HX5 : Hid (w5.rangeAt w4.heap.size 0 (chC was)) := Lib.hid fun j u hu => by
          rw [World.cell?_of_block (a := ⟨w4.heap.size, 0 + j, none⟩) (hst5.fr.block w4.heap.size (by simp) fun e => ?_)]
          · exact HX4.out j u hu
          · have h1 := (HM2.out.1.own_lt e).1
            have h2 := HB40.out.size
            omega
        have HGET2 := Lib.hid (get_any hm5 HG2.out.rise (by have := HG2.out.few; omega) s)
        rw [hpb5] at HGET2
        clear hm5 hst5 x0 x1 x2
        by_cases hk : s = c.key
        · by_cases h0 : cd = 0
          · have hne : (s.toList == c.key.toList) = true := by rw [key_eq]; exact decide_eq_true hk
            have hcn : ((cd : Int) != 0) = false := by rw [h0]; rfl
            obtain ⟨ht1, ht2⟩ := HT.out.2 h0
            rw [← hk] at ht1 ht2
            rw [ht1, ht2] at HGET2
            clear HT ht1 ht2
            cases hg : c.gone
            · have hN : c.norm = (⟨s, c.val, false⟩ : Chg) := by rw [norm_parts, hg, hk]; rfl
              rw [hN] at HGET2
              clear hN h0 hk
              go_wp2_with fail
              refine HGET2.out.mono ?_
              rintro e w6 ⟨rfl, hb6⟩
              have HB16 := Lib.hid ((HB15.out.trans (hb6.mono HB15.out.size)).alloc (Nat.le_trans HB15.out.size hb6.size) (boxC chgT (⟨s, c.val, false⟩ : Chg)))
              obtain ⟨x0, x1, x2⟩ := HXB.out _ HB16.out
              rw [hg] at x2
              have HBF : Hid (Below w.heap.size w (w6.alloc (boxC chgT (⟨s, c.val, false⟩ : Chg)))) := Lib.hid (HBW1.out.trans (HB16.out.mono HBW1.out.size))
              clear hb6 hg
              go_wp2_with fail
              go_ret
              exact ⟨rfl, HBF.out⟩
            · have hN : c.norm = (⟨s, ⟨#[]⟩, true⟩ : Chg) := by rw [norm_parts, hg, hk]; rfl
              rw [hN] at HGET2
              clear hN h0 hk
              go_wp2_with fail
              refine HGET2.out.mono ?_
              rintro e w6 ⟨rfl, hb6⟩
              have HB16 := Lib.hid ((HB15.out.trans (hb6.mono HB15.out.size)).alloc (Nat.le_trans HB15.out.size hb6.size) (boxC chgT (⟨s, ⟨#[]⟩, true⟩ : Chg)))
              obtain ⟨x0, x1, x2⟩ := HXB.out _ HB16.out
              rw [hg] at x2
              have HBF : Hid (Below w.heap.size w (w6.alloc (boxC chgT (⟨s, ⟨#[]⟩, true⟩ : Chg)))) := Lib.hid (HBW1.out.trans (HB16.out.mono HBW1.out.size))
              clear hb6 hg
              go_wp2_with fail
              go_ret
              exact ⟨rfl, HBF.out⟩
          · have hne : (s.toList == c.key.toList) = true := by rw [key_eq]; exact decide_eq_true hk
            have hcn : ((cd : Int) != 0) = true := by simpa using h0
            obtain ⟨ht1, ht2⟩ := HT.out.1 (.inr h0)
            rw [ht1, ht2] at HGET2
            clear HT ht1 ht2 h0 hk
            go_wp2_with fail
            refine HGET2.out.mono ?_
            rintro e w6 ⟨rfl, hb6⟩
            have HB16 := Lib.hid ((HB15.out.trans (hb6.mono HB15.out.size)).alloc (Nat.le_trans HB15.out.size hb6.size) (boxC chgT was))
            obtain ⟨x0, x1, x2⟩ := HXB.out _ HB16.out
            have h75 : w4.heap.size < w5.heap.size := block_lt_of_cell (three HX5.out).1
            have h76 : w4.heap.size < w6.heap.size := Nat.lt_of_lt_of_le h75 hb6.size
            obtain ⟨y0, y1, y2⟩ := three (range_below (range_below HX5.out h75 hb6) h76 ((Below.refl _ _).alloc (Nat.le_refl _) (boxC chgT was)))
            simp only [Nat.zero_add] at y1 y2
            have HBF : Hid (Below w.heap.size w (w6.alloc (boxC chgT was))) := Lib.hid (HBW1.out.trans (HB16.out.mono HBW1.out.size))
            clear hb6
            go_wp2_with fail
            go_ret
            exact ⟨rfl, HBF.out⟩
        · have hne : (s.toList == c.key.toList) = false := by rw [key_eq]; exact decide_eq_false hk
          obtain ⟨ht1, ht2⟩ := HT.out.1 (.inl hk)
          rw [ht1, ht2] at HGET2
          clear HT ht1 ht2
          go_wp2_with fail
          refine HGET2.out.mono ?_
          rintro e w6 ⟨rfl, hb6⟩
          have HB16 := Lib.hid ((HB15.out.trans (hb6.mono HB15.out.size)).alloc (Nat.le_trans HB15.out.size hb6.size) (boxC chgT was))
          obtain ⟨x0, x1, x2⟩ := HXB.out _ HB16.out
          have h75 : w4.heap.size < w5.heap.size := block_lt_of_cell (three HX5.out).1
          have h76 : w4.heap.size < w6.heap.size := Nat.lt_of_lt_of_le h75 hb6.size
          obtain ⟨y0, y1, y2⟩ := three (range_below (range_below HX5.out h75 hb6) h76 ((Below.refl _ _).alloc (Nat.le_refl _) (boxC chgT was)))
          simp only [Nat.zero_add] at y1 y2
          have HBF : Hid (Below w.heap.size w (w6.alloc (boxC chgT was))) := Lib.hid (HBW1.out.trans (HB16.out.mono HBW1.out.size))
          clear hb6
          go_wp2_with fail
          go_ret
          exact ⟨rfl, HBF.out⟩
end Go.Proofs.YtkbeppmjdjddhaaDoor.Batch
