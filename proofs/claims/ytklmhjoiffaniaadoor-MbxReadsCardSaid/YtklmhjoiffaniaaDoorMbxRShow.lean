/-
  Walks of the document: its Phrase, Show, ShowAll.
-/
import Derived.Test.YtklmhjoiffaniaaDoorMbxShow
import Derived.Test.YtklmhjoiffaniaaDoorAddrRefB
import Derived.Test.YtklmhjoiffaniaaDoorLexRefA
namespace Go.Proofs.YtklmhjoiffaniaaDoor.Mbx
open Go Go.RowKit
open Go.Proofs.YtklmhjoiffaniaaDoor.Lex
open Go.Proofs.YtklmhjoiffaniaaDoor.Addr (strT adT arT adB cellsA textL textL_le text_any all_take all_not ba_cat quiet_load_str refText_any)
open Go.Proofs.YtklmhjoiffaniaaDoor.Sha (Kept wp_region_kept wp_region_kept_tail quiet_load_row)
set_option maxRecDepth 100000 in
set_option maxHeartbeats 4000000 in
theorem refPhrase_any (s : ByteArray) (w : World) (hs : s.size ≤ 1000000) :
    Calls Tryd.prog 19 #[.string s] w fun e w' => e = .returned (.string (ba (phraseL (bl s)))) ∧ Below w.heap.size w w' := by
  have HS := Lib.hid (fun W => refSplit_any s W hs)
  have HQ := Lib.hid (fun W => refQuote_any s W (by omega))
  obtain ⟨n, hn⟩ : ∃ n, n = (pieces (bl s)).length := ⟨_, rfl⟩
  have hn1 : n ≤ 1000001 := by
    have := pcs_count (bl s) []
    rw [bl_len] at this
    rw [hn]
    exact Nat.le_trans this (by omega)
  go_enter Tryd.func19, Tryd.ntmps19
  go_wp2_with fail
  refine (HS.out _).mono ?_
  rintro e w1 ⟨v, rfl, ⟨b, cap, rfl, hc, hbl, hcell⟩, hb⟩
  rw [← hn] at hc ⊢
  have HB := Lib.hid hb
  have HC := Lib.hid hcell
  clear hb hcell
  go_wp2_with fail
  go_loopw [4] (fun i wr => ∃ k : Nat, k ≤ n ∧ i = .int .i64 k ∧ Hid (((pieces (bl s)).take k).all atomB = true) ∧ w1 = wr) (fun i _ => n - (intOf i).toNat)
  case atStart => exact ⟨0, Nat.zero_le _, rfl, Lib.hid (by simp), rfl⟩
  case round =>
    obtain ⟨k, hk, rfl, hall, rfl⟩ := hrel
    by_cases hlt : k < n
    · obtain ⟨p, hp⟩ : ∃ p, (pieces (bl s))[k]? = some p := ⟨(pieces (bl s))[k]'(by omega), List.getElem?_eq_getElem _⟩
      have hx := HC.out k p hp
      have hz := piece_size hp
      have HL := Lib.hid (fun W => refIsAtom_any (ba p) W (by omega))
      rw [bl_ba] at HL
      cases ha : atomB p
      · rw [ha] at HL
        have HE : Hid (quoteL (bl s) = phraseL (bl s)) := Lib.hid (by unfold phraseL; rw [all_not hp ha, if_neg (by decide)])
        clear ha hp
        generalize ba p = x at *
        go_wp2_with fail
        refine (HL.out _).mono ?_
        rintro e' w2 ⟨rfl, rfl⟩
        go_wp2_with fail
        refine (HQ.out _).mono ?_
        rintro e' w3 ⟨rfl, rfl⟩
        have HB3 := HB
        go_wp2_with fail
        go_ret
        exact ⟨by rw [← HE.out]; rfl, HB3.out⟩
      · rw [ha] at HL
        have HN := Lib.hid (Go.Proofs.YtklmhjoiffaniaaDoor.Addr.all_take hp hall.out ha)
        clear ha hp
        generalize ba p = x at *
        go_wp2_with fail
        refine (HL.out _).mono ?_
        rintro e' w2 ⟨rfl, rfl⟩
        go_wp2_with fail
        go_roundw
        case rel => exact ⟨k + 1, by omega, by simp, HN, trivial⟩
        case measure => simp [intOf]; omega
    · have HE : Hid (ba (phraseL (bl s)) = s) := Lib.hid (by
        have h := hall.out
        rw [List.take_of_length_le (by omega)] at h
        unfold phraseL
        rw [if_pos h, ba_bl])
      go_wp2_with fail
      go_ret
      exact ⟨by rw [HE.out]; rfl, HB.out⟩
set_option maxRecDepth 100000 in
set_option maxHeartbeats 4000000 in
theorem refShow_any (x : Bx) (w : World) (hn : x.n.size ≤ 100000) (hl : x.l.size ≤ 100000) (hd : x.d.size ≤ 100000) :
    Calls Tryd.prog 15 #[bxV x] w fun e w' => e = .returned (.string (ba (showL x))) ∧ Below w.heap.size w w' := by
  have HN := Lib.hid (new_boxB w rbT x)
  have HA : Hid (Below w.heap.size w (w.alloc (boxB rbT x))) := Lib.hid ((Below.refl _ _).alloc (Nat.le_refl _) _)
  have HT := Lib.hid (fun W => refText_any x.l x.d W (by omega) (by omega))
  have HP := Lib.hid (fun W => refPhrase_any x.n W (by omega))
  have hz1 : (ba (phraseL (bl x.n))).size ≤ 300000 := by
    rw [ba_size]
    have := phrase_len (bl x.n)
    rw [bl_len] at this
    omega
  have hz2 : (ba (textL ⟨bl x.l, bl x.d⟩)).size ≤ 400000 := by
    rw [ba_size]
    have := textL_le ⟨bl x.l, bl x.d⟩
    simp only [bl_len] at this
    omega
  obtain ⟨c0, c1, c2⟩ := three HN.out
  have hem := empty_iff x.n
  cases he : (bl x.n).isEmpty
  · have HX : Hid (ba (phraseL (bl x.n)) ++ (⟨#[32, 60]⟩ : ByteArray) ++ ba (textL ⟨bl x.l, bl x.d⟩) ++ (⟨#[62]⟩ : ByteArray) = ba (showL x)) := Lib.hid (by
      rw [ba_three]
      unfold showL
      rw [he, if_neg (by decide)])
    rw [he] at hem
    have HT2 : Hid (∀ W, Kept (w.alloc (boxB rbT x)) W → Calls Tryd.prog 28 #[.agg (cellsA x.l x.d).toArray] W fun e W' => e = .returned (.string (ba (textL ⟨bl x.l, bl x.d⟩))) ∧ Kept (w.alloc (boxB rbT x)) W') := Lib.hid (fun W hk => hk.call (HT.out W))
    have HP2 : Hid (∀ W, Kept (w.alloc (boxB rbT x)) W → Calls Tryd.prog 19 #[.string x.n] W fun e W' => e = .returned (.string (ba (phraseL (bl x.n)))) ∧ Kept (w.alloc (boxB rbT x)) W') := Lib.hid (fun W hk => hk.call (HP.out W))
    generalize ba (phraseL (bl x.n)) = P at *
    generalize ba (textL ⟨bl x.l, bl x.d⟩) = X at *
    clear he c1 c2
    go_enter Tryd.func15, Tryd.ntmps15
    go_wp2_with fail
    refine wp_region_kept (by kernel_rfl) (by kernel_rfl) ?_
    repeat (first
      | (go_big_quiet_want
         first
           | refine quiet_load_str 9 (.tmp 9) rfl ⟨w.heap.size, 0, none⟩ rfl (.string x.n) (fun w' hk => (three (range_below HN.out (by simp) hk)).1) Tryd.underlying9 ?_
           | refine quiet_load_row arT (.tmp 13) rfl w.heap.size (0 + 1) rfl (cellsA x.l x.d) _ (fun w' hk => threeA (range_below HN.out (by simp) hk)) Tryd.underlying38 rfl Go.Proofs.YtklmhjoiffaniaaDoor.Addr.sizeAR ?_
         go_simp
         go_big_quiet_on)
      | (go_big_quiet_step ((first | (exact fun _ => rfl) | (intro hk; go_at_call 19; (with_reducible exact (HP2.out _ hk))) | (intro hk; go_at_call 28; (with_reducible exact (HT2.out _ hk)))))))
    refine wpQuiet_nil ?_
    intro W2 hk2
    have HK2 := Lib.hid (HA.out.trans (hk2.below.mono HA.out.size))
    clear hk2
    go_wp2_with fail
    go_ret
    exact ⟨by rw [← HX.out]; rfl, HK2.out⟩
  · have HX : Hid (ba (textL ⟨bl x.l, bl x.d⟩) = ba (showL x)) := Lib.hid (by
      unfold showL
      rw [he, if_pos rfl])
    rw [he] at hem
    generalize ba (textL ⟨bl x.l, bl x.d⟩) = X at *
    clear he HP
    go_enter Tryd.func15, Tryd.ntmps15
    go_wp2_with fail
    refine (HT.out _).mono ?_
    rintro e w1 ⟨rfl, hb⟩
    have HB := Lib.hid (HA.out.trans (hb.mono HA.out.size))
    clear hb
    go_wp2_with fail
    go_ret
    exact ⟨by rw [← HX.out]; rfl, HB.out⟩
theorem ba_comma (a : List UInt8) : ba a ++ (⟨#[44, 32]⟩ : ByteArray) = ba (a ++ [44, 32]) := by
  rw [show (⟨#[44, 32]⟩ : ByteArray) = ba [44, 32] from rfl, ba_cat]
def accL (B : List Bx) (k : Nat) : List UInt8 := joinS [44, 32] ((B.take k).map showL)
theorem accL_next {B : List Bx} {k : Nat} {x : Bx} (hx : B[k]? = some x) : accL B (k + 1) = (if k = 0 then [] else accL B k ++ [44, 32]) ++ showL x := by
  have hlt := (List.getElem?_eq_some_iff.1 hx).1
  have e : (B.take (k + 1)).map showL = (B.take k).map showL ++ [showL x] := by rw [List.take_add_one, hx]; simp
  unfold accL
  rw [e]
  by_cases h0 : k = 0
  · subst h0
    simp [joinS]
  · rw [if_neg h0, joinS_snoc]
    · simp
    · intro h
      have := congrArg List.length h
      rw [List.length_map, List.length_take, List.length_nil] at this
      omega
theorem accL_len (B : List Bx) (h : ∀ b ∈ B, b.n.size ≤ 10000 ∧ b.l.size ≤ 10000 ∧ b.d.size ≤ 10000) (hl : B.length ≤ 1000) (k : Nat) : (ba (accL B k)).size ≤ 70000000 := by
  rw [ba_size]
  have h1 := all_len (B.take k) (fun b hb => h b (List.mem_of_mem_take hb))
  have h2 : (B.take k).length ≤ 1000 := by rw [List.length_take]; omega
  have h3 := Nat.mul_le_mul_right 60002 h2
  unfold showAllL at h1
  unfold accL
  omega
set_option maxRecDepth 100000 in
set_option maxHeartbeats 4000000 in
theorem refShowAll_any (v : Value) (B : List Bx) (w : World) (hv : ReadsB w v B) (hs : Small B) :
    Calls Tryd.prog 17 #[v] w fun e w' => e = .returned (.string (ba (showAllL B))) ∧ Below w.heap.size w w' := by
  have hl := hs.1
  obtain ⟨va, vc, rfl⟩ := hv.shape
  obtain ⟨n, hn⟩ : ∃ n, n = B.length := ⟨_, rfl⟩
  have HSM := Lib.hid hs
  rw [← hn] at hv hl ⊢
  have HV := Lib.hid (fun k a ha => hv.at_ k a ha)
  have HNN := Lib.hid hn
  clear hv hn hs
  go_enter Tryd.func17, Tryd.ntmps17
  go_wp2_with fail
  go_loopw [3, 4] (fun u i wr => ∃ k : Nat, k ≤ n ∧ i = .int .i64 k ∧ u = .string (ba (accL B k)) ∧ Hid (Below w.heap.size w wr)) (fun _ i _ => n - (intOf i).toNat)
  case atStart => exact ⟨0, Nat.zero_le _, rfl, rfl, Lib.hid (Below.refl _ _)⟩
  case round =>
    obtain ⟨k, hk, rfl, rfl, hB⟩ := hrel
    have hz := accL_len B HSM.out.2 HSM.out.1 k
    by_cases hlt : k < n
    · obtain ⟨x, hx⟩ : ∃ a, B[k]? = some a := ⟨B[k]'(by have := HNN.out; omega), List.getElem?_eq_getElem _⟩
      obtain ⟨b1, o1, rfl, hb1, r1⟩ := HV.out k x hx
      obtain ⟨c0, c1, c2⟩ := three (range_below r1 hb1 hB.out)
      have hne := accL_next hx
      obtain ⟨z1, z2, z3⟩ := HSM.out.2 x (List.mem_of_getElem? hx)
      have HSH := Lib.hid (fun W => refShow_any x W (by omega) (by omega) (by omega))
      have hz4 : (ba (showL x)).size ≤ 100000 := by
        rw [ba_size]
        have := show_len x
        omega
      by_cases h0 : k = 0
      · have HX : Hid (ba (accL B k) ++ ba (showL x) = ba (accL B (k + 1))) := Lib.hid (by
          rw [hne, if_pos h0, h0, ba_cat]
          rfl)
        have hq : decide ((0 : Int) < (k : Int)) = false := by rw [h0]; rfl
        have hq2 : decide (0 < k) = false := by rw [h0]; rfl
        generalize ba (accL B k) = o at *
        generalize ba (showL x) = y at *
        clear r1 hx hne h0
        go_wp2_with fail
        refine (HSH.out _).mono ?_
        rintro e w2 ⟨rfl, hb⟩
        have HB2 := Lib.hid (hB.out.trans (hb.mono hB.out.size))
        clear hb
        go_wp2_with fail
        go_roundw
        case rel => exact ⟨k + 1, by omega, by simp, by rw [← HX.out], HB2⟩
        case measure => simp [intOf]; omega
      · have HX : Hid (ba (accL B k) ++ (⟨#[44, 32]⟩ : ByteArray) ++ ba (showL x) = ba (accL B (k + 1))) := Lib.hid (by
          rw [hne, if_neg h0, ba_comma, ba_cat])
        have hq : decide ((0 : Int) < (k : Int)) = true := decide_eq_true (by omega)
        have hq2 : decide (0 < k) = true := decide_eq_true (by omega)
        generalize ba (accL B k) = o at *
        generalize ba (showL x) = y at *
        clear r1 hx hne h0
        go_wp2_with fail
        refine (HSH.out _).mono ?_
        rintro e w2 ⟨rfl, hb⟩
        have HB2 := Lib.hid (hB.out.trans (hb.mono hB.out.size))
        clear hb
        go_wp2_with fail
        go_roundw
        case rel => exact ⟨k + 1, by omega, by simp, by rw [← HX.out], HB2⟩
        case measure => simp [intOf]; omega
    · have HE : Hid (accL B k = showAllL B) := Lib.hid (by
        unfold accL showAllL
        rw [List.take_of_length_le (by have := HNN.out; omega)])
      go_wp2_with fail
      go_ret
      exact ⟨by rw [← HE.out]; rfl, hB.out⟩
end Go.Proofs.YtklmhjoiffaniaaDoor.Mbx
