/-
  Walks: Phrase, Show, ShowAll; how boxes are written, in plain words.
-/
import Derived.Test.YtklmhjoiffaniaaDoorMbxRead
namespace Go.Proofs.YtklmhjoiffaniaaDoor.Mbx
open Go Go.RowKit
open Go.Proofs.YtklmhjoiffaniaaDoor.Lex
open Go.Proofs.YtklmhjoiffaniaaDoor.Addr (strT adT arT adB cellsA textL textL_le text_any all_take all_not ba_cat quiet_load_str)
open Go.Proofs.YtklmhjoiffaniaaDoor.Sha (Kept wp_region_kept wp_region_kept_tail quiet_load_row)

/-! How boxes are written. -/
def phraseL (s : List UInt8) : List UInt8 := if (pieces s).all atomB = true then s else quoteL s
def showL (b : Bx) : List UInt8 := if (bl b.n).isEmpty = true then textL (adOf b) else phraseL (bl b.n) ++ ([32, 60] ++ (textL (adOf b) ++ [62]))
def showAllL (B : List Bx) : List UInt8 := joinS [44, 32] (B.map showL)
theorem phrase_len (s : List UInt8) : (phraseL s).length ≤ 2 * s.length + 2 := by
  unfold phraseL
  split
  · omega
  · exact quote_len s
theorem show_len (b : Bx) : (showL b).length ≤ 2 * b.n.size + 2 * b.l.size + b.d.size + 8 := by
  have h1 := phrase_len (bl b.n)
  have h2 := textL_le (adOf b)
  simp only [bl_len] at h1 h2
  unfold showL
  split
  · omega
  · simp only [List.length_append, List.length_cons, List.length_nil]
    omega
theorem ba_three (a b : List UInt8) : ba a ++ (⟨#[32, 60]⟩ : ByteArray) ++ ba b ++ (⟨#[62]⟩ : ByteArray) = ba (a ++ ([32, 60] ++ (b ++ [62]))) := by
  rw [show (⟨#[32, 60]⟩ : ByteArray) = ba [32, 60] from rfl, show (⟨#[62]⟩ : ByteArray) = ba [62] from rfl, ba_cat, ba_cat, ba_cat]
  simp
theorem empty_iff (s : ByteArray) : (s.toList == []) = (bl s).isEmpty := by
  rw [Lib.toList_data]
  show (s.data.toList == []) = s.data.toList.isEmpty
  cases s.data.toList <;> rfl
theorem mem_get {α : Type} {l : List α} {i : Nat} {a : α} (h : l[i]? = some a) : a ∈ l := List.mem_of_getElem? h
theorem piece_size {s : ByteArray} {k : Nat} {p : List UInt8} (h : (pieces (bl s))[k]? = some p) : (ba p).size ≤ s.size := by
  rw [ba_size, ← bl_len]
  exact pieces_le (mem_get h)
/-- Boxes of which none is too long to be written. -/
def Small (B : List Bx) : Prop := B.length ≤ 1000 ∧ ∀ b ∈ B, b.n.size ≤ 10000 ∧ b.l.size ≤ 10000 ∧ b.d.size ≤ 10000
theorem small_sum : ∀ (B : List Bx), (∀ b ∈ B, b.n.size ≤ 10000 ∧ b.l.size ≤ 10000 ∧ b.d.size ≤ 10000) → sumS (B.map fun b => ba (showL b)) ≤ B.length * 60000
  | [], _ => by simp [sumS]
  | b :: B, h => by
    have ih := small_sum B (fun x hx => h x (by simp [hx]))
    have h1 := h b (by simp)
    have h2 := show_len b
    have e : sumS ((b :: B).map fun b => ba (showL b)) = (ba (showL b)).size + sumS (B.map fun b => ba (showL b)) := by simp [sumS]
    rw [e, ba_size, List.length_cons, Nat.succ_mul]
    omega
theorem all_len (B : List Bx) (h : ∀ b ∈ B, b.n.size ≤ 10000 ∧ b.l.size ≤ 10000 ∧ b.d.size ≤ 10000) : (showAllL B).length ≤ B.length * 60002 := by
  have h1 := joinS_len [44, 32] (B.map fun b => ba (showL b))
  have h2 := small_sum B h
  have e : (B.map fun b => ba (showL b)).map bl = B.map showL := by rw [List.map_map]; congr 1
  rw [e, List.length_map] at h1
  simp only [List.length_cons, List.length_nil] at h1
  unfold showAllL
  omega
set_option maxRecDepth 100000 in
set_option maxHeartbeats 4000000 in
theorem phrase_any (s : ByteArray) (w : World) (hs : s.size ≤ 1000000) :
    Calls Tryd.prog 18 #[.string s] w fun e w' => e = .returned (.string (ba (phraseL (bl s)))) ∧ Below w.heap.size w w' := by
  have HS := Lib.hid (fun W => split_any s W hs)
  have HQ := Lib.hid (fun W => quote_any s W (by omega))
  obtain ⟨n, hn⟩ : ∃ n, n = (pieces (bl s)).length := ⟨_, rfl⟩
  have hn1 : n ≤ 1000001 := by
    have := pcs_count (bl s) []
    rw [bl_len] at this
    rw [hn]
    exact Nat.le_trans this (by omega)
  go_enter Tryd.func18, Tryd.ntmps18
  go_wp2_with fail
  refine (HS.out _).mono ?_
  rintro e w1 ⟨v, rfl, ⟨b, cap, rfl, hc, hbl, hcell⟩, hb⟩
  rw [← hn] at hc ⊢
  have HB := Lib.hid hb
  have HC := Lib.hid hcell
  clear hb hcell
  go_wp2_with fail
  go_loopw [8] (fun i wr => ∃ k : Nat, k ≤ n ∧ i = .int .i64 k ∧ Hid (((pieces (bl s)).take k).all atomB = true) ∧ w1 = wr) (fun i _ => n - (intOf i).toNat)
  case atStart => exact ⟨0, Nat.zero_le _, rfl, Lib.hid (by simp), rfl⟩
  case round =>
    obtain ⟨k, hk, rfl, hall, rfl⟩ := hrel
    by_cases hlt : k < n
    · obtain ⟨p, hp⟩ : ∃ p, (pieces (bl s))[k]? = some p := ⟨(pieces (bl s))[k]'(by omega), List.getElem?_eq_getElem _⟩
      have hx := HC.out k p hp
      have hz := piece_size hp
      have HL := Lib.hid (fun W => isAtom_any (ba p) W (by omega))
      rw [bl_ba] at HL
      cases ha : atomB p
      · rw [ha] at HL
        have HE : Hid (quoteL (bl s) = phraseL (bl s)) := Lib.hid (by unfold phraseL; rw [all_not hp ha, if_neg (by decide)])
        clear ha hp
        generalize ba p = x at *
        go_wp2_with fail
        refine (HL.out _).mono ?_
        rintro e' w2 ⟨rfl, rfl⟩
        go_wp2_with fail
        refine (HQ.out _).mono ?_
        rintro e' w3 ⟨rfl, hb⟩
        have HB3 := Lib.hid (HB.out.trans (hb.mono HB.out.size))
        clear hb
        go_wp2_with fail
        go_ret
        exact ⟨by rw [← HE.out]; rfl, HB3.out⟩
      · rw [ha] at HL
        have HN := Lib.hid (Go.Proofs.YtklmhjoiffaniaaDoor.Addr.all_take hp hall.out ha)
        clear ha hp
        generalize ba p = x at *
        go_wp2_with fail
        refine (HL.out _).mono ?_
        rintro e' w2 ⟨rfl, rfl⟩
        go_wp2_with fail
        go_roundw
        case rel => exact ⟨k + 1, by omega, by simp, HN, trivial⟩
        case measure => simp [intOf]; omega
    · have HE : Hid (ba (phraseL (bl s)) = s) := Lib.hid (by
        have h := hall.out
        rw [List.take_of_length_le (by omega)] at h
        unfold phraseL
        rw [if_pos h, ba_bl])
      go_wp2_with fail
      go_ret
      exact ⟨by rw [HE.out]; rfl, HB.out⟩
set_option maxRecDepth 100000 in
set_option maxHeartbeats 4000000 in
theorem show_any (x : Bx) (w : World) (hn : x.n.size ≤ 100000) (hl : x.l.size ≤ 100000) (hd : x.d.size ≤ 100000) :
    Calls Tryd.prog 14 #[bxV x] w fun e w' => e = .returned (.string (ba (showL x))) ∧ Below w.heap.size w w' := by
  have HN := Lib.hid (new_boxB w bxT x)
  have HA : Hid (Below w.heap.size w (w.alloc (boxB bxT x))) := Lib.hid ((Below.refl _ _).alloc (Nat.le_refl _) _)
  have HT := Lib.hid (fun W => text_any x.l x.d W (by omega) (by omega))
  have HP := Lib.hid (fun W => phrase_any x.n W (by omega))
  have hz1 : (ba (phraseL (bl x.n))).size ≤ 300000 := by
    rw [ba_size]
    have := phrase_len (bl x.n)
    rw [bl_len] at this
    omega
  have hz2 : (ba (textL ⟨bl x.l, bl x.d⟩)).size ≤ 400000 := by
    rw [ba_size]
    have := textL_le ⟨bl x.l, bl x.d⟩
    simp only [bl_len] at this
    omega
  obtain ⟨c0, c1, c2⟩ := three HN.out
  have hem := empty_iff x.n
  cases he : (bl x.n).isEmpty
  · have HX : Hid (ba (phraseL (bl x.n)) ++ (⟨#[32, 60]⟩ : ByteArray) ++ ba (textL ⟨bl x.l, bl x.d⟩) ++ (⟨#[62]⟩ : ByteArray) = ba (showL x)) := Lib.hid (by
      rw [ba_three]
      unfold showL
      rw [he, if_neg (by decide)])
    rw [he] at hem
    have HT2 : Hid (∀ W, Kept (w.alloc (boxB bxT x)) W → Calls Tryd.prog 27 #[.agg (cellsA x.l x.d).toArray] W fun e W' => e = .returned (.string (ba (textL ⟨bl x.l, bl x.d⟩))) ∧ Kept (w.alloc (boxB bxT x)) W') := Lib.hid (fun W hk => hk.call (HT.out W))
    have HP2 : Hid (∀ W, Kept (w.alloc (boxB bxT x)) W → Calls Tryd.prog 18 #[.string x.n] W fun e W' => e = .returned (.string (ba (phraseL (bl x.n)))) ∧ Kept (w.alloc (boxB bxT x)) W') := Lib.hid (fun W hk => hk.call (HP.out W))
    generalize ba (phraseL (bl x.n)) = P at *
    generalize ba (textL ⟨bl x.l, bl x.d⟩) = X at *
    clear he c1 c2
    go_enter Tryd.func14, Tryd.ntmps14
    go_wp2_with fail
    refine wp_region_kept (by kernel_rfl) (by kernel_rfl) ?_
    repeat (first
      | (go_big_quiet_want
         first
           | refine quiet_load_str 9 (.tmp 9) rfl ⟨w.heap.size, 0, none⟩ rfl (.string x.n) (fun w' hk => (three (range_below HN.out (by simp) hk)).1) Tryd.underlying9 ?_
           | refine quiet_load_row adT (.tmp 13) rfl w.heap.size (0 + 1) rfl (cellsA x.l x.d) _ (fun w' hk => threeA (range_below HN.out (by simp) hk)) Tryd.underlying31 rfl Go.Proofs.YtklmhjoiffaniaaDoor.Addr.sizeA ?_
         go_simp
         go_big_quiet_on)
      | (go_big_quiet_step ((first | (exact fun _ => rfl) | (intro hk; go_at_call 18; (with_reducible exact (HP2.out _ hk))) | (intro hk; go_at_call 27; (with_reducible exact (HT2.out _ hk)))))))
    refine wpQuiet_nil ?_
    intro W2 hk2
    have HK2 := Lib.hid (HA.out.trans (hk2.below.mono HA.out.size))
    clear hk2
    go_wp2_with fail
    go_ret
    exact ⟨by rw [← HX.out]; rfl, HK2.out⟩
  · have HX : Hid (ba (textL ⟨bl x.l, bl x.d⟩) = ba (showL x)) := Lib.hid (by
      unfold showL
      rw [he, if_pos rfl])
    rw [he] at hem
    generalize ba (textL ⟨bl x.l, bl x.d⟩) = X at *
    clear he HP
    go_enter Tryd.func14, Tryd.ntmps14
    go_wp2_with fail
    refine (HT.out _).mono ?_
    rintro e w1 ⟨rfl, hb⟩
    have HB := Lib.hid (HA.out.trans (hb.mono HA.out.size))
    clear hb
    go_wp2_with fail
    go_ret
    exact ⟨by rw [← HX.out]; rfl, HB.out⟩
set_option maxRecDepth 100000 in
set_option maxHeartbeats 4000000 in
theorem showAll_any (v : Value) (B : List Bx) (w : World) (hv : ReadsB w v B) (hs : Small B) :
    Calls Tryd.prog 16 #[v] w fun e w' => e = .returned (.string (ba (showAllL B))) ∧ Below w.heap.size w w' := by
  have hl := hs.1
  obtain ⟨va, vc, rfl⟩ := hv.shape
  obtain ⟨n, hn⟩ : ∃ n, n = B.length := ⟨_, rfl⟩
  have HJ : Hid (∀ v' W, ReadsS W v' (B.map fun b => ba (showL b)) → Calls Tryd.prog 29 #[v', .string ⟨#[44, 32]⟩] W fun e w' => e = .returned (.string (ba (showAllL B))) ∧ Below W.heap.size W w') := Lib.hid (fun v' W h => by
    have h1 := small_sum B hs.2
    have := join_any v' _ ⟨#[44, 32]⟩ W h (by rw [List.length_map]; omega) (by decide) (by decide) (by omega)
    rw [List.map_map] at this
    have e : (bl ∘ fun b : Bx => ba (showL b)) = showL := by funext b; simp
    rw [e] at this
    exact this)
  have HSM := Lib.hid hs
  rw [← hn] at hv hl ⊢
  have HV := Lib.hid (fun k a ha => hv.at_ k a ha)
  have HNN := Lib.hid hn
  clear hv hn hs
  have HS := Lib.hid (TxAt.start w)
  go_enter Tryd.func16, Tryd.ntmps16
  go_wp2_with fail
  go_loopw [3, 8] (fun u i wr => ∃ k : Nat, k ≤ n ∧ i = .int .i64 k ∧ Hid (TxAt w wr u ((B.take k).map fun b => ba (showL b)))) (fun _ i _ => n - (intOf i).toNat)
  case atStart => exact ⟨0, Nat.zero_le _, rfl, HS⟩
  case round =>
    clear HS
    obtain ⟨k, hk, rfl, hB⟩ := hrel
    obtain ⟨ua, uc, rfl⟩ := owns_slice hB.out.1
    have hlk : ((B.take k).map fun b => ba (showL b)).length = k := by rw [List.length_map, List.length_take]; have := HNN.out; omega
    rw [hlk] at hB ⊢
    by_cases hlt : k < n
    · obtain ⟨x, hx⟩ : ∃ a, B[k]? = some a := ⟨B[k]'(by have := HNN.out; omega), List.getElem?_eq_getElem _⟩
      obtain ⟨b1, o1, rfl, hb1, r1⟩ := HV.out k x hx
      obtain ⟨c0, c1, c2⟩ := three (range_below r1 hb1 hB.out.2)
      have hne : (B.take (k + 1)).map (fun b => ba (showL b)) = (B.take k).map (fun b => ba (showL b)) ++ [ba (showL x)] := by
        rw [List.take_add_one, hx]
        simp
      obtain ⟨z1, z2, z3⟩ := HSM.out.2 x (List.mem_of_getElem? hx)
      have HSH := Lib.hid (fun W => show_any x W (by omega) (by omega) (by omega))
      have HNE := Lib.hid hne
      have HLK := Lib.hid hlk
      clear r1 hx hne hlk
      go_wp2_with fail
      refine (HSH.out _).mono ?_
      rintro e w2 ⟨rfl, hb⟩
      obtain ⟨a', c', w4, hr, hh⟩ := (hB.out.on (((Below.refl wr.heap.size wr).alloc (Nat.le_refl _) (boxB bxT x)).trans (hb.mono (by simp)))).add HLK.out (ba (showL x)) (by omega)
      have HR := Lib.hid hr
      have HN : Hid (TxAt w w4 (.slice a' (k + 1) c') ((B.take (k + 1)).map fun b => ba (showL b))) := Lib.hid (by rw [HNE.out]; exact hh.out)
      clear hr hh hb
      generalize ba (showL x) = y at *
      go_wp2_with (at_builtin; refine Lib.wpList_append_run _ rfl _ _ _ _ rfl _ _ rfl rfl _ _ HR.out ?_)
      go_roundw
      case rel => exact ⟨k + 1, by omega, by simp, HN⟩
      case measure => simp [intOf]; omega
    · have HE : Hid (ReadsS wr (.slice ua k uc) (B.map fun b => ba (showL b)) ∧ Below w.heap.size w wr) := Lib.hid (by
        have e : B.take k = B := List.take_of_length_le (by have := HNN.out; omega)
        have h := hB.out
        rw [e] at h
        exact ⟨owns_readsS h.1, h.2⟩)
      have HJ2 := Lib.hid (HJ.out _ _ HE.out.1)
      clear hlk
      go_wp2_with fail
      refine HJ2.out.mono ?_
      rintro e w2 ⟨rfl, hb⟩
      have HB2 := Lib.hid (HE.out.2.trans (hb.mono HE.out.2.size))
      clear hb
      go_wp2_with fail
      go_ret
      exact ⟨rfl, HB2.out⟩
end Go.Proofs.YtklmhjoiffaniaaDoor.Mbx
