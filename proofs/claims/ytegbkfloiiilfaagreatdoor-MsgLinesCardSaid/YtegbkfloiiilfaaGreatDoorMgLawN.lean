/-
  The laws walks: MsgLines, MsgJoins.
-/
import Derived.Test.YtegbkfloiiilfaaGreatDoorMgLawA
import Derived.Deep.RegionHeld

/-
  The laws' walks: MsgLines, MsgJoins.
-/
namespace Go.Proofs.YtegbkfloiiilfaaGreatDoor.Msg
open Go Go.RowKit
open Go.Proofs.YtegbkfloiiilfaaGreatDoor.Head

/-! MsgJoins. -/
theorem joinC_take {q : List (List UInt8)} {k : Nat} {l : List UInt8} (h : q[k]? = some l) : joinC (q.take (k + 1)) = joinC (q.take k) ++ (l ++ [13, 10]) := by
  rw [List.take_add_one, h]
  exact joinC_snoc _ _
theorem joinC_le (q : List (List UInt8)) (k : Nat) : (joinC (q.take k)).length ≤ (joinC q).length := by
  conv => rhs; rw [← List.take_append_drop k q]
  unfold joinC
  rw [List.map_append, List.flatten_append, List.length_append]
  omega
set_option maxRecDepth 100000 in
set_option maxHeartbeats 4000000 in
theorem msgJoins_any (s : ByteArray) (w : World) (hm : MaxAt w) : Calls Tryz.prog 9 #[.string s] w (TrueP w) := by
  have HW := Lib.hid (works_any w hm)
  have HM := Lib.hid hm
  clear hm
  by_cases hs : 3000 < s.size
  · have d : (3000 : Int) < (s.size : Int) := by omega
    go_enter Tryz.func9, Tryz.ntmps9
    go_wp2_with fail
    refine HW.out.mono ?_
    rintro e w1 ⟨rfl, hb⟩
    have HB := Lib.hid hb
    clear hb
    go_wp2_with fail
    go_ret
    exact ⟨rfl, HB.out⟩
  · have d : ¬ (3000 : Int) < (s.size : Int) := by omega
    have HL := Lib.hid (fun W (h : MaxAt W) => lines_any none 0 0 s W (by omega) h)
    have hjz : (joinC (linL (bl s))).length ≤ s.size + 2 := by
      rcases join_lin (bl s) with h | h <;> rw [h]
      · rw [bl_len]; omega
      · rw [List.length_append, bl_len]; simp
    have HJ := Lib.hid (join_lin (bl s))
    have HFR := Lib.hid (fun l (h : l ∈ linL (bl s)) => lin_free h)
    have HLZ := Lib.hid (fun l (h : l ∈ linL (bl s)) => lin_len h)
    generalize linL (bl s) = Q at *
    obtain ⟨n, hn⟩ : ∃ n, n = (Q.map ba).length := ⟨_, rfl⟩
    have HNN := Lib.hid hn
    have hnz : n ≤ 4000 := by
      have : ∀ G : List (List UInt8), G.length ≤ (joinC G).length := by
        intro G
        induction G with
        | nil => exact Nat.zero_le _
        | cons a t ih =>
          have e : joinC (a :: t) = a ++ [13, 10] ++ joinC t := by unfold joinC; simp
          rw [e]
          simp only [List.length_append, List.length_cons, List.length_nil]
          omega
      have := this Q
      rw [hn, List.length_map]
      omega
    clear hn
    go_enter Tryz.func9, Tryz.ntmps9
    go_wp2_with fail
    refine HW.out.mono ?_
    rintro e w1 ⟨rfl, hb⟩
    have HB := Lib.hid hb
    have HL1 := Lib.hid (HL.out w1 (HM.out.below hb))
    clear hb
    go_wp2_with fail
    refine HL1.out.mono ?_
    rintro e w2 ⟨u, rfl, hr, hb⟩
    have HB2 := Lib.hid (HB.out.trans (hb.mono HB.out.size))
    obtain ⟨ua, uc, rfl, hsh⟩ := strs_shape hr HNN.out
    have HV := Lib.hid hsh
    clear hb hr hsh
    go_wp2_with fail
    go_loopw [3, 16] (fun o i wr => ∃ (k : Nat) (y : ByteArray), k ≤ n ∧ i = .int .i64 k ∧ o = .string y ∧ y.size ≤ 4000 ∧ Hid (bl y = joinC (Q.take k)) ∧ w2 = wr) (fun _ i _ => n - (intOf i).toNat)
    case atStart => exact ⟨0, ⟨#[]⟩, Nat.zero_le _, rfl, rfl, Nat.zero_le _, Lib.hid rfl, rfl⟩
    case round =>
      obtain ⟨k, y, hk, rfl, rfl, hyz, hY, rfl⟩ := hrel
      by_cases hlt : k < n
      · obtain ⟨l, hl⟩ : ∃ l, Q[k]? = some l := ⟨Q[k]'(by have := HNN.out; rw [List.length_map] at this; omega), List.getElem?_eq_getElem _⟩
        have hlm : (Q.map ba)[k]? = some (ba l) := by rw [List.getElem?_map, hl]; rfl
        obtain ⟨g, rfl, hg, hcell⟩ := HV.out k _ hlm
        have hmem := List.mem_of_getElem? hl
        have hN : bl (y ++ (ba l ++ (⟨#[13, 10]⟩ : ByteArray))) = joinC (Q.take (k + 1)) := by
          rw [joinC_take hl, bl_app, bl_app, hY.out, bl_ba]
        have hNz : (y ++ (ba l ++ (⟨#[13, 10]⟩ : ByteArray))).size ≤ 4000 := by
          rw [← bl_len, hN]
          have := joinC_le Q (k + 1)
          omega
        have hFr : Hid (∀ (i : Nat) (a b : UInt8), (bl (ba l))[i]? = some a → (bl (ba l))[i + 1]? = some b → ¬ (a = 13 ∧ b = 10)) := Lib.hid (by rw [bl_ba]; exact free_at (HFR.out l hmem))
        have hzz : (ba l).size ≤ 3000 := by
          rw [ba_size]
          have := HLZ.out l hmem
          rw [bl_len] at this
          omega
        have HN := Lib.hid hN
        clear hl hlm hN hmem hg
        generalize ba l = z at *
        have hz2 : (z ++ (⟨#[13, 10]⟩ : ByteArray)).size ≤ 4000 := by
          rw [ByteArray.size_append]
          show z.size + 2 ≤ 4000
          omega
        go_wp2_with fail
        go_loopw [6] (fun i wr => ∃ j : Nat, j ≤ z.size ∧ i = .int .i64 j ∧ w2 = wr) (fun i _ => z.size - (intOf i).toNat)
        case atStart => exact ⟨0, Nat.zero_le _, rfl, rfl⟩
        case round =>
          obtain ⟨j, hj, rfl, rfl⟩ := hrel
          by_cases hj2 : j + 1 < z.size
          · have d1 : (j : Int) + 1 < (z.size : Int) := by omega
            have hja : j < z.size := by omega
            have hfree := hFr.out j z[j] z[j + 1] (by rw [List.getElem?_eq_getElem (by rw [bl_len]; exact hja)]; rfl) (by rw [List.getElem?_eq_getElem (by rw [bl_len]; exact hj2)]; rfl)
            by_cases e13 : z[j].toNat = 13
            · have t13 : ((z[j].toNat : Int) == 13) = true := by rw [e13]; rfl
              have t10 : ((z[j + 1].toNat : Int) == 10) = false := by
                rw [beq_eq_false_iff_ne]
                intro e
                apply hfree
                refine ⟨by rw [← UInt8.toNat_inj]; exact e13, ?_⟩
                rw [← UInt8.toNat_inj]
                show z[j + 1].toNat = 10
                omega
              clear e13 hfree
              go_wp2_with fail
              go_roundw
              case rel => exact ⟨j + 1, by omega, by simp, trivial⟩
              case measure => simp [intOf]; omega
            · have t13 : ((z[j].toNat : Int) == 13) = false := by rw [beq_eq_false_iff_ne]; omega
              clear e13 hfree
              go_wp2_with fail
              go_roundw
              case rel => exact ⟨j + 1, by omega, by simp, trivial⟩
              case measure => simp [intOf]; omega
          · have d1 : ¬ (j : Int) + 1 < (z.size : Int) := by omega
            go_wp2_with fail
            go_roundw
            case rel => exact ⟨k + 1, _, by omega, by simp, rfl, hNz, HN, trivial⟩
            case measure => simp [intOf]; omega
      · have hyj : bl y = joinC Q := by
          have h := hY.out
          rw [List.take_of_length_le (by have := HNN.out; rw [List.length_map] at this; omega)] at h
          exact h
        have hs3 : s.size ≤ 3000 := by omega
        rcases HJ.out with h | h
        · have e1 : (y.toList == s.toList) = true := by
            rw [Lib.toList_data, Lib.toList_data, beq_iff_eq]
            exact hyj.trans h
          clear h hyj
          go_wp2_with fail
          go_ret
          exact ⟨rfl, HB2.out⟩
        · have e1 : (y.toList == s.toList) = false := by
            rw [Lib.toList_data, Lib.toList_data, beq_eq_false_iff_ne]
            intro e
            have := congrArg List.length (hyj.symm.trans e)
            rw [h, List.length_append] at this
            simp at this
          have e2 : (y.toList == (s ++ (⟨#[13, 10]⟩ : ByteArray)).toList) = true := by
            rw [Lib.toList_data, Lib.toList_data, beq_iff_eq]
            show bl y = bl (s ++ (⟨#[13, 10]⟩ : ByteArray))
            rw [bl_app, hyj, h]
          clear h hyj
          go_wp2_with fail
          go_ret
          exact ⟨rfl, HB2.out⟩

/-! MsgLines. -/
set_option maxRecDepth 100000 in
set_option maxHeartbeats 4000000 in
theorem msgLines_any (v : Value) (q : List Head.Fd) (b : ByteArray) (w : World) (hv : ReadsF w v q) (hm : MaxAt w) : Calls Tryz.prog 6 #[msV v b] w (TrueP w) := by
  obtain ⟨va, vc, rfl⟩ := hv.shape
  obtain ⟨n, hn⟩ : ∃ n, n = q.length := ⟨_, rfl⟩
  rw [← hn] at hv ⊢
  have HA : Hid (Below w.heap.size w (w.alloc (boxM rmT (.slice va n vc) b))) := Lib.hid ((Below.refl _ _).alloc (Nat.le_refl _) _)
  have HM := Lib.hid hm
  by_cases hb : 3000 < b.size
  · have d : (3000 : Int) < (b.size : Int) := by omega
    have HW := Lib.hid (works_any _ (hm.below HA.out))
    clear hv hm hn
    go_enter Tryz.func6, Tryz.ntmps6
    go_wp2_with fail
    refine HW.out.mono ?_
    rintro e w1 ⟨rfl, hb⟩
    have HB := Lib.hid (HA.out.trans (hb.mono HA.out.size))
    clear hb
    go_wp2_with fail
    go_ret
    exact ⟨rfl, HB.out⟩
  · have d : ¬ (3000 : Int) < (b.size : Int) := by omega
    obtain ⟨W2, hW2⟩ : ∃ W2, W2 = ((w.alloc (boxM rmT (.slice va n vc) b)).alloc (boxM msT (.slice none 0 0) b)) := ⟨_, rfl⟩
    have hz1 : (w.alloc (boxM rmT (.slice va n vc) b)).heap.size = w.heap.size + 1 := by simp
    have hz3 : W2.heap.size = w.heap.size + 2 := by rw [hW2]; simp
    have a2 : Below (w.alloc (boxM rmT (.slice va n vc) b)).heap.size (w.alloc (boxM rmT (.slice va n vc) b)) W2 := by rw [hW2]; exact (Below.refl _ _).alloc (Nat.le_refl _) _
    have hA : Below w.heap.size w W2 := HA.out.trans (a2.mono HA.out.size)
    have hR1 : W2.rangeAt w.heap.size 0 (msC (.slice va n vc) b) := range_below (new_boxM w rmT (.slice va n vc) b) (by simp) a2
    have hR2 : W2.rangeAt (w.heap.size + 1) 0 (msC (.slice none 0 0) b) := by
      have := new_boxM (w.alloc (boxM rmT (.slice va n vc) b)) msT (.slice none 0 0) b
      rw [hz1] at this
      rw [hW2]
      exact this
    have HA2 := Lib.hid hA
    have HQ : Hid (∀ W, Below W2.heap.size W2 W → W.cell? ⟨w.heap.size, 0 + 1, none⟩ = some (.string b) ∧ W.cell? ⟨w.heap.size + 1, 0, none⟩ = some (.slice none 0 0) ∧ W.cell? ⟨w.heap.size + 1, 0 + 1, none⟩ = some (.string b)) := Lib.hid (fun W hb => by
      obtain ⟨_, e1⟩ := twoM (range_below hR1 (by rw [hz3]; omega) hb)
      obtain ⟨e2, e3⟩ := twoM (range_below hR2 (by rw [hz3]; omega) hb)
      exact ⟨e1, e2, e3⟩)
    have hlz : (linL (bl b)).length ≤ 1000000 := by
      have h1 := linL_le (bl b)
      have h2 := spl_count b.size (bl b) (by rw [bl_len]; exact Nat.le_refl _)
      rw [bl_len] at h2
      omega
    have HA1 : Hid (∀ W, Below W2.heap.size W2 W → Calls Tryz.prog 32 #[msV (.slice none 0 0) b] W fun e w' => ∃ u, e = .returned u ∧ w'.cell? ⟨w.heap.size, 0 + 1, none⟩ = some (.string b) ∧ w'.cell? ⟨w.heap.size + 1, 0, none⟩ = some (.slice none 0 0) ∧ w'.cell? ⟨w.heap.size + 1, 0 + 1, none⟩ = some (.string b) ∧ Below W2.heap.size W2 w' ∧ Below W.heap.size W w' ∧ Hid (∀ W', Below w'.heap.size w' W' → ReadsS W' u ((linL (bl b)).map ba))) := Lib.hid (fun W hb => by
      refine (lines_any none 0 0 b W (by omega) (HM.out.below (HA2.out.trans (hb.mono HA2.out.size)))).mono ?_
      rintro e w' ⟨u, rfl, hr, ht⟩
      have hb' : Below W2.heap.size W2 w' := hb.trans (ht.mono hb.size)
      exact ⟨u, rfl, (HQ.out w' hb').1, (HQ.out w' hb').2.1, (HQ.out w' hb').2.2, hb', ht, Lib.hid (fun W' h => hr.below h)⟩)
    have HA3 : Hid (∀ W, Below W2.heap.size W2 W → Calls Tryz.prog 33 #[msV (.slice none 0 0) b] W fun e w' => ∃ u, e = .returned u ∧ w'.cell? ⟨w.heap.size, 0 + 1, none⟩ = some (.string b) ∧ w'.cell? ⟨w.heap.size + 1, 0, none⟩ = some (.slice none 0 0) ∧ w'.cell? ⟨w.heap.size + 1, 0 + 1, none⟩ = some (.string b) ∧ Below W2.heap.size W2 w' ∧ Below W.heap.size W w' ∧ Hid (∀ W', Below w'.heap.size w' W' → ReadsS W' u ((linL (bl b)).map ba))) := Lib.hid (fun W hb => by
      refine (rlins_any none 0 0 b W (by omega)).mono ?_
      rintro e w' ⟨u, rfl, ht⟩
      have hb' : Below W2.heap.size W2 w' := hb.trans (ht.2.mono hb.size)
      exact ⟨u, rfl, (HQ.out w' hb').1, (HQ.out w' hb').2.1, (HQ.out w' hb').2.2, hb', ht.2, Lib.hid (fun W' h => (owns_readsS ht.1).below h)⟩)
    have HA4 : Hid (∀ u u' W, Below W2.heap.size W2 W → ReadsS W u ((linL (bl b)).map ba) → ReadsS W u' ((linL (bl b)).map ba) → Calls Tryz.prog 31 #[u, u'] W fun e w' => e = .returned (.bool true) ∧ w'.cell? ⟨w.heap.size, 0 + 1, none⟩ = some (.string b) ∧ w'.cell? ⟨w.heap.size + 1, 0, none⟩ = some (.slice none 0 0) ∧ w'.cell? ⟨w.heap.size + 1, 0 + 1, none⟩ = some (.string b) ∧ Below W2.heap.size W2 w' ∧ Below W.heap.size W w') := Lib.hid (fun u u' W hb h1 h2 => by
      refine (texts_any u u' _ W h1 h2 (by rw [List.length_map]; exact hlz)).mono ?_
      rintro e w' ⟨rfl, ht⟩
      have hb' : Below W2.heap.size W2 w' := hb.trans (ht.mono hb.size)
      exact ⟨rfl, (HQ.out w' hb').1, (HQ.out w' hb').2.1, (HQ.out w' hb').2.2, hb', ht⟩)
    have HA5 : Hid (∀ W, Below W2.heap.size W2 W → Calls Tryz.prog 10 #[] W fun e w' => e = .returned (.bool true) ∧ w'.cell? ⟨w.heap.size, 0 + 1, none⟩ = some (.string b) ∧ w'.cell? ⟨w.heap.size + 1, 0, none⟩ = some (.slice none 0 0) ∧ w'.cell? ⟨w.heap.size + 1, 0 + 1, none⟩ = some (.string b) ∧ Below W2.heap.size W2 w' ∧ Below W.heap.size W w') := Lib.hid (fun W hb => by
      refine (works_any W (HM.out.below (HA2.out.trans (hb.mono HA2.out.size)))).mono ?_
      rintro e w' ⟨rfl, ht⟩
      have hb' : Below W2.heap.size W2 w' := hb.trans (ht.mono hb.size)
      exact ⟨rfl, (HQ.out w' hb').1, (HQ.out w' hb').2.1, (HQ.out w' hb').2.2, hb', ht⟩)
    obtain ⟨c1, d0, d1⟩ := HQ.out W2 (Below.refl _ _)
    generalize (linL (bl b)).map ba = T at *
    clear hv hm hn hz1 hz3 a2 hA hR1 hR2 hlz
    go_enter Tryz.func6, Tryz.ntmps6
    go_wp2_with fail
    rw [← hW2]
    clear hW2
    go_region_held (fun W => W.cell? ⟨w.heap.size, 0 + 1, none⟩ = some (.string b) ∧ W.cell? ⟨w.heap.size + 1, 0, none⟩ = some (.slice none 0 0) ∧ W.cell? ⟨w.heap.size + 1, 0 + 1, none⟩ = some (.string b)) (first | go_keep | (all_goals assumption)) ((first
      | (go_at_call 32; with_reducible refine (HA1.out _ (by (repeat (first | assumption | exact Below.refl _ _ | with_reducible refine bel_drew ?_)))).mono ?_; rintro e wa ⟨ua, rfl, sa0, sa1, sa2, ba2, baW, hua⟩)
      | (go_at_call 33; with_reducible refine (HA3.out _ (by (repeat (first | assumption | exact Below.refl _ _ | with_reducible refine bel_drew ?_)))).mono ?_; rintro e wb ⟨ub, rfl, sb0, sb1, sb2, bb2, bbW, hub⟩)
      | (go_at_call 31; with_reducible refine (HA4.out _ _ _ (by (repeat (first | assumption | exact Below.refl _ _ | with_reducible refine bel_drew ?_))) (hua.out _ (by first | exact Below.refl _ _ | assumption)) (hub.out _ (by first | exact Below.refl _ _ | assumption))).mono ?_; rintro e wc ⟨rfl, sc0, sc1, sc2, bc2, bcW⟩)
      | (go_at_call 10; with_reducible refine (HA5.out _ (by (repeat (first | assumption | exact Below.refl _ _ | with_reducible refine bel_drew ?_)))).mono ?_; rintro e wd ⟨rfl, sd0, sd1, sd2, bd2, bdW⟩)))
    have HBE : Hid (Below w.heap.size w wd) := Lib.hid (HA2.out.trans (bd2.mono HA2.out.size))
    clear sa0 sa1 sa2 sb0 sb1 sb2 sc0 sc1 sc2 sd0 sd1 sd2 ba2 baW bb2 bbW bc2 bcW bd2 bdW c1 d0 d1
    go_wp2_with fail
    go_ret
    exact ⟨rfl, HBE.out⟩
end Go.Proofs.YtegbkfloiiilfaaGreatDoor.Msg
