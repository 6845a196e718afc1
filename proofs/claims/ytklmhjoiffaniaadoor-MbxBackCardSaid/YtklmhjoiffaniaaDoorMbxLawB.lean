/-
  The law MbxBack walked.
-/
import Derived.Test.YtklmhjoiffaniaaDoorMbxLawA
import Derived.Test.YtklmhjoiffaniaaDoorMbxBack
namespace Go.Proofs.YtklmhjoiffaniaaDoor.Mbx
open Go Go.RowKit
open Go.Proofs.YtklmhjoiffaniaaDoor.Lex
open Go.Proofs.YtklmhjoiffaniaaDoor.Addr (adT adB cellsA right_any rightB rightB_iff)
open Go.Proofs.YtklmhjoiffaniaaDoor.Sha (Kept wp_region_kept wp_region_kept_tail quiet_load_row)

theorem mem_sumN {B : List Bx} {b : Bx} (h : b ∈ B) : b.n.size ≤ sumN B := by
  induction B with
  | nil => cases h
  | cons u T ih =>
    unfold sumN at *
    simp only [List.map_cons, List.sum_cons] at *
    rcases List.mem_cons.1 h with rfl | h
    · omega
    · have := ih h; omega
theorem good_size {b : Bx} (h : Good b) : b.l.size ≤ 64 ∧ b.d.size ≤ 253 := by
  obtain ⟨_, _, h1, h2, _⟩ := Addr.right_parts h.2
  rw [← bl_len, ← bl_len]
  exact ⟨h1, h2⟩
set_option maxRecDepth 100000 in
set_option maxHeartbeats 8000000 in
theorem mbxBack_any (s : ByteArray) (w : World) :
    Calls Tryd.prog 6 #[.string s] w (TrueP w) := by
  have HW := Lib.hid (works_any w)
  by_cases hz : 2000 < s.size
  · go_enter Tryd.func6, Tryd.ntmps6
    go_wp2_with fail
    refine HW.out.mono ?_
    rintro e w1 ⟨rfl, hb⟩
    have HB := Lib.hid hb
    clear hb
    go_wp2_with fail
    go_ret
    exact ⟨rfl, HB.out⟩
  have HRD := Lib.hid (fun W => read_any s W (by omega))
  have hway : ((readL (bl s)).1 ≠ 0 ∧ (readL (bl s)).2 = []) ∨ readL (bl s) = (0, []) ∨ ∃ B, readL (bl s) = (0, B) ∧ B ≠ [] ∧ (∀ b ∈ B, Good b) ∧ B.length ≤ 100 ∧ sumN B ≤ 4000 := by
    by_cases h : (readL (bl s)).1 = 0
    · have hB : readL (bl s) = (0, (readL (bl s)).2) := by rw [← h]
      obtain ⟨g1, g2, g3⟩ := read_good h
      rw [bl_len] at g3
      by_cases h1 : (readL (bl s)).2 = []
      · rw [h1] at hB
        exact .inr (.inl hB)
      · exact .inr (.inr ⟨_, hB, h1, g1, g2, by omega⟩)
    · exact .inl ⟨h, read_none h⟩
  generalize readL (bl s) = R at *
  rcases hway with ⟨h0, h1⟩ | rfl | ⟨B, rfl, hne, hg, hlen, hsum⟩
  · have q1 : ((R.1 : Int) != 0) = true := int_ne h0
    have HR2 : Hid (∀ W, Calls Tryd.prog 9 #[.string s] W fun e w' => ∃ va vc, e = .returned (.tuple #[.slice va 0 vc, .int .i64 R.1]) ∧ Below W.heap.size W w') := Lib.hid (fun W => (HRD.out W).mono fun e w' he => by
      obtain ⟨v, he, hr, hb⟩ := he
      rw [h1] at hr
      obtain ⟨va, vc, rfl⟩ := hr.shape
      exact ⟨va, vc, he, hb⟩)
    clear h0 h1 HRD
    go_enter Tryd.func6, Tryd.ntmps6
    go_wp2_with fail
    refine HW.out.mono ?_
    rintro e w1 ⟨rfl, hb⟩
    have HB := Lib.hid hb
    clear hb
    go_wp2_with fail
    refine (HR2.out _).mono ?_
    rintro e w2 ⟨va, vc, rfl, hb⟩
    have HB2 := Lib.hid (HB.out.trans (hb.mono HB.out.size))
    clear hb
    go_wp2_with fail
    go_ret
    exact ⟨rfl, HB2.out⟩
  · have HR2 : Hid (∀ W, Calls Tryd.prog 9 #[.string s] W fun e w' => ∃ va vc, e = .returned (.tuple #[.slice va 0 vc, .int .i64 0]) ∧ Below W.heap.size W w') := Lib.hid (fun W => (HRD.out W).mono fun e w' he => by
      obtain ⟨v, he, hr, hb⟩ := he
      obtain ⟨va, vc, rfl⟩ := hr.shape
      exact ⟨va, vc, he, hb⟩)
    clear HRD
    go_enter Tryd.func6, Tryd.ntmps6
    go_wp2_with fail
    refine HW.out.mono ?_
    rintro e w1 ⟨rfl, hb⟩
    have HB := Lib.hid hb
    clear hb
    go_wp2_with fail
    refine (HR2.out _).mono ?_
    rintro e w2 ⟨va, vc, rfl, hb⟩
    have HB2 := Lib.hid (HB.out.trans (hb.mono HB.out.size))
    clear hb
    go_wp2_with fail
    go_ret
    exact ⟨rfl, HB2.out⟩
  · obtain ⟨n, hn⟩ : ∃ n, n = B.length := ⟨_, rfl⟩
    have hn0 : 0 < n := by
      rw [hn]
      exact List.length_pos_iff.2 hne
    have hn1 : n ≤ 100 := by omega
    have HR2 : Hid (∀ W, Calls Tryd.prog 9 #[.string s] W fun e w' => ∃ va vc, e = .returned (.tuple #[.slice va n vc, .int .i64 0]) ∧ ReadsB w' (.slice va n vc) B ∧ Below W.heap.size W w') := Lib.hid (fun W => (HRD.out W).mono fun e w' he => by
      obtain ⟨v, he, hr, hb⟩ := he
      obtain ⟨va, vc, rfl⟩ := hr.shape
      rw [hn]
      exact ⟨va, vc, he, hr, hb⟩)
    have hsm : Small B := ⟨by omega, fun b hb => by
      have h1 := good_size (hg b hb)
      have h2 := mem_sumN hb
      omega⟩
    have hall := all_right B hg
    have HSA := Lib.hid (fun v W (h : ReadsB W v B) => showAll_any v B W h hsm)
    have hz2 : (ba (showAllL B)).size ≤ 50000 := by rw [ba_size]; omega
    have HRA : Hid (∀ W, Calls Tryd.prog 9 #[.string (ba (showAllL B))] W fun e w' => ∃ va vc, e = .returned (.tuple #[.slice va n vc, .int .i64 0]) ∧ ReadsB w' (.slice va n vc) B ∧ Below W.heap.size W w') := Lib.hid (fun W => (read_any (ba (showAllL B)) W hz2).mono fun e w' he => by
      obtain ⟨v, he, hr, hb⟩ := he
      rw [bl_ba, read_all hne hg hlen] at he hr
      obtain ⟨va, vc, rfl⟩ := hr.shape
      rw [hn]
      exact ⟨va, vc, he, hr, hb⟩)
    have HGO := Lib.hid hg
    have HSM := Lib.hid hsm
    have HNN := Lib.hid hn
    have HSU := Lib.hid (fun b (hb : b ∈ B) => Nat.le_trans (mem_sumN hb) hsum)
    generalize ba (showAllL B) = X at *
    clear HRD hne hg hlen hsum hsm hall hn
    go_enter Tryd.func6, Tryd.ntmps6
    go_wp2_with fail
    refine HW.out.mono ?_
    rintro e w1 ⟨rfl, hb⟩
    have HB1 := Lib.hid hb
    clear hb
    go_wp2_with fail
    refine (HR2.out _).mono ?_
    rintro e w2 ⟨va, vc, rfl, hr, hb⟩
    have HB2 := Lib.hid (HB1.out.trans (hb.mono HB1.out.size))
    have HV2 := Lib.hid hr
    clear hb hr
    go_wp2_with fail
    refine (HSA.out _ _ HV2.out).mono ?_
    rintro e w3 ⟨rfl, hb⟩
    have HB3 := Lib.hid (HB2.out.trans (hb.mono HB2.out.size))
    have HV3 := Lib.hid (HV2.out.below hb)
    clear hb
    go_wp2_with fail
    refine (HRA.out _).mono ?_
    rintro e w4 ⟨ma, mc, rfl, hr, hb⟩
    have HB4 := Lib.hid (HB3.out.trans (hb.mono HB3.out.size))
    have HV4 := Lib.hid (HV3.out.below hb)
    have HM4 := Lib.hid hr
    clear hb hr
    go_wp2_with fail
    have HVA := Lib.hid (fun k a ha => HV4.out.at_ k a ha)
    have HMA := Lib.hid (fun k a ha => HM4.out.at_ k a ha)
    go_loopw [47] (fun i wr => ∃ k : Nat, k ≤ n ∧ i = .int .i64 k ∧ Hid (Below w4.heap.size w4 wr)) (fun i _ => n - (intOf i).toNat)
    case atStart => exact ⟨0, Nat.zero_le _, rfl, Lib.hid (Below.refl _ _)⟩
    case round =>
      obtain ⟨k, hk, rfl, hB⟩ := hrel
      by_cases hlt : k < n
      · obtain ⟨x, hx⟩ : ∃ a, B[k]? = some a := ⟨B[k]'(by have := HNN.out; omega), List.getElem?_eq_getElem _⟩
        obtain ⟨b1, o1, rfl, hb1, r1⟩ := HVA.out k x hx
        obtain ⟨b2, o2, rfl, hb2, r2⟩ := HMA.out k x hx
        have hxm := List.mem_of_getElem? hx
        obtain ⟨c0, c1, c2⟩ := three (range_below r1 hb1 hB.out)
        have hxg := HGO.out x hxm
        obtain ⟨z1, z2, z3⟩ := HSM.out.2 x hxm
        have hxs := HSU.out x hxm
        have hsh := show_right hxg
        have HSH := Lib.hid (fun W => show_any x W (by omega) (by omega) (by omega))
        have HON : Hid (∀ W, Calls Tryd.prog 11 #[.string (ba (showL x))] W fun e w' => e = .returned (.tuple #[bxV x, .int .i64 0]) ∧ Below W.heap.size W w') := Lib.hid (fun W => by
          have h := one_any (ba (showL x)) W (by rw [ba_size]; omega)
          rw [bl_ba, one_show hxg] at h
          exact h)
        have HRI : Hid (∀ W, Calls Tryd.prog 20 #[.agg (cellsA x.l x.d).toArray] W fun e w' => e = .returned (.bool true) ∧ Below W.heap.size W w') := Lib.hid (fun W => by
          have h := right_any x.l x.d W (by omega) (by omega)
          have hr : rightB ⟨bl x.l, bl x.d⟩ = true := (rightB_iff _).2 hxg.2
          rw [hr] at h
          exact h)
        have HQ : Hid (∀ W, (binOp .neq bxT (bxV x) (bxV x)).run Tryd.prog W = .ok (.bool false) W) := Lib.hid (fun W => by rw [neq_bx, beqB_self]; rfl)
        have HR1 := Lib.hid (fun W (hW : Below w4.heap.size w4 W) => range_below r1 hb1 hW)
        have HR2' := Lib.hid (fun W (hW : Below w4.heap.size w4 W) => range_below r2 hb2 hW)
        generalize ba (showL x) = y at *
        clear r1 r2 hx hxm hxg hxs hsh
        go_wp2_with fail
        refine (HSH.out _).mono ?_
        rintro e w5 ⟨rfl, hb⟩
        have HB5 := Lib.hid (hB.out.trans (hb.mono hB.out.size))
        clear hb
        go_wp2_with fail
        refine (HON.out _).mono ?_
        rintro e w6 ⟨rfl, hb⟩
        have HB6 := Lib.hid (HB5.out.trans (hb.mono HB5.out.size))
        clear hb
        have HB7 := Lib.hid (HB6.out.alloc HB6.out.size (boxB bxT x))
        have HN := Lib.hid (new_boxB w6 bxT x)
        have hN6 : w6.heap.size < (w6.alloc (boxB bxT x)).heap.size := by simp
        go_wp2_with fail
        have HRI2 : Hid (∀ W, Kept (w6.alloc (boxB bxT x)) W → Calls Tryd.prog 20 #[.agg (cellsA x.l x.d).toArray] W fun e W' => e = .returned (.bool true) ∧ Kept (w6.alloc (boxB bxT x)) W') := Lib.hid (fun W hk => hk.call (HRI.out W))
        have HK1 : Hid (∀ W, Kept (w6.alloc (boxB bxT x)) W → W.rangeAt b1 (o1 + k * 3) (bxC x)) := Lib.hid (fun W hk => HR1.out W (HB7.out.trans (hk.below.mono HB7.out.size)))
        have HK2 : Hid (∀ W, Kept (w6.alloc (boxB bxT x)) W → W.rangeAt b2 (o2 + k * 3) (bxC x)) := Lib.hid (fun W hk => HR2'.out W (HB7.out.trans (hk.below.mono HB7.out.size)))
        refine wp_region_kept (by kernel_rfl) (by kernel_rfl) ?_
        repeat (first
          | (go_big_quiet_want
             first
               | refine quiet_neq_bx (.tmp 62) (.tmp 66) x x false HQ.out rfl rfl rfl ?_
               | refine quiet_neq_bx (.tmp 73) (.tmp 77) x x false HQ.out rfl rfl rfl ?_
               | refine quiet_load_row bxT (.tmp 61) rfl b1 (o1 + k * 3) rfl (bxC x) _ HK1.out Tryd.underlying33 rfl sizeB ?_
               | refine quiet_load_row bxT (.tmp 65) rfl b2 (o2 + k * 3) rfl (bxC x) _ HK2.out Tryd.underlying33 rfl sizeB ?_
               | refine quiet_load_row bxT (.tmp 8) rfl w6.heap.size 0 rfl (bxC x) _ (fun w' hk => range_below HN.out hN6 hk) Tryd.underlying33 rfl sizeB ?_
               | refine quiet_load_row bxT (.tmp 76) rfl b1 (o1 + k * 3) rfl (bxC x) _ HK1.out Tryd.underlying33 rfl sizeB ?_
               | refine quiet_load_row adT (.tmp 84) rfl b1 (o1 + k * 3 + 1) rfl (cellsA x.l x.d) _ (fun w' hk => threeA (HK1.out w' hk)) Tryd.underlying31 rfl Addr.sizeA ?_
             go_simp
             go_big_quiet_on)
          | (go_big_quiet_step ((first | (exact fun _ => rfl) | (intro hk; go_at_call 20; (with_reducible exact (HRI2.out _ hk)))))))
        refine wpQuiet_nil ?_
        intro W2 hk2
        have HB8 := Lib.hid (HB7.out.trans (hk2.below.mono HB7.out.size))
        clear hk2
        go_wp2_with fail
        go_roundw
        case rel => exact ⟨k + 1, by omega, by simp, HB8⟩
        case measure => simp [intOf]; omega
      · go_wp2_with fail
        go_ret
        exact ⟨rfl, HB4.out.trans (hB.out.mono HB4.out.size)⟩
end Go.Proofs.YtklmhjoiffaniaaDoor.Mbx
