/-
  The law MbxShows walked.
-/
import Derived.Test.YtklmhjoiffaniaaDoorMbxLawA
import Derived.Test.YtklmhjoiffaniaaDoorMbxRShow
namespace Go.Proofs.YtklmhjoiffaniaaDoor.Mbx
open Go Go.RowKit
open Go.Proofs.YtklmhjoiffaniaaDoor.Lex
open Go.Proofs.YtklmhjoiffaniaaDoor.Sha (Kept wp_region_kept wp_region_kept_tail quiet_load_row)

/-- The boxes so far. -/
def BsAt (w wr : World) (o : Value) (B : List Bx) : Prop := wr.ownsRow w.heap.size bxT 3 o B.length (B.flatMap bxC) ∧ Below w.heap.size w wr
theorem BsAt.start (w : World) : BsAt w w (.slice none 0 0) [] := ⟨World.ownsRow_nil _ _ _ _, Below.refl _ _⟩
theorem BsAt.on {w wr w' : World} {o : Value} {B : List Bx} (h : BsAt w wr o B) (hb : Below wr.heap.size wr w') : BsAt w w' o B := ⟨owns_below h.1 hb, h.2.trans (hb.mono h.2.size)⟩
theorem BsAt.add {w W : World} {n c : Nat} {a : Option Addr} {B : List Bx} (h : BsAt w W (.slice a n c) B) (hn : B.length = n) (y : Bx) (hl : n ≤ 100000000) :
    ∃ a' c' w', (Builtin.append_ #[bxsT, bxsT] bxsT #[.slice a n c, .slice (some ⟨W.heap.size, 0, none⟩) 1 1]).run Tryd.prog (W.alloc (boxB bxT y)) = .ok (.slice a' (n + 1) c') w' ∧ Hid (BsAt w w' (.slice a' (n + 1) c') (B ++ [y])) := by
  have ho := h.1
  rw [hn] at ho
  obtain ⟨a', c', w', hr, hh⟩ := append_oneB n hn W w.heap.size (.slice a n c) y ho hl h.2.size
  refine ⟨a', c', w', hr, Lib.hid ⟨?_, ?_⟩⟩
  · rw [List.length_append, hn]
    exact hh.out.1
  · have hal : Below w.heap.size w (W.alloc (boxB bxT y)) := h.2.alloc h.2.size _
    exact hal.grown hh.out.2.2.1 (by have := h.2.size; simp; omega) (fun k hk => hh.out.2.2.2 k hk)
set_option maxRecDepth 100000 in
set_option maxHeartbeats 8000000 in
theorem mbxShows_any (v : Value) (l : List Bx) (s : ByteArray) (w : World) (hv : ReadsB w v l) :
    Calls Tryd.prog 4 #[v, .string s] w (TrueP w) := by
  have HW := Lib.hid (fun W => works_any W)
  obtain ⟨va, vc, rfl⟩ := hv.shape
  obtain ⟨n, hn⟩ : ∃ n, n = l.length := ⟨_, rfl⟩
  rw [← hn] at hv ⊢
  have HVV := Lib.hid hv
  have HV := Lib.hid (fun k a ha => hv.at_ k a ha)
  have HNN := Lib.hid hn
  clear hv hn
  by_cases h40 : 40 < n
  · go_enter Tryd.func4, Tryd.ntmps4
    go_wp2_with fail
    refine (HW.out _).mono ?_
    rintro e w1 ⟨rfl, hb⟩
    have HB := Lib.hid hb
    clear hb
    go_wp2_with fail
    go_ret
    exact ⟨rfl, HB.out⟩
  by_cases h300 : 300 < s.size
  · go_enter Tryd.func4, Tryd.ntmps4
    go_wp2_with fail
    refine (HW.out _).mono ?_
    rintro e w1 ⟨rfl, hb⟩
    have HB := Lib.hid hb
    clear hb
    go_wp2_with fail
    go_ret
    exact ⟨rfl, HB.out⟩
  have HS := Lib.hid (BsAt.start w)
  go_enter Tryd.func4, Tryd.ntmps4
  go_wp2_with fail
  go_loopw [5, 6] (fun u i wr => ∃ k : Nat, k ≤ n ∧ i = .int .i64 k ∧ Hid (BsAt w wr u (l.take k)) ∧ Hid (∀ b ∈ l.take k, b.n.size ≤ 10000 ∧ b.l.size ≤ 10000 ∧ b.d.size ≤ 10000)) (fun _ i _ => n - (intOf i).toNat)
  case atStart => exact ⟨0, Nat.zero_le _, rfl, HS, Lib.hid (by simp)⟩
  case round =>
    clear HS
    obtain ⟨k, hk, rfl, hB, hsm⟩ := hrel
    obtain ⟨ua, uc, rfl⟩ := owns_slice hB.out.1
    have hlk : (l.take k).length = k := by rw [List.length_take]; have := HNN.out; omega
    rw [hlk] at hB ⊢
    by_cases hlt : k < n
    · obtain ⟨x, hx⟩ : ∃ a, l[k]? = some a := ⟨l[k]'(by have := HNN.out; omega), List.getElem?_eq_getElem _⟩
      obtain ⟨b1, o1, rfl, hb1, r1⟩ := HV.out k x hx
      obtain ⟨c0, c1, c2⟩ := three (range_below r1 hb1 hB.out.2)
      by_cases z1 : 300 < x.n.size
      · clear hlk hx r1
        go_wp2_with fail
        refine (HW.out _).mono ?_
        rintro e w1 ⟨rfl, hb⟩
        have HB := Lib.hid (hB.out.2.trans (hb.mono hB.out.2.size))
        clear hb
        go_wp2_with fail
        go_ret
        exact ⟨rfl, HB.out⟩
      by_cases z2 : 300 < x.l.size
      · clear hlk hx r1
        go_wp2_with fail
        refine (HW.out _).mono ?_
        rintro e w1 ⟨rfl, hb⟩
        have HB := Lib.hid (hB.out.2.trans (hb.mono hB.out.2.size))
        clear hb
        go_wp2_with fail
        go_ret
        exact ⟨rfl, HB.out⟩
      by_cases z3 : 300 < x.d.size
      · clear hlk hx r1
        go_wp2_with fail
        refine (HW.out _).mono ?_
        rintro e w1 ⟨rfl, hb⟩
        have HB := Lib.hid (hB.out.2.trans (hb.mono hB.out.2.size))
        clear hb
        go_wp2_with fail
        go_ret
        exact ⟨rfl, HB.out⟩
      have HTO := Lib.hid (fun W => to_box x W)
      have HSH := Lib.hid (fun W => show_any x W (by omega) (by omega) (by omega))
      have HRS := Lib.hid (fun W => refShow_any x W (by omega) (by omega) (by omega))
      have hne : l.take (k + 1) = l.take k ++ [x] := by rw [List.take_add_one, hx]; rfl
      have HSM : Hid (∀ b ∈ l.take (k + 1), b.n.size ≤ 10000 ∧ b.l.size ≤ 10000 ∧ b.d.size ≤ 10000) := Lib.hid (by
        rw [hne]
        intro b hb
        rcases List.mem_append.1 hb with hb | hb
        · exact hsm.out b hb
        · obtain rfl := List.mem_singleton.1 hb
          exact ⟨by omega, by omega, by omega⟩)
      have HLK := Lib.hid hlk
      have HNE := Lib.hid hne
      have HR1 := Lib.hid (fun W (hW : Below w.heap.size w W) => range_below r1 hb1 hW)
      clear r1 hx hlk hne
      go_wp2_with fail
      refine (HTO.out _).mono ?_
      rintro e w2 ⟨rfl, hb⟩
      obtain ⟨a', c', w4, hr, hh⟩ := (hB.out.on hb).add HLK.out x (by omega)
      have HR := Lib.hid hr
      have HN : Hid (BsAt w w4 (.slice a' (k + 1) c') (l.take (k + 1))) := Lib.hid (by rw [HNE.out]; exact hh.out)
      obtain ⟨b3, o3, ha', hb3, r3⟩ := (show ReadsB w4 (.slice a' (k + 1) c') (l.take (k + 1)) from by
        have h := HN.out.1
        exact owns_readsB h).at_ k x (by rw [HNE.out, List.getElem?_append_right (by rw [HLK.out]; exact Nat.le_refl _), HLK.out]; simp)
      subst ha'
      have HR3 := Lib.hid (And.intro hb3 r3)
      have HR1' := Lib.hid (HR1.out _ HN.out.2)
      have hb1w : b1 < w4.heap.size := by have := HN.out.2.size; omega
      have HK1 : Hid (∀ W, Kept w4 W → Calls Tryd.prog 14 #[.agg (bxC x).toArray] W fun e W' => e = .returned (.string (ba (showL x))) ∧ Kept w4 W') := Lib.hid (fun W hk => hk.call (HSH.out W))
      have HK2 : Hid (∀ W, Kept w4 W → Calls Tryd.prog 15 #[.agg (bxC x).toArray] W fun e W' => e = .returned (.string (ba (showL x))) ∧ Kept w4 W') := Lib.hid (fun W hk => hk.call (HRS.out W))
      generalize ba (showL x) = y at *
      clear hr hh r3 hb c0 c1 c2
      go_wp2_with (at_builtin; refine Lib.wpList_append_run _ rfl _ _ _ _ rfl _ _ rfl rfl _ _ HR.out ?_)
      refine wp_region_kept (by kernel_rfl) (by kernel_rfl) ?_
      repeat (first
        | (go_big_quiet_want
           first
             | refine quiet_load_row bxT (.tmp 60) rfl b3 (o3 + k * 3) rfl (bxC x) _ (fun w' hk => range_below HR3.out.2 HR3.out.1 hk) Tryd.underlying33 rfl sizeB ?_
             | refine quiet_load_row rbT (.tmp 65) rfl b1 (o1 + k * 3) rfl (bxC x) _ (fun w' hk => range_below HR1'.out hb1w hk) Tryd.underlying40 rfl sizeRB ?_
           go_simp
           go_big_quiet_on)
        | (go_big_quiet_step ((first | (exact fun _ => rfl) | (intro hk; go_at_call 14; (with_reducible exact (HK1.out _ hk))) | (intro hk; go_at_call 15; (with_reducible exact (HK2.out _ hk)))))))
      refine wpQuiet_nil ?_
      intro W2 hk2
      have HN2 := Lib.hid (HN.out.on hk2.below)
      clear hk2
      go_wp2_with fail
      go_roundw
      case rel => exact ⟨k + 1, by omega, by simp, HN2, HSM⟩
      case measure => simp [intOf]; omega
    · have e : l.take k = l := List.take_of_length_le (by have := HNN.out; omega)
      rw [e] at hB hsm
      have HSML : Hid (Small l) := Lib.hid ⟨by have := HNN.out; omega, hsm.out⟩
      have HO : Hid (ReadsB wr (.slice ua k uc) l) := Lib.hid (by
        have h := hB.out.1
        exact owns_readsB h)
      have HSA := Lib.hid (showAll_any _ l wr HO.out HSML.out)
      have HRA := Lib.hid (fun W (hW : Below w.heap.size w W) => refShowAll_any _ l W (HVV.out.below hW) HSML.out)
      have HPH := Lib.hid (fun W => phrase_any s W (by omega))
      have HRP := Lib.hid (fun W => refPhrase_any s W (by omega))
      generalize ba (showAllL l) = X at *
      generalize ba (phraseL (bl s)) = Y at *
      clear e hlk
      go_wp2_with fail
      refine HSA.out.mono ?_
      rintro e w2 ⟨rfl, hb⟩
      have HB2 := Lib.hid (hB.out.2.trans (hb.mono hB.out.2.size))
      clear hb
      go_wp2_with fail
      refine (HRA.out _ HB2.out).mono ?_
      rintro e w3 ⟨rfl, hb⟩
      have HB3 := Lib.hid (HB2.out.trans (hb.mono HB2.out.size))
      clear hb
      go_wp2_with fail
      refine (HPH.out _).mono ?_
      rintro e w4 ⟨rfl, hb⟩
      have HB4 := Lib.hid (HB3.out.trans (hb.mono HB3.out.size))
      clear hb
      go_wp2_with fail
      refine (HRP.out _).mono ?_
      rintro e w5 ⟨rfl, hb⟩
      have HB5 := Lib.hid (HB4.out.trans (hb.mono HB4.out.size))
      clear hb
      go_wp2_with fail
      refine (HW.out _).mono ?_
      rintro e w6 ⟨rfl, hb⟩
      have HB6 := Lib.hid (HB5.out.trans (hb.mono HB5.out.size))
      clear hb
      go_wp2_with fail
      go_ret
      exact ⟨rfl, HB6.out⟩
end Go.Proofs.YtklmhjoiffaniaaDoor.Mbx
