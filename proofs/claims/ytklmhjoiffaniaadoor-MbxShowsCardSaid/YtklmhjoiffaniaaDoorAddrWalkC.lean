/-
  Walks: joined, texts.
-/
import Derived.Test.YtklmhjoiffaniaaDoorAddrTok
namespace Go.Proofs.YtklmhjoiffaniaaDoor.Addr
open Go Go.RowKit
open Go.Proofs.YtklmhjoiffaniaaDoor.Lex
open Go.Proofs.YtklmhjoiffaniaaDoor.Glyph (fd foldL foldL_foldL fold_any)
open Go.Proofs.YtklmhjoiffaniaaDoor.Sha (Kept wp_region_kept wp_region_kept_tail quiet_load_row)

theorem texts_le : ∀ T : List Tk, (textsL T).length ≤ cost T
  | [] => by simp [textsL, cost]
  | t :: T => by
    have := texts_le T
    unfold textsL cost at *
    simp only [List.map_cons, List.flatten_cons, List.length_append, List.sum_cons, bl_len]
    omega
theorem joined_odd {ok : Int → Bool} {k : Nat} {t : Tk} {T : List Tk} (hk : k % 2 = 1) : joined ok k (t :: T) = (dotB t && joined ok (k + 1) T) := by
  rw [joined, if_pos hk]
theorem joined_even {ok : Int → Bool} {k : Nat} {t : Tk} {T : List Tk} (hk : k % 2 ≠ 1) : joined ok k (t :: T) = (ok t.kind && joined ok (k + 1) T) := by
  rw [joined, if_neg hk]
theorem drop_tk {T : List Tk} {k : Nat} {t : Tk} (h : T[k]? = some t) : T.drop k = t :: T.drop (k + 1) := by
  obtain ⟨hl, rfl⟩ := List.getElem?_eq_some_iff.1 h
  rw [List.drop_eq_getElem_cons hl]
theorem rem_nat (k : Nat) : (k : Int).tmod 2 = ((k % 2 : Nat) : Int) := rfl
theorem rem_odd {k : Nat} (h : k % 2 = 1) : (k : Int).tmod 2 = 1 := by rw [rem_nat, h]; rfl
theorem rem_even {k : Nat} (h : ¬ k % 2 = 1) : (k : Int).tmod 2 = 0 := by rw [rem_nat, show k % 2 = 0 by omega]; rfl
theorem guard_tk : Tryd.prog.eqGuardType Tryd.prog.depth tkT = false := by kernel_rfl
theorem quiet_neq_tok {C : World → Prop} {o : Oper} {a : Act} {K : Act → Prop} (x y : Operand) (c d : Tk) (b : Bool) (hr : ∀ w, (binOp .neq tkT (tkV c) (tkV d)).run Tryd.prog w = .ok (.bool b) w) (ho : o.op = .binOp .neq tkT x y tkT) (hx : a.eval x = tkV c) (hy : a.eval y = tkV d) (h : K (a.put o.dst (.bool b))) : o.quiet Tryd.prog a C K :=
  ⟨_, fun w hw => by
    have h1 := hr w
    unfold Oper.quietAt execOp
    simp [ho, hx, hy, h1, run_eqGuard_agg w .neq tkT x y _ _ guard_tk]
    exact ⟨rfl, rfl⟩, h⟩
theorem quiet_load_int {P : Program} {C : World → Prop} {o : Oper} {a : Act} {K : Act → Prop} (ty : TypeId) (x : Operand) (ho : o.op = .load ty x) (p : Addr) (hx : a.eval x = .pointer (some p)) (v : Value)
    (hc : ∀ w, C w → w.cell? p = some v) (hu : P.underlying ty = some (.int .i64)) (h : K (a.put o.dst v)) : o.quiet P a C K :=
  ⟨_, fun w hw => by
    have h1 := hc w hw
    unfold Oper.quietAt execOp
    simp [ho, hx, Instr.loadAt, Instr.sureAddr, loadVar, isAgg, run_underlying hu, h1]
    exact ⟨rfl, rfl⟩, h⟩
set_option maxRecDepth 100000 in
set_option maxHeartbeats 4000000 in
theorem joined_any (v : Value) (T : List Tk) (b cap : Nat) (ks : List Int) (w : World) (hv : ReadsT w v T) (hl : T.length ≤ 100000) (hks : KindsAt w b ks) (hkl : ks.length ≤ 1000) :
    Calls Tryd.prog 99 #[v, .slice (some ⟨b, 0, none⟩) ks.length cap] w fun e w' => e = .returned (.bool (joined ks.contains 0 T)) ∧ Below w.heap.size w w' := by
  obtain ⟨va, vc, rfl⟩ := hv.shape
  obtain ⟨n, hn⟩ : ∃ n, n = T.length := ⟨_, rfl⟩
  rw [← hn] at hv hl ⊢
  have HV := Lib.hid (fun k a ha => hv.at_ k a ha)
  have HNN := Lib.hid hn
  have HK := Lib.hid hks
  have HC := Lib.hid (fun (c : Int) W (h : KindsAt W b ks) => contains_any b cap ks c W h hkl)
  generalize ks.length = kl at *
  clear hv hn hks hkl
  go_enter Tryd.func99, Tryd.ntmps99
  go_wp2_with fail
  go_loopw [10] (fun i wr => ∃ k : Nat, k ≤ n ∧ i = .int .i64 k ∧ Hid (joined ks.contains 0 T = joined ks.contains k (T.drop k)) ∧ Hid (Below w.heap.size w wr)) (fun i _ => n - (intOf i).toNat)
  case atStart => exact ⟨0, Nat.zero_le _, rfl, Lib.hid rfl, Lib.hid (Below.refl _ _)⟩
  case round =>
    obtain ⟨k, hk, rfl, hI, hB⟩ := hrel
    by_cases hlt : k < n
    · obtain ⟨t, ht⟩ : ∃ a, T[k]? = some a := ⟨T[k]'(by have := HNN.out; omega), List.getElem?_eq_getElem _⟩
      obtain ⟨b1, o1, rfl, hb1, r1⟩ := HV.out k t ht
      obtain ⟨c0, c1⟩ := two (range_below r1 hb1 hB.out)
      have HNB := Lib.hid (new_boxT wr tkT t)
      have HB2 : Hid (Below w.heap.size w (wr.alloc (boxT tkT t))) := Lib.hid (hB.out.alloc hB.out.size _)
      have hdt := drop_tk ht
      by_cases h2 : k % 2 = 1
      · have hm := rem_odd h2
        have hj : joined ks.contains 0 T = (dotB t && joined ks.contains (k + 1) (T.drop (k + 1))) := by rw [hI.out, hdt, joined_odd h2]
        have HS := Lib.hid (fun W => special_any dotS W)
        have HD : Hid (∀ W, (binOp .neq tkT (tkV t) (tkV ⟨3, dotS⟩)).run Tryd.prog W = .ok (.bool (!(dotB t))) W) := Lib.hid fun W => by rw [neq_tok, dot_eq]
        have HJ := Lib.hid hj
        clear hj hdt r1 h2 ht
        cases hd : dotB t
        · rw [hd] at HD HJ
          have HS2 : Hid (∀ W, Below (wr.alloc (boxT tkT t)).heap.size (wr.alloc (boxT tkT t)) W → Calls Tryd.prog 98 #[.string dotS] W fun e w' => e = .returned (tkV ⟨3, dotS⟩) ∧ Below (wr.alloc (boxT tkT t)).heap.size (wr.alloc (boxT tkT t)) w') :=
            Lib.hid fun W hW => (HS.out W).mono fun e w' he => ⟨he.1, hW.trans (he.2.mono hW.size)⟩
          clear hd
          go_wp2_with fail
          refine wp_region_kept (by kernel_rfl) (by kernel_rfl) ?_
          repeat (first
            | (go_big_quiet_want
               first
                 | refine quiet_neq_tok (.tmp 20) (.tmp 21) t ⟨3, dotS⟩ true HD.out rfl rfl rfl ?_
                 | refine quiet_load_row tkT (.tmp 6) rfl wr.heap.size 0 rfl (tkC t) _ (fun w' hk => range_below HNB.out (by simp) hk) Tryd.underlying76 rfl sizeT ?_
               go_simp
               go_big_quiet_on)
            | (go_big_quiet_step ((first | (exact fun _ => rfl) | (intro hk; go_at_call 98; exact (HS2.out _ hk))))))
          refine wpQuiet_nil ?_
          intro W2 hk2
          have HK2 := Lib.hid (HB2.out.trans (hk2.below.mono HB2.out.size))
          clear hk2
          go_wp2_with fail
          go_ret
          exact ⟨ret_bool (by rw [HJ.out]; rfl), HK2.out⟩
        · rw [hd] at HD HJ
          have HS2 : Hid (∀ W, Below (wr.alloc (boxT tkT t)).heap.size (wr.alloc (boxT tkT t)) W → Calls Tryd.prog 98 #[.string dotS] W fun e w' => e = .returned (tkV ⟨3, dotS⟩) ∧ Below (wr.alloc (boxT tkT t)).heap.size (wr.alloc (boxT tkT t)) w') :=
            Lib.hid fun W hW => (HS.out W).mono fun e w' he => ⟨he.1, hW.trans (he.2.mono hW.size)⟩
          clear hd
          go_wp2_with fail
          refine wp_region_kept (by kernel_rfl) (by kernel_rfl) ?_
          repeat (first
            | (go_big_quiet_want
               first
                 | refine quiet_neq_tok (.tmp 20) (.tmp 21) t ⟨3, dotS⟩ false HD.out rfl rfl rfl ?_
                 | refine quiet_load_row tkT (.tmp 6) rfl wr.heap.size 0 rfl (tkC t) _ (fun w' hk => range_below HNB.out (by simp) hk) Tryd.underlying76 rfl sizeT ?_
               go_simp
               go_big_quiet_on)
            | (go_big_quiet_step ((first | (exact fun _ => rfl) | (intro hk; go_at_call 98; exact (HS2.out _ hk))))))
          refine wpQuiet_nil ?_
          intro W2 hk2
          have HK2 := Lib.hid (HB2.out.trans (hk2.below.mono HB2.out.size))
          clear hk2
          go_wp2_with fail
          go_roundw
          case rel => exact ⟨k + 1, by omega, by simp, Lib.hid (by rw [HJ.out]; rfl), HK2⟩
          case measure => simp [intOf]; omega
      · have hm := rem_even h2
        have hj : joined ks.contains 0 T = (ks.contains t.kind && joined ks.contains (k + 1) (T.drop (k + 1))) := by rw [hI.out, hdt, joined_even h2]
        have HCT := Lib.hid (fun W (hW : Below w.heap.size w W) => HC.out t.kind W (HK.out.below hW))
        have HJ := Lib.hid hj
        clear hj hdt r1 h2 ht
        generalize ks.contains t.kind = c at *
        cases c
        · have HC2 : Hid (∀ W, Below (wr.alloc (boxT tkT t)).heap.size (wr.alloc (boxT tkT t)) W → Calls Tryd.prog 102 #[.slice (some ⟨b, 0, none⟩) kl cap, .int .i64 t.kind] W fun e w' => e = .returned (.bool false) ∧ Below (wr.alloc (boxT tkT t)).heap.size (wr.alloc (boxT tkT t)) w') :=
            Lib.hid fun W hW => (HCT.out W (HB2.out.trans (hW.mono HB2.out.size))).mono fun e w' he => ⟨he.1, by rw [← he.2]; exact hW⟩
          go_wp2_with fail
          refine wp_region_kept (by kernel_rfl) (by kernel_rfl) ?_
          repeat (first
            | (go_big_quiet_want
               first
                 | refine quiet_load_int 3 (.tmp 29) rfl ⟨wr.heap.size, 0, none⟩ rfl (.int .i64 t.kind) (fun w' hk => (two (range_below HNB.out (by simp) hk)).1) Tryd.underlying3 ?_
               go_simp
               go_big_quiet_on)
            | (go_big_quiet_step ((first | (exact fun _ => rfl) | (intro hk; go_at_call 102; exact (HC2.out _ hk))))))
          refine wpQuiet_nil ?_
          intro W2 hk2
          have HK2 := Lib.hid (HB2.out.trans (hk2.below.mono HB2.out.size))
          clear hk2
          go_wp2_with fail
          go_ret
          exact ⟨ret_bool (by rw [HJ.out]; rfl), HK2.out⟩
        · have HC2 : Hid (∀ W, Below (wr.alloc (boxT tkT t)).heap.size (wr.alloc (boxT tkT t)) W → Calls Tryd.prog 102 #[.slice (some ⟨b, 0, none⟩) kl cap, .int .i64 t.kind] W fun e w' => e = .returned (.bool true) ∧ Below (wr.alloc (boxT tkT t)).heap.size (wr.alloc (boxT tkT t)) w') :=
            Lib.hid fun W hW => (HCT.out W (HB2.out.trans (hW.mono HB2.out.size))).mono fun e w' he => ⟨he.1, by rw [← he.2]; exact hW⟩
          go_wp2_with fail
          refine wp_region_kept (by kernel_rfl) (by kernel_rfl) ?_
          repeat (first
            | (go_big_quiet_want
               first
                 | refine quiet_load_int 3 (.tmp 29) rfl ⟨wr.heap.size, 0, none⟩ rfl (.int .i64 t.kind) (fun w' hk => (two (range_below HNB.out (by simp) hk)).1) Tryd.underlying3 ?_
               go_simp
               go_big_quiet_on)
            | (go_big_quiet_step ((first | (exact fun _ => rfl) | (intro hk; go_at_call 102; exact (HC2.out _ hk))))))
          refine wpQuiet_nil ?_
          intro W2 hk2
          have HK2 := Lib.hid (HB2.out.trans (hk2.below.mono HB2.out.size))
          clear hk2
          go_wp2_with fail
          go_roundw
          case rel => exact ⟨k + 1, by omega, by simp, Lib.hid (by rw [HJ.out]; rfl), HK2⟩
          case measure => simp [intOf]; omega
    · have HE : Hid (joined ks.contains 0 T = (n % 2 == 1)) := Lib.hid (by
        rw [hI.out, List.drop_eq_nil_of_le (by have := HNN.out; omega), show k = n by omega]
        rfl)
      by_cases h2 : n % 2 = 1
      · have hm := rem_odd h2
        have HX : Hid (joined ks.contains 0 T = true) := Lib.hid (by rw [HE.out, h2]; rfl)
        clear h2
        go_wp2_with fail
        go_ret
        exact ⟨ret_bool (by rw [HX.out]), hB.out⟩
      · have hm := rem_even h2
        have HX : Hid (joined ks.contains 0 T = false) := Lib.hid (by rw [HE.out, show n % 2 = 0 by omega]; rfl)
        clear h2
        go_wp2_with fail
        go_ret
        exact ⟨ret_bool (by rw [HX.out]), hB.out⟩
set_option maxRecDepth 100000 in
set_option maxHeartbeats 2000000 in
theorem texts_any (v : Value) (T : List Tk) (w : World) (hv : ReadsT w v T) (hl : T.length ≤ 100000) (hc : cost T ≤ 10000000) :
    Calls Tryd.prog 100 #[v] w fun e w' => e = .returned (.string (ba (textsL T))) ∧ Below w.heap.size w w' := by
  obtain ⟨va, vc, rfl⟩ := hv.shape
  obtain ⟨n, hn⟩ : ∃ n, n = T.length := ⟨_, rfl⟩
  rw [← hn] at hv hl ⊢
  have HV := Lib.hid (fun k a ha => hv.at_ k a ha)
  have HNN := Lib.hid hn
  have HCT : Hid (∀ k, (textsL (T.take k)).length ≤ 10000000) := Lib.hid fun k => Nat.le_trans (texts_le (T.take k)) (Nat.le_trans (costT_le T k) hc)
  clear hv hn
  go_enter Tryd.func100, Tryd.ntmps100
  go_wp2_with fail
  go_loopw [8] (fun i wr => ∃ k : Nat, k ≤ n ∧ i = .int .i64 k ∧ Hid (BuiltAt w wr (textsL (T.take k)))) (fun i _ => n - (intOf i).toNat)
  case atStart => exact ⟨0, Nat.zero_le _, rfl, Lib.hid (BuiltAt.start w)⟩
  case round =>
    obtain ⟨k, hk, rfl, hB⟩ := hrel
    by_cases hlt : k < n
    · obtain ⟨t, ht⟩ : ∃ a, T[k]? = some a := ⟨T[k]'(by have := HNN.out; omega), List.getElem?_eq_getElem _⟩
      obtain ⟨b1, o1, rfl, hb1, r1⟩ := HV.out k t ht
      obtain ⟨c0, c1⟩ := two (range_below r1 hb1 hB.out.2)
      have hne : textsL (T.take (k + 1)) = textsL (T.take k) ++ bl t.text := by
        rw [List.take_add_one, ht]
        simp [textsL]
      have hz : t.text.size ≤ 10000000 := by
        have := mem_cost (List.mem_of_getElem? ht)
        omega
      have HW := Lib.hid (wstr w (wr.alloc (boxT tkT t)) (textsL (T.take k)) t.text (hB.out.kept ((Below.refl _ _).alloc (Nat.le_refl _) _)) (by have := HCT.out k; omega) (by omega))
      have HNE := Lib.hid hne
      clear hne r1 ht
      go_wp2_with fail
      refine HW.out.mono ?_
      rintro e w2 ⟨rfl, h2⟩
      have HB2 := Lib.hid h2
      clear h2
      go_wp2_with fail
      go_roundw
      case rel => exact ⟨k + 1, by omega, by simp, Lib.hid (by rw [HNE.out]; exact HB2.out)⟩
      case measure => simp [intOf]; omega
    · have HE : Hid (T.take k = T) := Lib.hid (List.take_of_length_le (by have := HNN.out; omega))
      have HW := Lib.hid (wend w wr _ hB.out)
      rw [HE.out] at HW
      go_wp2_with fail
      refine HW.out.mono ?_
      rintro e w2 ⟨rfl, hb⟩
      have HB2 := Lib.hid hb
      clear hb
      go_wp2_with fail
      go_ret
      exact ⟨rfl, HB2.out⟩
end Go.Proofs.YtklmhjoiffaniaaDoor.Addr
