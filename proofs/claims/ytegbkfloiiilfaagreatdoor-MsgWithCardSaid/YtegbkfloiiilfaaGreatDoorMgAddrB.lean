/-
  Walks of addr, the second part.
-/
import Derived.Test.YtegbkfloiiilfaaGreatDoorMgAddrA

/-
  Walks: special, slices.Index, slices.Contains, joined, texts.
-/
namespace Go.Proofs.YtegbkfloiiilfaaGreatDoor.Addr
open Go Go.RowKit
open Go.Proofs.YtegbkfloiiilfaaGreatDoor.Lex
open Go.Proofs.YtegbkfloiiilfaaGreatDoor.Glyph (fd foldL foldL_foldL fold_any)
open Go.Proofs.YtegbkfloiiilfaaGreatDoor.Sha (Kept wp_region_kept wp_region_kept_tail quiet_load_row)

set_option maxRecDepth 100000 in
set_option maxHeartbeats 1000000 in
theorem special_any (s : ByteArray) (w : World) :
    Calls Tryz.prog 169 #[.string s] w fun e w' => e = .returned (tkV ⟨3, s⟩) ∧ Below w.heap.size w w' := by
  have hl : Lies (w.alloc (.cells #[.int .i64 3, .string s] tkT)) w.heap.size #[.int .i64 3, .string s] tkT := Lies.new w _ _
  go_enter Tryz.func169, Tryz.ntmps169
  go_wp2_with fail
  exact bodyPost_ret (v := tkV ⟨3, s⟩) (results_cell_row Tryz.results169 _ _ w.heap.size tkT _ (0, 0) _ rfl hl Tryz.underlying164 rfl sizeT) rfl ⟨rfl, (Below.refl _ _).alloc (Nat.le_refl _) _⟩
theorem beq_text (a b : ByteArray) : decide (a = b) = (bl b == bl a) := by
  rw [Bool.eq_iff_iff, decide_eq_true_eq, beq_iff_eq]
  constructor
  · rintro rfl; rfl
  · intro h
    have := congrArg ba h
    rw [ba_bl, ba_bl] at this
    exact this.symm
theorem at_eq (t : Tk) : (decide (((⟨3, atS⟩ : Tk)).kind = t.kind) && decide ((⟨3, atS⟩ : Tk).text = t.text)) = atB t := by
  unfold atB
  rw [beq_text]
  congr 1
  exact decide_eq_decide.2 ⟨fun h => h.symm, fun h => h.symm⟩
theorem dot_eq (t : Tk) : (decide (t.kind = ((⟨3, dotS⟩ : Tk)).kind) && decide (t.text = (⟨3, dotS⟩ : Tk).text)) = dotB t := by
  unfold dotB
  congr 1
  rw [Bool.eq_iff_iff, decide_eq_true_eq, beq_iff_eq]
  constructor
  · intro h; rw [h]
  · intro h
    have := congrArg ba h
    rw [ba_bl] at this
    exact this
def atI (T : List Tk) : Int := if atN T < T.length then (atN T : Int) else -1
theorem at_here {T : List Tk} {k : Nat} {t : Tk} (hk : T[k]? = some t) (hall : ∀ x ∈ T.take k, atB x = false) (h : atB t = true) : atN T = k ∧ k < T.length := by
  have hlt := (List.getElem?_eq_some_iff.1 hk).1
  have he := (List.getElem?_eq_some_iff.1 hk).2
  refine ⟨?_, hlt⟩
  have e : T = T.take k ++ t :: T.drop (k + 1) := by
    rw [← he]
    simp
  have := find_at (T.take k) (T.drop (k + 1)) t hall h
  rw [← e, List.length_take] at this
  omega
theorem at_none {T : List Tk} (h : ∀ x ∈ T, atB x = false) : atN T = T.length := List.findIdx_eq_length.2 h
theorem none_take {T : List Tk} {k : Nat} {t : Tk} (hk : T[k]? = some t) (hall : ∀ x ∈ T.take k, atB x = false) (h : atB t = false) : ∀ x ∈ T.take (k + 1), atB x = false := by
  intro x hx
  rw [List.take_add_one, hk] at hx
  rcases List.mem_append.1 hx with hx | hx
  · exact hall x hx
  · have : x = t := by simpa using hx
    rw [this]; exact h
set_option maxRecDepth 100000 in
set_option maxHeartbeats 2000000 in
theorem indexT_any (v : Value) (T : List Tk) (w : World) (hv : ReadsT w v T) (hl : T.length ≤ 100000) :
    Calls Tryz.prog 168 #[v, tkV ⟨3, atS⟩] w fun e w' => e = .returned (.int .i64 (atI T)) ∧ Below w.heap.size w w' := by
  obtain ⟨va, vc, rfl⟩ := hv.shape
  obtain ⟨n, hn⟩ : ∃ n, n = T.length := ⟨_, rfl⟩
  rw [← hn] at hv hl ⊢
  have HV := Lib.hid (fun k a ha => hv.at_ k a ha)
  have HNN := Lib.hid hn
  have HNB := Lib.hid (new_boxT w tkT ⟨3, atS⟩)
  have HA : Hid (Below w.heap.size w (w.alloc (boxT tkT ⟨3, atS⟩))) := Lib.hid ((Below.refl _ _).alloc (Nat.le_refl _) _)
  have hz : (w.alloc (boxT tkT ⟨3, atS⟩)).heap.size = w.heap.size + 1 := by simp
  have HZ := Lib.hid hz
  clear hv hn hz
  go_enter Tryz.func168, Tryz.ntmps168
  go_wp2_with fail
  go_loopw [8] (fun i wr => ∃ k : Nat, k ≤ n ∧ i = .int .i64 k ∧ Hid (∀ x ∈ T.take k, atB x = false) ∧ Hid (Below (w.alloc (boxT tkT ⟨3, atS⟩)).heap.size (w.alloc (boxT tkT ⟨3, atS⟩)) wr)) (fun i _ => n - (intOf i).toNat)
  case atStart => exact ⟨0, Nat.zero_le _, rfl, Lib.hid (by simp), Lib.hid (Below.refl _ _)⟩
  case round =>
    obtain ⟨k, hk, rfl, hall, hB⟩ := hrel
    have hB2 : Hid (Below w.heap.size w wr) := Lib.hid (HA.out.trans (hB.out.mono HA.out.size))
    by_cases hlt : k < n
    · obtain ⟨a, ha⟩ : ∃ a, T[k]? = some a := ⟨T[k]'(by have := HNN.out; omega), List.getElem?_eq_getElem _⟩
      obtain ⟨b1, o1, rfl, hb1, r1⟩ := HV.out k a ha
      obtain ⟨c0, c1⟩ := two (range_below r1 hb1 hB2.out)
      obtain ⟨d0, d1⟩ := two (range_below HNB.out (by simp) hB.out)
      have hq : ∀ W, (binOp .eql tkT (tkV ⟨3, atS⟩) (tkV a)).run Tryz.prog W = .ok (.bool (atB a)) W := fun W => by rw [eql_tok, at_eq]
      cases hb : atB a
      · rw [hb] at hq
        have HN := Lib.hid (none_take ha hall.out hb)
        clear ha r1 hb
        go_wp2_with fail
        go_region
        go_wp2_with fail
        go_roundw
        case rel => exact ⟨k + 1, by omega, by simp, HN, Lib.hid hB.out.drew⟩
        case measure => simp [intOf]; omega
      · rw [hb] at hq
        have HE := Lib.hid (at_here ha hall.out hb)
        clear ha r1 hb
        go_wp2_with fail
        go_region
        go_wp2_with fail
        go_ret
        refine ⟨?_, hB2.out.drew⟩
        have hi : atI T = k := by unfold atI; rw [HE.out.1, if_pos HE.out.2]
        rw [hi]
        rfl
    · have HE : Hid (atN T = T.length) := Lib.hid (at_none (by
        have h := hall.out
        rwa [List.take_of_length_le (by have := HNN.out; omega)] at h))
      go_wp2_with fail
      go_ret
      refine ⟨?_, hB2.out⟩
      have hi : atI T = -1 := by unfold atI; rw [HE.out, if_neg (Nat.lt_irrefl _)]
      rw [hi]
      rfl

/-! Kinds. -/
def KindsAt (w : World) (b : Nat) (ks : List Int) : Prop := b < w.heap.size ∧ ∀ i k, ks[i]? = some k → w.cell? ⟨b, i, none⟩ = some (.int .i64 k)
theorem KindsAt.below {w w' : World} {b : Nat} {ks : List Int} (h : KindsAt w b ks) (hb : Below w.heap.size w w') : KindsAt w' b ks :=
  ⟨by have := hb.size; have := h.1; omega, fun i k hi => by rw [hb.cell (p := ⟨b, i, none⟩) h.1]; exact h.2 i k hi⟩
def idxI (ks : List Int) (k : Int) : Int := if ks.contains k then (ks.findIdx (· == k) : Int) else -1
theorem idx_pos (ks : List Int) (k : Int) : decide (0 ≤ idxI ks k) = ks.contains k := by
  unfold idxI
  cases ks.contains k <;> simp
theorem contains_none {ks : List Int} {k : Int} (h : ∀ x ∈ ks, (k == x) = false) : ks.contains k = false := by
  rw [← Bool.not_eq_true, List.contains_iff_mem]
  intro hm
  have := h k hm
  simp at this
theorem find_here {ks : List Int} {i : Nat} {k x : Int} (hi : ks[i]? = some x) (hall : ∀ y ∈ ks.take i, (k == y) = false) (h : (k == x) = true) : idxI ks k = i := by
  have hlt := (List.getElem?_eq_some_iff.1 hi).1
  have hk : k = x := beq_iff_eq.1 h
  subst hk
  unfold idxI
  have hm : ks.contains k = true := by rw [List.contains_iff_mem]; exact List.mem_of_getElem? hi
  rw [hm, if_pos rfl]
  have e : ks = ks.take i ++ k :: ks.drop (i + 1) := by
    have he := (List.getElem?_eq_some_iff.1 hi).2
    conv => rhs; rw [← he]
    simp
  have h2 : (ks.take i).findIdx (· == k) = (ks.take i).length := List.findIdx_eq_length.2 (fun y hy => by
    have := hall y hy
    rw [beq_eq_false_iff_ne] at this ⊢
    exact fun h => this h.symm)
  rw [e, List.findIdx_append, h2, if_neg (by omega), List.findIdx_cons]
  simp
  omega
set_option maxRecDepth 100000 in
set_option maxHeartbeats 1000000 in
theorem indexK_any (b cap : Nat) (ks : List Int) (k : Int) (w : World) (h : KindsAt w b ks) (hl : ks.length ≤ 1000) :
    Calls Tryz.prog 177 #[.slice (some ⟨b, 0, none⟩) ks.length cap, .int .i64 k] w fun e w' => e = .returned (.int .i64 (idxI ks k)) ∧ w = w' := by
  obtain ⟨n, hn⟩ : ∃ n, n = ks.length := ⟨_, rfl⟩
  rw [← hn] at hl ⊢
  have HV := Lib.hid h.2
  have HNN := Lib.hid hn
  clear h hn
  go_enter Tryz.func177, Tryz.ntmps177
  go_wp2_with fail
  go_loopw [8] (fun i wr => ∃ j : Nat, j ≤ n ∧ i = .int .i64 j ∧ Hid (∀ x ∈ ks.take j, (k == x) = false) ∧ wr = w) (fun i _ => n - (intOf i).toNat)
  case atStart => exact ⟨0, Nat.zero_le _, rfl, Lib.hid (by simp), rfl⟩
  case round =>
    obtain ⟨j, hj, rfl, hall, rfl⟩ := hrel
    by_cases hlt : j < n
    · obtain ⟨x, hx⟩ : ∃ x, ks[j]? = some x := ⟨ks[j]'(by have := HNN.out; omega), List.getElem?_eq_getElem _⟩
      have hc := HV.out j x hx
      cases hb : (k == x)
      · have HN : Hid (∀ y ∈ ks.take (j + 1), (k == y) = false) := Lib.hid (by
          intro y hy
          rw [List.take_add_one, hx] at hy
          rcases List.mem_append.1 hy with hy | hy
          · exact hall.out y hy
          · have : y = x := by simpa using hy
            rw [this]; exact hb)
        clear hx
        go_wp2_with fail
        go_roundw
        case rel => exact ⟨j + 1, by omega, by simp, HN, trivial⟩
        case measure => simp [intOf]; omega
      · have HE := Lib.hid (find_here hx hall.out hb)
        clear hx
        go_wp2_with fail
        go_ret
        rw [HE.out]
        exact ⟨rfl, rfl⟩
    · have HE : Hid (idxI ks k = -1) := Lib.hid (by
        have h := hall.out
        rw [List.take_of_length_le (by have := HNN.out; omega)] at h
        unfold idxI
        rw [contains_none h]
        rfl)
      go_wp2_with fail
      go_ret
      rw [HE.out]
      exact ⟨rfl, rfl⟩
set_option maxRecDepth 100000 in
set_option maxHeartbeats 1000000 in
theorem contains_any (b cap : Nat) (ks : List Int) (k : Int) (w : World) (h : KindsAt w b ks) (hl : ks.length ≤ 1000) :
    Calls Tryz.prog 173 #[.slice (some ⟨b, 0, none⟩) ks.length cap, .int .i64 k] w fun e w' => e = .returned (.bool (ks.contains k)) ∧ w = w' := by
  have HI := Lib.hid (indexK_any b cap ks k w h hl)
  have HX := Lib.hid (idx_pos ks k)
  generalize idxI ks k = i at *
  generalize ks.contains k = c at *
  clear h
  go_enter Tryz.func173, Tryz.ntmps173
  go_wp2_with fail
  refine HI.out.mono ?_
  rintro e w1 ⟨rfl, rfl⟩
  go_wp2_with fail
  go_ret
  exact ⟨ret_bool HX.out, rfl⟩
end Go.Proofs.YtegbkfloiiilfaaGreatDoor.Addr

/-
  Walks: joined, texts.
-/
namespace Go.Proofs.YtegbkfloiiilfaaGreatDoor.Addr
open Go Go.RowKit
open Go.Proofs.YtegbkfloiiilfaaGreatDoor.Lex
open Go.Proofs.YtegbkfloiiilfaaGreatDoor.Glyph (fd foldL foldL_foldL fold_any)
open Go.Proofs.YtegbkfloiiilfaaGreatDoor.Sha (Kept wp_region_kept wp_region_kept_tail quiet_load_row)

theorem texts_le : ∀ T : List Tk, (textsL T).length ≤ cost T
  | [] => by simp [textsL, cost]
  | t :: T => by
    have := texts_le T
    unfold textsL cost at *
    simp only [List.map_cons, List.flatten_cons, List.length_append, List.sum_cons, bl_len]
    omega
theorem joined_odd {ok : Int → Bool} {k : Nat} {t : Tk} {T : List Tk} (hk : k % 2 = 1) : joined ok k (t :: T) = (dotB t && joined ok (k + 1) T) := by
  rw [joined, if_pos hk]
theorem joined_even {ok : Int → Bool} {k : Nat} {t : Tk} {T : List Tk} (hk : k % 2 ≠ 1) : joined ok k (t :: T) = (ok t.kind && joined ok (k + 1) T) := by
  rw [joined, if_neg hk]
theorem drop_tk {T : List Tk} {k : Nat} {t : Tk} (h : T[k]? = some t) : T.drop k = t :: T.drop (k + 1) := by
  obtain ⟨hl, rfl⟩ := List.getElem?_eq_some_iff.1 h
  rw [List.drop_eq_getElem_cons hl]
theorem rem_nat (k : Nat) : (k : Int).tmod 2 = ((k % 2 : Nat) : Int) := rfl
theorem rem_odd {k : Nat} (h : k % 2 = 1) : (k : Int).tmod 2 = 1 := by rw [rem_nat, h]; rfl
theorem rem_even {k : Nat} (h : ¬ k % 2 = 1) : (k : Int).tmod 2 = 0 := by rw [rem_nat, show k % 2 = 0 by omega]; rfl
theorem guard_tk : Tryz.prog.eqGuardType Tryz.prog.depth tkT = false := by kernel_rfl
theorem quiet_neq_tok {C : World → Prop} {o : Oper} {a : Act} {K : Act → Prop} (x y : Operand) (c d : Tk) (b : Bool) (hr : ∀ w, (binOp .neq tkT (tkV c) (tkV d)).run Tryz.prog w = .ok (.bool b) w) (ho : o.op = .binOp .neq tkT x y tkT) (hx : a.eval x = tkV c) (hy : a.eval y = tkV d) (h : K (a.put o.dst (.bool b))) : o.quiet Tryz.prog a C K :=
  ⟨_, fun w hw => by
    have h1 := hr w
    unfold Oper.quietAt execOp
    simp [ho, hx, hy, h1, run_eqGuard_agg w .neq tkT x y _ _ guard_tk]
    exact ⟨rfl, rfl⟩, h⟩
theorem quiet_load_int {P : Program} {C : World → Prop} {o : Oper} {a : Act} {K : Act → Prop} (ty : TypeId) (x : Operand) (ho : o.op = .load ty x) (p : Addr) (hx : a.eval x = .pointer (some p)) (v : Value)
    (hc : ∀ w, C w → w.cell? p = some v) (hu : P.underlying ty = some (.int .i64)) (h : K (a.put o.dst v)) : o.quiet P a C K :=
  ⟨_, fun w hw => by
    have h1 := hc w hw
    unfold Oper.quietAt execOp
    simp [ho, hx, Instr.loadAt, Instr.sureAddr, loadVar, isAgg, run_underlying hu, h1]
    exact ⟨rfl, rfl⟩, h⟩
set_option maxRecDepth 100000 in
set_option maxHeartbeats 4000000 in
theorem joined_any (v : Value) (T : List Tk) (b cap : Nat) (ks : List Int) (w : World) (hv : ReadsT w v T) (hl : T.length ≤ 100000) (hks : KindsAt w b ks) (hkl : ks.length ≤ 1000) :
    Calls Tryz.prog 170 #[v, .slice (some ⟨b, 0, none⟩) ks.length cap] w fun e w' => e = .returned (.bool (joined ks.contains 0 T)) ∧ Below w.heap.size w w' := by
  obtain ⟨va, vc, rfl⟩ := hv.shape
  obtain ⟨n, hn⟩ : ∃ n, n = T.length := ⟨_, rfl⟩
  rw [← hn] at hv hl ⊢
  have HV := Lib.hid (fun k a ha => hv.at_ k a ha)
  have HNN := Lib.hid hn
  have HK := Lib.hid hks
  have HC := Lib.hid (fun (c : Int) W (h : KindsAt W b ks) => contains_any b cap ks c W h hkl)
  generalize ks.length = kl at *
  clear hv hn hks hkl
  go_enter Tryz.func170, Tryz.ntmps170
  go_wp2_with fail
  go_loopw [10] (fun i wr => ∃ k : Nat, k ≤ n ∧ i = .int .i64 k ∧ Hid (joined ks.contains 0 T = joined ks.contains k (T.drop k)) ∧ Hid (Below w.heap.size w wr)) (fun i _ => n - (intOf i).toNat)
  case atStart => exact ⟨0, Nat.zero_le _, rfl, Lib.hid rfl, Lib.hid (Below.refl _ _)⟩
  case round =>
    obtain ⟨k, hk, rfl, hI, hB⟩ := hrel
    by_cases hlt : k < n
    · obtain ⟨t, ht⟩ : ∃ a, T[k]? = some a := ⟨T[k]'(by have := HNN.out; omega), List.getElem?_eq_getElem _⟩
      obtain ⟨b1, o1, rfl, hb1, r1⟩ := HV.out k t ht
      obtain ⟨c0, c1⟩ := two (range_below r1 hb1 hB.out)
      have HNB := Lib.hid (new_boxT wr tkT t)
      have HB2 : Hid (Below w.heap.size w (wr.alloc (boxT tkT t))) := Lib.hid (hB.out.alloc hB.out.size _)
      have hdt := drop_tk ht
      by_cases h2 : k % 2 = 1
      · have hm := rem_odd h2
        have hj : joined ks.contains 0 T = (dotB t && joined ks.contains (k + 1) (T.drop (k + 1))) := by rw [hI.out, hdt, joined_odd h2]
        have HS := Lib.hid (fun W => special_any dotS W)
        have HD : Hid (∀ W, (binOp .neq tkT (tkV t) (tkV ⟨3, dotS⟩)).run Tryz.prog W = .ok (.bool (!(dotB t))) W) := Lib.hid fun W => by rw [neq_tok, dot_eq]
        have HJ := Lib.hid hj
        clear hj hdt r1 h2 ht
        cases hd : dotB t
        · rw [hd] at HD HJ
          have HS2 : Hid (∀ W, Below (wr.alloc (boxT tkT t)).heap.size (wr.alloc (boxT tkT t)) W → Calls Tryz.prog 169 #[.string dotS] W fun e w' => e = .returned (tkV ⟨3, dotS⟩) ∧ Below (wr.alloc (boxT tkT t)).heap.size (wr.alloc (boxT tkT t)) w') :=
            Lib.hid fun W hW => (HS.out W).mono fun e w' he => ⟨he.1, hW.trans (he.2.mono hW.size)⟩
          clear hd
          go_wp2_with fail
          refine wp_region_kept (by kernel_rfl) (by kernel_rfl) ?_
          repeat (first
            | (go_big_quiet_want
               first
                 | refine quiet_neq_tok (.tmp 20) (.tmp 21) t ⟨3, dotS⟩ true HD.out rfl rfl rfl ?_
                 | refine quiet_load_row tkT (.tmp 6) rfl wr.heap.size 0 rfl (tkC t) _ (fun w' hk => range_below HNB.out (by simp) hk) Tryz.underlying164 rfl sizeT ?_
               go_simp
               go_big_quiet_on)
            | (go_big_quiet_step ((first | (exact fun _ => rfl) | (intro hk; go_at_call 169; exact (HS2.out _ hk))))))
          refine wpQuiet_nil ?_
          intro W2 hk2
          have HK2 := Lib.hid (HB2.out.trans (hk2.below.mono HB2.out.size))
          clear hk2
          go_wp2_with fail
          go_ret
          exact ⟨ret_bool (by rw [HJ.out]; rfl), HK2.out⟩
        · rw [hd] at HD HJ
          have HS2 : Hid (∀ W, Below (wr.alloc (boxT tkT t)).heap.size (wr.alloc (boxT tkT t)) W → Calls Tryz.prog 169 #[.string dotS] W fun e w' => e = .returned (tkV ⟨3, dotS⟩) ∧ Below (wr.alloc (boxT tkT t)).heap.size (wr.alloc (boxT tkT t)) w') :=
            Lib.hid fun W hW => (HS.out W).mono fun e w' he => ⟨he.1, hW.trans (he.2.mono hW.size)⟩
          clear hd
          go_wp2_with fail
          refine wp_region_kept (by kernel_rfl) (by kernel_rfl) ?_
          repeat (first
            | (go_big_quiet_want
               first
                 | refine quiet_neq_tok (.tmp 20) (.tmp 21) t ⟨3, dotS⟩ false HD.out rfl rfl rfl ?_
                 | refine quiet_load_row tkT (.tmp 6) rfl wr.heap.size 0 rfl (tkC t) _ (fun w' hk => range_below HNB.out (by simp) hk) Tryz.underlying164 rfl sizeT ?_
               go_simp
               go_big_quiet_on)
            | (go_big_quiet_step ((first | (exact fun _ => rfl) | (intro hk; go_at_call 169; exact (HS2.out _ hk))))))
          refine wpQuiet_nil ?_
          intro W2 hk2
          have HK2 := Lib.hid (HB2.out.trans (hk2.below.mono HB2.out.size))
          clear hk2
          go_wp2_with fail
          go_roundw
          case rel => exact ⟨k + 1, by omega, by simp, Lib.hid (by rw [HJ.out]; rfl), HK2⟩
          case measure => simp [intOf]; omega
      · have hm := rem_even h2
        have hj : joined ks.contains 0 T = (ks.contains t.kind && joined ks.contains (k + 1) (T.drop (k + 1))) := by rw [hI.out, hdt, joined_even h2]
        have HCT := Lib.hid (fun W (hW : Below w.heap.size w W) => HC.out t.kind W (HK.out.below hW))
        have HJ := Lib.hid hj
        clear hj hdt r1 h2 ht
        generalize ks.contains t.kind = c at *
        cases c
        · have HC2 : Hid (∀ W, Below (wr.alloc (boxT tkT t)).heap.size (wr.alloc (boxT tkT t)) W → Calls Tryz.prog 173 #[.slice (some ⟨b, 0, none⟩) kl cap, .int .i64 t.kind] W fun e w' => e = .returned (.bool false) ∧ Below (wr.alloc (boxT tkT t)).heap.size (wr.alloc (boxT tkT t)) w') :=
            Lib.hid fun W hW => (HCT.out W (HB2.out.trans (hW.mono HB2.out.size))).mono fun e w' he => ⟨he.1, by rw [← he.2]; exact hW⟩
          go_wp2_with fail
          refine wp_region_kept (by kernel_rfl) (by kernel_rfl) ?_
          repeat (first
            | (go_big_quiet_want
               first
                 | refine quiet_load_int 3 (.tmp 29) rfl ⟨wr.heap.size, 0, none⟩ rfl (.int .i64 t.kind) (fun w' hk => (two (range_below HNB.out (by simp) hk)).1) Tryz.underlying3 ?_
               go_simp
               go_big_quiet_on)
            | (go_big_quiet_step ((first | (exact fun _ => rfl) | (intro hk; go_at_call 173; exact (HC2.out _ hk))))))
          refine wpQuiet_nil ?_
          intro W2 hk2
          have HK2 := Lib.hid (HB2.out.trans (hk2.below.mono HB2.out.size))
          clear hk2
          go_wp2_with fail
          go_ret
          exact ⟨ret_bool (by rw [HJ.out]; rfl), HK2.out⟩
        · have HC2 : Hid (∀ W, Below (wr.alloc (boxT tkT t)).heap.size (wr.alloc (boxT tkT t)) W → Calls Tryz.prog 173 #[.slice (some ⟨b, 0, none⟩) kl cap, .int .i64 t.kind] W fun e w' => e = .returned (.bool true) ∧ Below (wr.alloc (boxT tkT t)).heap.size (wr.alloc (boxT tkT t)) w') :=
            Lib.hid fun W hW => (HCT.out W (HB2.out.trans (hW.mono HB2.out.size))).mono fun e w' he => ⟨he.1, by rw [← he.2]; exact hW⟩
          go_wp2_with fail
          refine wp_region_kept (by kernel_rfl) (by kernel_rfl) ?_
          repeat (first
            | (go_big_quiet_want
               first
                 | refine quiet_load_int 3 (.tmp 29) rfl ⟨wr.heap.size, 0, none⟩ rfl (.int .i64 t.kind) (fun w' hk => (two (range_below HNB.out (by simp) hk)).1) Tryz.underlying3 ?_
               go_simp
               go_big_quiet_on)
            | (go_big_quiet_step ((first | (exact fun _ => rfl) | (intro hk; go_at_call 173; exact (HC2.out _ hk))))))
          refine wpQuiet_nil ?_
          intro W2 hk2
          have HK2 := Lib.hid (HB2.out.trans (hk2.below.mono HB2.out.size))
          clear hk2
          go_wp2_with fail
          go_roundw
          case rel => exact ⟨k + 1, by omega, by simp, Lib.hid (by rw [HJ.out]; rfl), HK2⟩
          case measure => simp [intOf]; omega
    · have HE : Hid (joined ks.contains 0 T = (n % 2 == 1)) := Lib.hid (by
        rw [hI.out, List.drop_eq_nil_of_le (by have := HNN.out; omega), show k = n by omega]
        rfl)
      by_cases h2 : n % 2 = 1
      · have hm := rem_odd h2
        have HX : Hid (joined ks.contains 0 T = true) := Lib.hid (by rw [HE.out, h2]; rfl)
        clear h2
        go_wp2_with fail
        go_ret
        exact ⟨ret_bool (by rw [HX.out]), hB.out⟩
      · have hm := rem_even h2
        have HX : Hid (joined ks.contains 0 T = false) := Lib.hid (by rw [HE.out, show n % 2 = 0 by omega]; rfl)
        clear h2
        go_wp2_with fail
        go_ret
        exact ⟨ret_bool (by rw [HX.out]), hB.out⟩
set_option maxRecDepth 100000 in
set_option maxHeartbeats 2000000 in
theorem texts_any (v : Value) (T : List Tk) (w : World) (hv : ReadsT w v T) (hl : T.length ≤ 100000) (hc : cost T ≤ 10000000) :
    Calls Tryz.prog 172 #[v] w fun e w' => e = .returned (.string (ba (textsL T))) ∧ Below w.heap.size w w' := by
  obtain ⟨va, vc, rfl⟩ := hv.shape
  obtain ⟨n, hn⟩ : ∃ n, n = T.length := ⟨_, rfl⟩
  rw [← hn] at hv hl ⊢
  have HV := Lib.hid (fun k a ha => hv.at_ k a ha)
  have HNN := Lib.hid hn
  have HCT : Hid (∀ k, (textsL (T.take k)).length ≤ 10000000) := Lib.hid fun k => Nat.le_trans (texts_le (T.take k)) (Nat.le_trans (costT_le T k) hc)
  clear hv hn
  go_enter Tryz.func172, Tryz.ntmps172
  go_wp2_with fail
  go_loopw [8] (fun i wr => ∃ k : Nat, k ≤ n ∧ i = .int .i64 k ∧ Hid (BuiltAt w wr (textsL (T.take k)))) (fun i _ => n - (intOf i).toNat)
  case atStart => exact ⟨0, Nat.zero_le _, rfl, Lib.hid (BuiltAt.start w)⟩
  case round =>
    obtain ⟨k, hk, rfl, hB⟩ := hrel
    by_cases hlt : k < n
    · obtain ⟨t, ht⟩ : ∃ a, T[k]? = some a := ⟨T[k]'(by have := HNN.out; omega), List.getElem?_eq_getElem _⟩
      obtain ⟨b1, o1, rfl, hb1, r1⟩ := HV.out k t ht
      obtain ⟨c0, c1⟩ := two (range_below r1 hb1 hB.out.2)
      have hne : textsL (T.take (k + 1)) = textsL (T.take k) ++ bl t.text := by
        rw [List.take_add_one, ht]
        simp [textsL]
      have hz : t.text.size ≤ 10000000 := by
        have := mem_cost (List.mem_of_getElem? ht)
        omega
      have HW := Lib.hid (wstr w (wr.alloc (boxT tkT t)) (textsL (T.take k)) t.text (hB.out.kept ((Below.refl _ _).alloc (Nat.le_refl _) _)) (by have := HCT.out k; omega) (by omega))
      have HNE := Lib.hid hne
      clear hne r1 ht
      go_wp2_with fail
      refine HW.out.mono ?_
      rintro e w2 ⟨rfl, h2⟩
      have HB2 := Lib.hid h2
      clear h2
      go_wp2_with fail
      go_roundw
      case rel => exact ⟨k + 1, by omega, by simp, Lib.hid (by rw [HNE.out]; exact HB2.out)⟩
      case measure => simp [intOf]; omega
    · have HE : Hid (T.take k = T) := Lib.hid (List.take_of_length_le (by have := HNN.out; omega))
      have HW := Lib.hid (wend w wr _ hB.out)
      rw [HE.out] at HW
      go_wp2_with fail
      refine HW.out.mono ?_
      rintro e w2 ⟨rfl, hb⟩
      have HB2 := Lib.hid hb
      clear hb
      go_wp2_with fail
      go_ret
      exact ⟨rfl, HB2.out⟩
end Go.Proofs.YtegbkfloiiilfaaGreatDoor.Addr

/-
  Walks: Of, Parse, Strict.
-/
namespace Go.Proofs.YtegbkfloiiilfaaGreatDoor.Addr
open Go Go.RowKit
open Go.Proofs.YtegbkfloiiilfaaGreatDoor.Lex
open Go.Proofs.YtegbkfloiiilfaaGreatDoor.Glyph (fd foldL foldL_foldL fold_any)
open Go.Proofs.YtegbkfloiiilfaaGreatDoor.Sha (Kept wp_region_kept wp_region_kept_tail quiet_load_row)

theorem word_contains : ([1, 2] : List Int).contains = wordK := by
  funext k
  unfold wordK
  rw [Bool.eq_iff_iff, List.contains_iff_mem]
  simp
theorem atom_contains : ([1] : List Int).contains = atomK := by
  funext k
  unfold atomK
  rw [Bool.eq_iff_iff, List.contains_iff_mem]
  simp
theorem kinds2 (w : World) : KindsAt (w.alloc (.cells #[.int .i64 1, .int .i64 2] 3)) w.heap.size [1, 2] := by
  refine ⟨by simp, fun i k hi => ?_⟩
  have hb := heap_alloc_new w (.cells #[.int .i64 1, .int .i64 2] 3)
  simp only [World.cell?, hb]
  match i, hi with
  | 0, hi => obtain rfl : 1 = k := by simpa using hi
             rfl
  | 1, hi => obtain rfl : 2 = k := by simpa using hi
             rfl
  | i + 2, hi => simp at hi
theorem kinds1 (w : World) : KindsAt (w.alloc (.cells #[.int .i64 1] 3)) w.heap.size [1] := by
  refine ⟨by simp, fun i k hi => ?_⟩
  have hb := heap_alloc_new w (.cells #[.int .i64 1] 3)
  simp only [World.cell?, hb]
  match i, hi with
  | 0, hi => obtain rfl : 1 = k := by simpa using hi
             rfl
  | i + 1, hi => simp at hi
theorem front {w : World} {b off n cap : Nat} {T : List Tk} (h : ReadsT w (.slice (some ⟨b, off, none⟩) n cap) T) (k : Nat) (hk : k ≤ n) : ReadsT w (.slice (some ⟨b, off, none⟩) k cap) (T.take k) := by
  rcases h with ⟨a, c, he, rfl⟩ | ⟨b', o', c', he, h1, h2, h3, h4⟩
  · obtain ⟨rfl, rfl, rfl⟩ := Value.slice.inj he
    obtain rfl : k = 0 := by omega
    exact .inl ⟨_, _, rfl, by simp⟩
  · obtain ⟨hA, rfl, rfl⟩ := Value.slice.inj he
    obtain ⟨rfl, rfl⟩ : b = b' ∧ off = o' := by simpa using hA
    have hl : (T.take k).length = k := by rw [List.length_take]; omega
    refine .inr ⟨b, off, cap, by rw [hl], by omega, h2, h3, fun i e hi => h4 i e ?_⟩
    rw [List.getElem?_take] at hi
    split at hi
    · exact hi
    · cases hi
theorem back {w : World} {b off n cap : Nat} {T : List Tk} (h : ReadsT w (.slice (some ⟨b, off, none⟩) n cap) T) (j : Nat) (hj : j ≤ n) : ReadsT w (.slice (some ⟨b, off + j * 2, none⟩) (n - j) (cap - j)) (T.drop j) := by
  rcases h with ⟨a, c, he, rfl⟩ | ⟨b', o', c', he, h1, h2, h3, h4⟩
  · obtain ⟨rfl, rfl, rfl⟩ := Value.slice.inj he
    exact .inl ⟨_, _, by rw [Nat.zero_sub], by simp⟩
  · obtain ⟨hA, rfl, rfl⟩ := Value.slice.inj he
    obtain ⟨rfl, rfl⟩ : b = b' ∧ off = o' := by simpa using hA
    refine .inr ⟨b, off + j * 2, cap - j, by rw [List.length_drop], by rw [List.length_drop]; omega, by omega, h3, fun i e hi => ?_⟩
    rw [List.getElem?_drop] at hi
    have := h4 _ e hi
    rwa [show off + (j + i) * 2 = off + j * 2 + i * 2 by omega] at this
/-- All of a list taken off: where nothing is left the address stays. -/
theorem back_all {w : World} {b off n cap : Nat} {T : List Tk} (h : ReadsT w (.slice (some ⟨b, off, none⟩) n cap) T) (j : Nat) (hj : n ≤ j) : ReadsT w (.slice (some ⟨b, off, none⟩) (n - j) 0) (T.drop j) := by
  obtain ⟨a, c, he⟩ := h.shape
  obtain ⟨-, hn, -⟩ := Value.slice.inj he
  rw [show n - j = 0 by omega, List.drop_eq_nil_of_le (by omega)]
  exact .inl ⟨_, _, rfl, rfl⟩
theorem cost_drop (T : List Tk) (k : Nat) : cost (T.drop k) ≤ cost T := by
  have h : cost T = cost (T.take k) + cost (T.drop k) := by
    conv => lhs; rw [← List.take_append_drop k T]
    unfold cost
    rw [List.map_append, List.sum_append]
  omega
theorem of_no {T : List Tk} (h : formT T = false) : ofL T = (noAd, 130) := by
  unfold ofL
  rw [h, if_neg (by decide)]
theorem of_yes {T : List Tk} (h : formT T = true) : ofL T = buildL (textsL (T.take (atN T))) (textsL (T.drop (atN T + 1))) := by
  unfold ofL
  rw [if_pos h]
set_option maxRecDepth 100000 in
set_option maxHeartbeats 4000000 in
theorem of_any (v : Value) (T : List Tk) (w : World) (hv : ReadsT w v T) (hl : T.length ≤ 100000) (hc : cost T ≤ 100000) :
    Calls Tryz.prog 166 #[v] w (AdPost (ofL T) w) := by
  have HS := Lib.hid (fun W => special_any atS W)
  have HI := Lib.hid (fun W (h : ReadsT W v T) => indexT_any v T W h (by omega))
  have HR0 := Lib.hid (Res.start w adT)
  have HV := Lib.hid hv
  by_cases hat : atN T < T.length
  · have hi : atI T = atN T := by unfold atI; rw [if_pos hat]
    rw [hi] at HI
    have hF : formT T = (joined wordK 0 (T.take (atN T)) && joined atomK 0 (T.drop (atN T + 1))) := by unfold formT; rw [decide_eq_true hat]; rfl
    obtain ⟨k, hk⟩ : ∃ k, k = atN T := ⟨_, rfl⟩
    have HY := Lib.hid (fun h => of_yes (T := T) h)
    have HN := Lib.hid (fun h => of_no (T := T) h)
    rw [← hk] at hat hF HI HY
    have HF := Lib.hid hF
    have hsh : ∃ b off cap, v = .slice (some ⟨b, off, none⟩) T.length cap ∧ T.length ≤ cap ∧ cap ≤ 9223372036854775807 := by
      rcases hv with ⟨a, c, rfl, rfl⟩ | ⟨b, off, cap, rfl, h1, h2, _⟩
      · simp at hat
      · exact ⟨b, off, cap, rfl, h1, h2⟩
    obtain ⟨b, off, cap, rfl, hc1, hc2⟩ := hsh
    have HFR := Lib.hid (fun W (h : ReadsT W (.slice (some ⟨b, off, none⟩) T.length cap) T) => front h k (Nat.le_of_lt hat))
    have HBK : Hid (∃ o2 c2, (cap = k + 1 → o2 = off ∧ c2 = 0) ∧ (k + 1 < cap → o2 = off + (k + 1) * 2 ∧ c2 = cap - (k + 1)) ∧ ∀ W, ReadsT W (.slice (some ⟨b, off, none⟩) T.length cap) T → ReadsT W (.slice (some ⟨b, o2, none⟩) (T.length - (k + 1)) c2) (T.drop (k + 1))) := Lib.hid (by
      by_cases hcap : cap = k + 1
      · exact ⟨off, 0, fun _ => ⟨rfl, rfl⟩, fun h => by omega, fun W h => back_all h (k + 1) (by omega)⟩
      · exact ⟨off + (k + 1) * 2, cap - (k + 1), fun h => absurd h hcap, fun _ => ⟨rfl, rfl⟩, fun W h => back h (k + 1) hat⟩)
    have hkc : k + 1 ≤ cap := by omega
    have hlT : (T.take k).length ≤ 100000 := by rw [List.length_take]; omega
    have hlD : (T.drop (k + 1)).length ≤ 100000 := by rw [List.length_drop]; omega
    have HJ := Lib.hid (fun v b' W (h : ReadsT W v (T.take k)) (hk : KindsAt W b' [1, 2]) => joined_any v (T.take k) b' 2 [1, 2] W h hlT hk (by decide))
    have HJ1 := Lib.hid (fun v b' W (h : ReadsT W v (T.drop (k + 1))) (hk : KindsAt W b' [1]) => joined_any v (T.drop (k + 1)) b' 1 [1] W h hlD hk (by decide))
    rw [word_contains] at HJ
    rw [atom_contains] at HJ1
    obtain ⟨n, hn⟩ : ∃ n, n = T.length := ⟨_, rfl⟩
    rw [← hn] at hat hl hc1 HFR HBK HI HV ⊢
    clear hF hi hv hk hn
    cases hw : joined wordK 0 (T.take k)
    · rw [hw] at HJ HF
      have HX := Lib.hid (HN.out HF.out)
      clear hw
      go_enter Tryz.func166, Tryz.ntmps166
      go_wp2_with fail
      refine (HS.out _).mono ?_
      rintro e w1 ⟨rfl, hb⟩
      have HR1 := Lib.hid (HR0.out.on hb)
      clear hb
      go_wp2_with fail
      refine (HI.out _ (HV.out.below HR1.out.below)).mono ?_
      rintro e w2 ⟨rfl, hb⟩
      have HR2 := Lib.hid (HR1.out.on hb)
      clear hb
      go_wp2_with fail
      have HA3 := Lib.hid ((Below.refl w2.heap.size w2).alloc (Nat.le_refl _) (.cells #[.int .i64 1, .int .i64 2] 3))
      have HV2 := Lib.hid (HV.out.below HR2.out.below)
      refine (HJ.out _ _ _ (HFR.out _ (HV2.out.below HA3.out)) (kinds2 w2)).mono ?_
      rintro e w3 ⟨rfl, hb⟩
      have HB3 := Lib.hid (HA3.out.trans (hb.mono HA3.out.size))
      have HR3 := Lib.hid (HR2.out.on HB3.out)
      have HV3 := Lib.hid (HV2.out.below HB3.out)
      clear hb HA3
      obtain ⟨c0, c1, f0, f1⟩ := HR3.out.cells
      go_wp2_with fail
      obtain ⟨hl2, hb2⟩ := HR3.out.fill ⟨#[]⟩ ⟨#[]⟩
      exact bodyPost_ret (v := .tuple #[adB ⟨#[]⟩ ⟨#[]⟩, .int .i64 130]) (results_ad2 Tryz.results166 _ _ w.heap.size adT _ (0, 0) _ rfl hl2 Tryz.underlying44 rfl sizeA) rfl (AdPost.no (c := 130) HX.out hb2)
    · rw [hw] at HJ HF
      rcases Nat.lt_or_ge (k + 1) cap with hcap | hcap
      rotate_left
      · obtain rfl : cap = k + 1 := by omega
        have HBK2 : Hid (∀ W : World, ReadsT W (.slice (some ⟨b, off, none⟩) 0 0) (T.drop (k + 1))) := Lib.hid fun W => by
          obtain ⟨_, _, he⟩ := HV.out.shape
          have hnl := (Value.slice.inj he).2.1
          rw [List.drop_eq_nil_of_le (by omega)]
          exact .inl ⟨_, _, rfl, rfl⟩
        have hw1 : joined atomK 0 (T.drop (k + 1)) = false := by
          obtain ⟨_, _, he⟩ := HV.out.shape
          have hnl := (Value.slice.inj he).2.1
          rw [List.drop_eq_nil_of_le (by omega)]
          rfl
        clear HBK
        rw [hw1] at HJ1 HF
        have HX := Lib.hid (HN.out HF.out)
        clear hw hw1
        go_enter Tryz.func166, Tryz.ntmps166
        go_wp2_with fail
        refine (HS.out _).mono ?_
        rintro e w1 ⟨rfl, hb⟩
        have HR1 := Lib.hid (HR0.out.on hb)
        clear hb
        go_wp2_with fail
        refine (HI.out _ (HV.out.below HR1.out.below)).mono ?_
        rintro e w2 ⟨rfl, hb⟩
        have HR2 := Lib.hid (HR1.out.on hb)
        clear hb
        go_wp2_with fail
        have HA3 := Lib.hid ((Below.refl w2.heap.size w2).alloc (Nat.le_refl _) (.cells #[.int .i64 1, .int .i64 2] 3))
        have HV2 := Lib.hid (HV.out.below HR2.out.below)
        refine (HJ.out _ _ _ (HFR.out _ (HV2.out.below HA3.out)) (kinds2 w2)).mono ?_
        rintro e w3 ⟨rfl, hb⟩
        have HB3 := Lib.hid (HA3.out.trans (hb.mono HA3.out.size))
        have HR3 := Lib.hid (HR2.out.on HB3.out)
        have HV3 := Lib.hid (HV2.out.below HB3.out)
        clear hb HA3
        go_wp2_with fail
        have HA4 := Lib.hid ((Below.refl w3.heap.size w3).alloc (Nat.le_refl _) (.cells #[.int .i64 1] 3))
        refine (HJ1.out _ _ _ (HBK2.out _) (kinds1 w3)).mono ?_
        rintro e w4 ⟨rfl, hb⟩
        have HB4 := Lib.hid (HA4.out.trans (hb.mono HA4.out.size))
        have HR4 := Lib.hid (HR3.out.on HB4.out)
        have HV4 := Lib.hid (HV3.out.below HB4.out)
        clear hb HA4
        obtain ⟨c0, c1, f0, f1⟩ := HR4.out.cells
        go_wp2_with fail
        obtain ⟨hl2, hb2⟩ := HR4.out.fill ⟨#[]⟩ ⟨#[]⟩
        exact bodyPost_ret (v := .tuple #[adB ⟨#[]⟩ ⟨#[]⟩, .int .i64 130]) (results_ad2 Tryz.results166 _ _ w.heap.size adT _ (0, 0) _ rfl hl2 Tryz.underlying44 rfl sizeA) rfl (AdPost.no (c := 130) HX.out hb2)
      obtain ⟨o2, c2, ⟨rfl, rfl⟩, hbk⟩ : ∃ o2 c2, (o2 = off + (k + 1) * 2 ∧ c2 = cap - (k + 1)) ∧ ∀ W, ReadsT W (.slice (some ⟨b, off, none⟩) n cap) T → ReadsT W (.slice (some ⟨b, o2, none⟩) (n - (k + 1)) c2) (T.drop (k + 1)) := by
        obtain ⟨o2, c2, h1, h2, h3⟩ := HBK.out
        exact ⟨o2, c2, h2 hcap, h3⟩
      have HBK2 := Lib.hid hbk
      clear hbk HBK
      cases hw1 : joined atomK 0 (T.drop (k + 1))
      · rw [hw1] at HJ1 HF
        have HX := Lib.hid (HN.out HF.out)
        clear hw hw1
        go_enter Tryz.func166, Tryz.ntmps166
        go_wp2_with fail
        refine (HS.out _).mono ?_
        rintro e w1 ⟨rfl, hb⟩
        have HR1 := Lib.hid (HR0.out.on hb)
        clear hb
        go_wp2_with fail
        refine (HI.out _ (HV.out.below HR1.out.below)).mono ?_
        rintro e w2 ⟨rfl, hb⟩
        have HR2 := Lib.hid (HR1.out.on hb)
        clear hb
        go_wp2_with fail
        have HA3 := Lib.hid ((Below.refl w2.heap.size w2).alloc (Nat.le_refl _) (.cells #[.int .i64 1, .int .i64 2] 3))
        have HV2 := Lib.hid (HV.out.below HR2.out.below)
        refine (HJ.out _ _ _ (HFR.out _ (HV2.out.below HA3.out)) (kinds2 w2)).mono ?_
        rintro e w3 ⟨rfl, hb⟩
        have HB3 := Lib.hid (HA3.out.trans (hb.mono HA3.out.size))
        have HR3 := Lib.hid (HR2.out.on HB3.out)
        have HV3 := Lib.hid (HV2.out.below HB3.out)
        clear hb HA3
        go_wp2_with fail
        have HA4 := Lib.hid ((Below.refl w3.heap.size w3).alloc (Nat.le_refl _) (.cells #[.int .i64 1] 3))
        refine (HJ1.out _ _ _ (HBK2.out _ (HV3.out.below HA4.out)) (kinds1 w3)).mono ?_
        rintro e w4 ⟨rfl, hb⟩
        have HB4 := Lib.hid (HA4.out.trans (hb.mono HA4.out.size))
        have HR4 := Lib.hid (HR3.out.on HB4.out)
        have HV4 := Lib.hid (HV3.out.below HB4.out)
        clear hb HA4
        obtain ⟨c0, c1, f0, f1⟩ := HR4.out.cells
        go_wp2_with fail
        obtain ⟨hl2, hb2⟩ := HR4.out.fill ⟨#[]⟩ ⟨#[]⟩
        exact bodyPost_ret (v := .tuple #[adB ⟨#[]⟩ ⟨#[]⟩, .int .i64 130]) (results_ad2 Tryz.results166 _ _ w.heap.size adT _ (0, 0) _ rfl hl2 Tryz.underlying44 rfl sizeA) rfl (AdPost.no (c := 130) HX.out hb2)
      · rw [hw1] at HJ1 HF
        have HX := Lib.hid (HY.out HF.out)
        clear hw hw1
        go_enter Tryz.func166, Tryz.ntmps166
        go_wp2_with fail
        refine (HS.out _).mono ?_
        rintro e w1 ⟨rfl, hb⟩
        have HR1 := Lib.hid (HR0.out.on hb)
        clear hb
        go_wp2_with fail
        refine (HI.out _ (HV.out.below HR1.out.below)).mono ?_
        rintro e w2 ⟨rfl, hb⟩
        have HR2 := Lib.hid (HR1.out.on hb)
        clear hb
        go_wp2_with fail
        have HA3 := Lib.hid ((Below.refl w2.heap.size w2).alloc (Nat.le_refl _) (.cells #[.int .i64 1, .int .i64 2] 3))
        have HV2 := Lib.hid (HV.out.below HR2.out.below)
        refine (HJ.out _ _ _ (HFR.out _ (HV2.out.below HA3.out)) (kinds2 w2)).mono ?_
        rintro e w3 ⟨rfl, hb⟩
        have HB3 := Lib.hid (HA3.out.trans (hb.mono HA3.out.size))
        have HR3 := Lib.hid (HR2.out.on HB3.out)
        have HV3 := Lib.hid (HV2.out.below HB3.out)
        clear hb HA3
        go_wp2_with fail
        have HA4 := Lib.hid ((Below.refl w3.heap.size w3).alloc (Nat.le_refl _) (.cells #[.int .i64 1] 3))
        refine (HJ1.out _ _ _ (HBK2.out _ (HV3.out.below HA4.out)) (kinds1 w3)).mono ?_
        rintro e w4 ⟨rfl, hb⟩
        have HB4 := Lib.hid (HA4.out.trans (hb.mono HA4.out.size))
        have HR4 := Lib.hid (HR3.out.on HB4.out)
        have HV4 := Lib.hid (HV3.out.below HB4.out)
        clear hb HA4
        go_wp2_with fail
        have HV4B := Lib.hid (fun W (hW : Below w4.heap.size w4 W) => HV4.out.below hW)
        have HT1 : Hid (∀ W, Kept w4 W → Calls Tryz.prog 172 #[.slice (some ⟨b, off, none⟩) k cap] W fun e W' => e = .returned (.string (ba (textsL (T.take k)))) ∧ Kept w4 W') :=
          Lib.hid fun W hW => (texts_any _ (T.take k) W (HFR.out _ (HV4B.out W hW.below)) hlT (Nat.le_trans (costT_le T k) (by omega))).mono fun e W' he => ⟨he.1, hW.below.trans (he.2.mono hW.below.size)⟩
        have HT2 : Hid (∀ W, Kept w4 W → Calls Tryz.prog 172 #[.slice (some ⟨b, off + (k + 1) * 2, none⟩) (n - (k + 1)) (cap - (k + 1))] W fun e W' => e = .returned (.string (ba (textsL (T.drop (k + 1))))) ∧ Kept w4 W') :=
          Lib.hid fun W hW => (texts_any _ (T.drop (k + 1)) W (HBK2.out _ (HV4B.out W hW.below)) hlD (Nat.le_trans (cost_drop T (k + 1)) (by omega))).mono fun e W' he => ⟨he.1, hW.below.trans (he.2.mono hW.below.size)⟩
        have hz1 : (ba (textsL (T.take k))).size ≤ 100000 := by
          rw [ba_size]
          exact Nat.le_trans (texts_le _) (Nat.le_trans (costT_le T k) (by omega))
        have hz2 : (ba (textsL (T.drop (k + 1)))).size ≤ 100000 := by
          rw [ba_size]
          exact Nat.le_trans (texts_le _) (Nat.le_trans (cost_drop T (k + 1)) (by omega))
        have HBL : Hid (∀ W, Kept w4 W → Calls Tryz.prog 171 #[.string (ba (textsL (T.take k))), .string (ba (textsL (T.drop (k + 1))))] W fun e W' => e = .returned (.tuple #[adB (ba (ofL T).1.l) (ba (ofL T).1.d), .int .i64 (ofL T).2]) ∧ Kept w4 W') :=
          Lib.hid fun W hW => (build_any (ba (textsL (T.take k))) (ba (textsL (T.drop (k + 1)))) W hz1 hz2).mono fun e W' he => by
            obtain ⟨he, hb⟩ := he
            rw [bl_ba, bl_ba, ← HX.out] at he
            exact ⟨he, hW.below.trans (hb.mono hW.below.size)⟩
        generalize ba (textsL (T.take k)) = xl at *
        generalize ba (textsL (T.drop (k + 1))) = xd at *
        generalize hof : ofL T = R at *
        obtain ⟨⟨rl, rd⟩, rc⟩ := R
        simp only at HBL
        clear HX hz1 hz2
        refine wp_region_kept_tail 12 (by kernel_rfl) (by kernel_rfl) ?_
        simp only [List.take_succ_cons, List.take_zero, List.drop_succ_cons, List.drop_zero]
        repeat (go_big_quiet_step ((first | (exact fun _ => rfl) | (intro hk; go_at_call 172; (with_reducible exact (HT1.out _ hk))) | (intro hk; go_at_call 172; (with_reducible exact (HT2.out _ hk))) | (intro hk; go_at_call 171; (with_reducible exact (HBL.out _ hk))))))
        refine wpQuiet_nil ?_
        intro w5 hk5
        have HR5 := Lib.hid (HR4.out.on hk5.below)
        obtain ⟨c0, c1, f0, f1⟩ := HR5.out.cells
        clear hk5
        go_wp2_with fail
        obtain ⟨hl2, hb2⟩ := HR5.out.fill (ba rl) (ba rd)
        exact bodyPost_ret (v := .tuple #[adB (ba rl) (ba rd), .int .i64 rc]) (results_ad2 Tryz.results166 _ _ w.heap.size adT _ (0, 0) _ rfl hl2 Tryz.underlying44 rfl sizeA) rfl ⟨rfl, hb2⟩
  · have hi : atI T = -1 := by unfold atI; rw [if_neg hat]
    rw [hi] at HI
    have HX := Lib.hid (of_no (T := T) (by unfold formT; rw [decide_eq_false hat]; rfl))
    obtain ⟨va, vc, rfl⟩ := hv.shape
    clear hv hi hat
    go_enter Tryz.func166, Tryz.ntmps166
    go_wp2_with fail
    refine (HS.out _).mono ?_
    rintro e w1 ⟨rfl, hb⟩
    have HR1 := Lib.hid (HR0.out.on hb)
    clear hb
    go_wp2_with fail
    refine (HI.out _ (HV.out.below HR1.out.below)).mono ?_
    rintro e w2 ⟨rfl, hb⟩
    have HR2 := Lib.hid (HR1.out.on hb)
    obtain ⟨c0, c1, f0, f1⟩ := HR2.out.cells
    clear hb
    go_wp2_with fail
    obtain ⟨hl2, hb2⟩ := HR2.out.fill ⟨#[]⟩ ⟨#[]⟩
    exact bodyPost_ret (v := .tuple #[adB ⟨#[]⟩ ⟨#[]⟩, .int .i64 130]) (results_ad2 Tryz.results166 _ _ w.heap.size adT _ (0, 0) _ rfl hl2 Tryz.underlying44 rfl sizeA) rfl (AdPost.no (c := 130) HX.out hb2)
end Go.Proofs.YtegbkfloiiilfaaGreatDoor.Addr

/-
  Walks: Parse, Strict.
-/
namespace Go.Proofs.YtegbkfloiiilfaaGreatDoor.Addr
open Go Go.RowKit
open Go.Proofs.YtegbkfloiiilfaaGreatDoor.Lex
open Go.Proofs.YtegbkfloiiilfaaGreatDoor.Glyph (fd foldL foldL_foldL fold_any)
open Go.Proofs.YtegbkfloiiilfaaGreatDoor.Sha (Kept wp_region_kept wp_region_kept_tail quiet_load_row)

theorem foldX_any (s : ByteArray) (w : World) (hs : s.size ≤ 1000000) :
    Calls Tryz.prog 50 #[.string s] w fun e w' => e = .returned (.string (ba (foldL (bl s)))) ∧ Below w.heap.size w w' := fold_any s w hs
theorem scan_small {l : List UInt8} {T : List Tk} (h : scan l = (0, T)) (hl : l.length ≤ 5000) : T.length ≤ 10000 ∧ cost T ≤ 50000 := by
  have h1 := (scan_ok h).2
  have h2 := len_cost T
  omega
theorem parse_bad {l : List UInt8} (h : (scan l).1 ≠ 0) : parseL l = (noAd, 130) := by unfold parseL; rw [if_neg h]
theorem parse_good {l : List UInt8} {T : List Tk} (h : scan l = (0, T)) : parseL l = ofL T := by unfold parseL; rw [h]; rfl
theorem strict_bad {l : List UInt8} {c : Nat} (h : parseL l = (noAd, c)) (hc : c ≠ 0) : strictL l = (noAd, c) := by
  unfold strictL
  rw [h, if_neg hc]
theorem strict_good {l : List UInt8} {a : Ad} (h : parseL l = (a, 0)) : strictL l = if foldL l = keyL a then (a, 0) else (noAd, 130) := by
  unfold strictL
  rw [h, if_pos rfl]
theorem parse_way (l : List UInt8) : (∃ a, parseL l = (a, 0) ∧ Right a) ∨ ∃ c, c ≠ 0 ∧ parseL l = (noAd, c) := by
  rcases parse_cases l with h | h | h
  · exact .inl h
  · exact .inr ⟨130, by decide, h⟩
  · exact .inr ⟨2, by decide, h⟩
end Go.Proofs.YtegbkfloiiilfaaGreatDoor.Addr
