/-
  Walks: countWords, begins, isEnder, join; a list of tokens cut at a place.
-/
import Derived.Test.YtklmhjoiffaniaaDoorMbxMem
import Derived.Deep.CutRange
namespace Go.Proofs.YtklmhjoiffaniaaDoor.Mbx
open Go Go.RowKit
open Go.Proofs.YtklmhjoiffaniaaDoor.Lex
open Go.Proofs.YtklmhjoiffaniaaDoor.Addr (strT append_str neq_tok eql_tok beq_text cost_drop front back back_all texts_le)

/-! A list cut at a place. -/
theorem from_any {a : Option Addr} {n cap : Nat} {T : List Tk} (w : World) (h : ReadsT w (.slice a n cap) T) (k : Nat) (hk : k ≤ n) :
    ∃ a' m c', m = n - k ∧ (∀ W : World, (Instr.sliceAt tksT (.slice a n cap) (some (.int .i64 k)) none none).run Tryd.prog W = .ok (.slice a' m c') W) ∧ ∀ W, ReadsT W (.slice a n cap) T → ReadsT W (.slice a' m c') (T.drop k) := by
  obtain ⟨i0, hi, hz0, hz1, hz2⟩ := info_parts infoT
  have hrun : ∀ W : World, (Instr.sliceAt tksT (.slice a n cap) (some (.int .i64 k)) none none).run Tryd.prog W = .ok (.slice (if cap = k then a else a.map (·.add (k * 2))) (n - k) (cap - k)) W := by
    intro W
    have e1 : (sizeOf tkT).run Tryd.prog W = .ok 2 W := by simp [sizeOf, typeInfo, hi, hz1]
    have e2 : Tryd.prog.elem tksT = tkT := by kernel_rfl
    rw [run_sliceAt_slice (P := Tryd.prog) W tksT _ _ _ _ (by rw [e2]; exact Tryd.underlying50), run_slice_l (P := Tryd.prog) W tksT a n cap (by rw [e2]; exact Tryd.underlying50) .i64 k (by omega) (by omega), e2, e1]
    simp [Result.andThen, sliced]
  refine ⟨_, _, _, rfl, hrun, ?_⟩
  intro W hW
  rcases hW with ⟨a0, c0, he, rfl⟩ | ⟨b, off, c0, he, h1, h2, h3, h4⟩
  · obtain ⟨rfl, rfl, rfl⟩ := Value.slice.inj he
    exact .inl ⟨_, _, by rw [Nat.zero_sub], by simp⟩
  · obtain ⟨rfl, rfl, rfl⟩ := Value.slice.inj he
    have hW : ReadsT W (.slice (some ⟨b, off, none⟩) T.length cap) T := .inr ⟨b, off, cap, rfl, h1, h2, h3, h4⟩
    by_cases hc : cap = k
    · have hl : T.drop k = [] := List.drop_eq_nil_of_le (by omega)
      rw [hl]
      exact .inl ⟨_, _, by rw [show T.length - k = 0 by omega], rfl⟩
    · rw [if_neg hc]
      have := back hW k hk
      simpa [addr_add] using this
theorem to_any {a : Option Addr} {n cap : Nat} {T : List Tk} (w : World) (h : ReadsT w (.slice a n cap) T) (k : Nat) (hk : k ≤ n) :
    ∃ a' m c', m = k ∧ (∀ W : World, (Instr.sliceAt tksT (.slice a n cap) none (some (.int .i64 k)) none).run Tryd.prog W = .ok (.slice a' m c') W) ∧ ∀ W, ReadsT W (.slice a n cap) T → ReadsT W (.slice a' m c') (T.take k) := by
  obtain ⟨i0, hi, hz0, hz1, hz2⟩ := info_parts infoT
  have hkc : k ≤ cap := by
    rcases h with ⟨a0, c0, he, rfl⟩ | ⟨b, off, c0, he, h1, h2, h3, h4⟩
    · obtain ⟨rfl, rfl, rfl⟩ := Value.slice.inj he
      omega
    · obtain ⟨rfl, rfl, rfl⟩ := Value.slice.inj he
      omega
  have hrun : ∀ W : World, (Instr.sliceAt tksT (.slice a n cap) none (some (.int .i64 k)) none).run Tryd.prog W = .ok (.slice (if cap = 0 then a else a.map (·.add (0 * 2))) k cap) W := by
    intro W
    have e1 : (sizeOf tkT).run Tryd.prog W = .ok 2 W := by simp [sizeOf, typeInfo, hi, hz1]
    have e2 : Tryd.prog.elem tksT = tkT := by kernel_rfl
    rw [run_sliceAt_slice (P := Tryd.prog) W tksT _ _ _ _ (by rw [e2]; exact Tryd.underlying50), run_slice_h (P := Tryd.prog) W tksT a n cap (by rw [e2]; exact Tryd.underlying50) .i64 k (by omega) (by omega), e2, e1]
    simp [Result.andThen, sliced]
  refine ⟨_, _, _, rfl, hrun, ?_⟩
  intro W hW
  rcases hW with ⟨a0, c0, he, rfl⟩ | ⟨b, off, c0, he, h1, h2, h3, h4⟩
  · obtain ⟨rfl, rfl, rfl⟩ := Value.slice.inj he
    obtain rfl : k = 0 := by omega
    exact .inl ⟨_, _, rfl, by simp⟩
  · obtain ⟨rfl, rfl, rfl⟩ := Value.slice.inj he
    have hW : ReadsT W (.slice (some ⟨b, off, none⟩) T.length cap) T := .inr ⟨b, off, cap, rfl, h1, h2, h3, h4⟩
    have h5 := front hW k hk
    by_cases hc : cap = 0
    · rw [if_pos hc]; exact h5
    · rw [if_neg hc]
      simpa [addr_add] using h5

/-! How many words come first; does a sign come next. -/
theorem word_here {T : List Tk} {k : Nat} {t : Tk} (hk : T[k]? = some t) (hall : ∀ x ∈ T.take k, decide (x.kind = 3) = false) (h : decide (t.kind = 3) = true) : wordsN T = k := by
  have he := (List.getElem?_eq_some_iff.1 hk).2
  have e : T = T.take k ++ t :: T.drop (k + 1) := by
    rw [← he]
    simp
  have hlt := (List.getElem?_eq_some_iff.1 hk).1
  have h2 : (T.take k).findIdx (fun t => decide (t.kind = 3)) = (T.take k).length := List.findIdx_eq_length.2 hall
  unfold wordsN
  rw [e, List.findIdx_append, h2, if_neg (by omega), List.findIdx_cons, h]
  simp
  omega
theorem seg_here {T : List Tk} {k : Nat} {t : Tk} (hk : T[k]? = some t) (hall : ∀ x ∈ T.take k, endT x = false) (h : endT t = true) : segN T = k := by
  have he := (List.getElem?_eq_some_iff.1 hk).2
  have e : T = T.take k ++ t :: T.drop (k + 1) := by
    rw [← he]
    simp
  have hlt := (List.getElem?_eq_some_iff.1 hk).1
  have h2 : (T.take k).findIdx endT = (T.take k).length := List.findIdx_eq_length.2 hall
  unfold segN
  rw [e, List.findIdx_append, h2, if_neg (by omega), List.findIdx_cons, h]
  simp
  omega
theorem all_take {p : Tk → Bool} {T : List Tk} {k : Nat} {t : Tk} (hk : T[k]? = some t) (hall : ∀ x ∈ T.take k, p x = false) (h : p t = false) : ∀ x ∈ T.take (k + 1), p x = false := by
  intro x hx
  rw [List.take_add_one, hk] at hx
  rcases List.mem_append.1 hx with hx | hx
  · exact hall x hx
  · have : x = t := by simpa using hx
    rw [this]; exact h
set_option maxRecDepth 100000 in
set_option maxHeartbeats 2000000 in
theorem countWords_any (v : Value) (T : List Tk) (w : World) (hv : ReadsT w v T) (hl : T.length ≤ 1000000) :
    Calls Tryd.prog 64 #[v] w fun e w' => e = .returned (.int .i64 (wordsN T)) ∧ w = w' := by
  obtain ⟨va, vc, rfl⟩ := hv.shape
  obtain ⟨n, hn⟩ : ∃ n, n = T.length := ⟨_, rfl⟩
  rw [← hn] at hv hl ⊢
  have HV := Lib.hid (fun k a ha => hv.at_ k a ha)
  have HNN := Lib.hid hn
  clear hv hn
  go_enter Tryd.func64, Tryd.ntmps64
  go_wp2_with fail
  go_loopw [3] (fun i wr => ∃ k : Nat, k ≤ n ∧ i = .int .i64 k ∧ Hid (∀ x ∈ T.take k, decide (x.kind = 3) = false) ∧ w = wr) (fun i _ => n - (intOf i).toNat)
  case atStart => exact ⟨0, Nat.zero_le _, rfl, Lib.hid (by simp), rfl⟩
  case round =>
    obtain ⟨k, hk, rfl, hall, rfl⟩ := hrel
    by_cases hlt : k < n
    · obtain ⟨t, ht⟩ : ∃ a, T[k]? = some a := ⟨T[k]'(by have := HNN.out; omega), List.getElem?_eq_getElem _⟩
      obtain ⟨b1, o1, rfl, hb1, r1⟩ := HV.out k t ht
      obtain ⟨c0, c1⟩ := two r1
      cases hb : decide (t.kind = 3)
      · have hq : (t.kind != 3) = true := by rw [bne_iff_ne]; simpa using hb
        have HN := Lib.hid (all_take ht hall.out hb)
        clear ht r1 hb
        go_wp2_with fail
        go_roundw
        case rel => exact ⟨k + 1, by omega, by simp, HN, trivial⟩
        case measure => simp [intOf]; omega
      · have hq : (t.kind != 3) = false := by
          have : t.kind = 3 := by simpa using hb
          rw [this]; rfl
        have HE := Lib.hid (word_here ht hall.out hb)
        clear ht r1 hb
        go_wp2_with fail
        go_ret
        rw [HE.out]
        exact ⟨rfl, rfl⟩
    · have HE : Hid (wordsN T = k) := Lib.hid (by
        have h := hall.out
        have hkn := HNN.out
        rw [List.take_of_length_le (by omega)] at h
        have h2 : T.findIdx (fun t => decide (t.kind = 3)) = T.length := List.findIdx_eq_length.2 h
        unfold wordsN
        rw [h2]
        omega)
      go_wp2_with fail
      go_ret
      rw [HE.out]
      exact ⟨rfl, rfl⟩
theorem sgn_eq (t : Tk) (c : UInt8) : (decide (t.kind = ((⟨3, ⟨#[c]⟩⟩ : Tk)).kind) && decide (t.text = (⟨3, ⟨#[c]⟩⟩ : Tk).text)) = (decide (t.kind = 3) && (bl t.text == [c])) := by
  congr 1
  rw [Bool.eq_iff_iff, decide_eq_true_eq, beq_iff_eq]
  constructor
  · intro h; rw [h]
  · intro h
    have := congrArg ba h
    rw [ba_bl] at this
    exact this
set_option maxRecDepth 100000 in
set_option maxHeartbeats 2000000 in
theorem begins_any (v : Value) (T : List Tk) (c : UInt8) (w : World) (hv : ReadsT w v T) (hl : T.length ≤ 1000000) :
    Calls Tryd.prog 65 #[v, .string ⟨#[c]⟩] w fun e w' => e = .returned (.bool (begB c T)) ∧ w = w' := by
  obtain ⟨va, vc, rfl⟩ := hv.shape
  cases T with
  | nil =>
    clear hv
    simp only [List.length_nil]
    go_enter Tryd.func65, Tryd.ntmps65
    go_wp2_with fail
    go_ret
    exact ⟨rfl, rfl⟩
  | cons t T =>
    obtain ⟨b1, o1, rfl, hb1, r1⟩ := hv.at_ 0 t rfl
    rw [Nat.zero_mul, Nat.add_zero] at r1
    obtain ⟨c0, c1⟩ := two r1
    have hq : ∀ W, (binOp .eql tkT (tkV t) (tkV ⟨3, ⟨#[c]⟩⟩)).run Tryd.prog W = .ok (.bool (begB c (t :: T))) W := fun W => by rw [eql_tok, sgn_eq]; rfl
    generalize begB c (t :: T) = q at *
    obtain ⟨n, hn⟩ : ∃ n, n = (t :: T).length := ⟨_, rfl⟩
    have hn0 : 0 < n := by rw [hn]; simp
    rw [← hn] at hl ⊢
    clear hv r1 hn
    go_enter Tryd.func65, Tryd.ntmps65
    go_wp2_with fail
    go_ret
    exact ⟨rfl, rfl⟩

/-! Is a token a sign? -/
theorem end_ok {t : Tk} (h : Ok t) (hk : t.kind = 3) : ∃ c, t.text = ⟨#[c]⟩ ∧ endT t = endN c.toNat := by
  rcases h with h | h | ⟨_, c, hc, hs⟩
  · omega
  · omega
  · refine ⟨c, ?_, ?_⟩
    · have := congrArg ba hc
      rw [ba_bl] at this
      exact this
    · unfold endT
      rw [hc, hk]
      have := all256 (p := fun n => !spN n || ((!(n == 64) && !(n == 46)) == endN n)) (by decide +kernel) c.toNat c.toNat_lt
      have hs' : spN c.toNat = true := hs
      rw [hs'] at this
      have h2 := beq_iff_eq.1 this
      rw [← h2]
      have e1 : ∀ d : UInt8, (([c] : List UInt8) == [d]) = (c.toNat == d.toNat) := by
        intro d
        rw [Bool.eq_iff_iff, beq_iff_eq, beq_iff_eq, UInt8.toNat_inj]
        simp
      rw [e1, e1]
      rfl
set_option maxRecDepth 100000 in
set_option maxHeartbeats 2000000 in
theorem isEnder_any (t : Tk) (w : World) (ho : Ok t) :
    Calls Tryd.prog 90 #[tkV t] w fun e w' => e = .returned (.bool (endT t)) ∧ Below w.heap.size w w' := by
  have HA : Hid (Below w.heap.size w (w.alloc (boxT tkT t))) := Lib.hid ((Below.refl _ _).alloc (Nat.le_refl _) _)
  by_cases hk : t.kind = 3
  · obtain ⟨c, hc, he⟩ := end_ok ho hk
    have hq : (t.kind == 3) = true := by rw [hk]; rfl
    have HC := Lib.hid (fun W => containsE_any c W)
    rw [he]
    generalize endN c.toNat = q at *
    obtain ⟨kd, tx⟩ := t
    obtain rfl : tx = ⟨#[c]⟩ := hc
    clear he ho hk
    go_enter Tryd.func90, Tryd.ntmps90
    go_wp2_with fail
    refine (HC.out _).mono ?_
    rintro e w1 ⟨rfl, rfl⟩
    go_wp2_with fail
    go_ret
    exact ⟨rfl, HA.out⟩
  · have hq : (t.kind == 3) = false := by rw [beq_eq_false_iff_ne]; exact hk
    have HE : Hid (endT t = false) := Lib.hid (by unfold endT; rw [decide_eq_false hk]; rfl)
    rw [HE.out]
    clear ho hk
    go_enter Tryd.func90, Tryd.ntmps90
    go_wp2_with fail
    go_ret
    exact ⟨rfl, HA.out⟩

/-! The name of a phrase. -/
def TxAt (w wr : World) (v : Value) (ws : List ByteArray) : Prop := wr.ownsRow w.heap.size strT 1 v ws.length (ws.map Value.string) ∧ Below w.heap.size w wr
theorem TxAt.start (w : World) : TxAt w w (.slice none 0 0) [] := ⟨World.ownsRow_nil _ _ _ _, Below.refl _ _⟩
theorem TxAt.on {w wr w' : World} {v : Value} {ws : List ByteArray} (h : TxAt w wr v ws) (hb : Below wr.heap.size wr w') : TxAt w w' v ws := ⟨owns_below h.1 hb, h.2.trans (hb.mono h.2.size)⟩
theorem TxAt.add {w W : World} {n c : Nat} {a : Option Addr} {ws : List ByteArray} (h : TxAt w W (.slice a n c) ws) (hn : ws.length = n) (x : ByteArray) (hl : n ≤ 2000000) :
    ∃ a' c' w', (Builtin.append_ #[69, 69] 69 #[.slice a n c, .slice (some ⟨W.heap.size, 0, none⟩) 1 1]).run Tryd.prog (W.alloc (.cells #[.string x] strT)) = .ok (.slice a' (n + 1) c') w' ∧ Hid (TxAt w w' (.slice a' (n + 1) c') (ws ++ [x])) := by
  have ho := h.1
  obtain ⟨a', c', w', hr, hh⟩ := append_str W w.heap.size (.slice a n c) ws x ho (by omega) h.2.size
  rw [hn] at hr hh
  refine ⟨a', c', w', hr, Lib.hid ⟨?_, h.2.trans hh.out.2⟩⟩
  rw [List.length_append, hn]
  exact hh.out.1
theorem sum_cost (T : List Tk) : sumS (T.map (·.text)) ≤ cost T := by
  induction T with
  | nil => simp [sumS]
  | cons t T ih =>
    unfold sumS at *
    simp only [List.map_cons, List.sum_cons, cost] at *
    omega
set_option maxRecDepth 100000 in
set_option maxHeartbeats 2000000 in
theorem joinW_any (v : Value) (T : List Tk) (w : World) (hv : ReadsT w v T) (hc : cost T ≤ 1000000) :
    Calls Tryd.prog 80 #[v] w fun e w' => e = .returned (.string (ba (nameL T))) ∧ Below w.heap.size w w' := by
  have hl : T.length ≤ 1000000 := Nat.le_trans (len_cost T) hc
  obtain ⟨va, vc, rfl⟩ := hv.shape
  obtain ⟨n, hn⟩ : ∃ n, n = T.length := ⟨_, rfl⟩
  have HJ : Hid (∀ v' W, ReadsS W v' (T.map (·.text)) → Calls Tryd.prog 29 #[v', .string spS] W fun e w' => e = .returned (.string (ba (nameL T))) ∧ Below W.heap.size W w') := Lib.hid (fun v' W h => by
    have := join_any v' _ spS W h (by rw [List.length_map]; exact hl) (by decide) (by decide) (Nat.le_trans (sum_cost T) (by omega))
    rw [List.map_map] at this
    exact this)
  rw [← hn] at hv hl ⊢
  have HV := Lib.hid (fun k a ha => hv.at_ k a ha)
  have HNN := Lib.hid hn
  clear hv hn
  have HS := Lib.hid (TxAt.start w)
  go_enter Tryd.func80, Tryd.ntmps80
  go_wp2_with fail
  go_loopw [3, 8] (fun u i wr => ∃ k : Nat, k ≤ n ∧ i = .int .i64 k ∧ Hid (TxAt w wr u ((T.take k).map (·.text)))) (fun _ i _ => n - (intOf i).toNat)
  case atStart => exact ⟨0, Nat.zero_le _, rfl, HS⟩
  case round =>
    clear HS
    obtain ⟨k, hk, rfl, hB⟩ := hrel
    obtain ⟨ua, uc, rfl⟩ := owns_slice hB.out.1
    have hlk : ((T.take k).map (·.text)).length = k := by rw [List.length_map, List.length_take]; have := HNN.out; omega
    rw [hlk] at hB ⊢
    by_cases hlt : k < n
    · obtain ⟨t, ht⟩ : ∃ a, T[k]? = some a := ⟨T[k]'(by have := HNN.out; omega), List.getElem?_eq_getElem _⟩
      obtain ⟨b1, o1, rfl, hb1, r1⟩ := HV.out k t ht
      obtain ⟨c0, c1⟩ := two (range_below r1 hb1 hB.out.2)
      have hne : (T.take (k + 1)).map (·.text) = (T.take k).map (·.text) ++ [t.text] := by
        rw [List.take_add_one, ht]
        simp
      obtain ⟨a', c', w4, hr, hh⟩ := (hB.out.on ((Below.refl wr.heap.size wr).alloc (Nat.le_refl _) (boxT tkT t))).add hlk t.text (by omega)
      rw [show (wr.alloc (boxT tkT t)).heap.size = wr.heap.size + 1 by simp] at hr
      have HR := Lib.hid hr
      have HN : Hid (TxAt w w4 (.slice a' (k + 1) c') ((T.take (k + 1)).map (·.text))) := Lib.hid (by rw [hne]; exact hh.out)
      clear hr hh r1 ht hne hlk
      go_wp2_with (at_builtin; refine Lib.wpList_append_run _ rfl _ _ _ _ rfl _ _ rfl rfl _ _ HR.out ?_)
      go_roundw
      case rel => exact ⟨k + 1, by omega, by simp, HN⟩
      case measure => simp [intOf]; omega
    · have HE : Hid (ReadsS wr (.slice ua k uc) (T.map (·.text)) ∧ Below w.heap.size w wr) := Lib.hid (by
        have e : T.take k = T := List.take_of_length_le (by have := HNN.out; omega)
        have h := hB.out
        rw [e] at h
        exact ⟨owns_readsS h.1, h.2⟩)
      have HJ2 := Lib.hid (HJ.out _ _ HE.out.1)
      clear hlk
      go_wp2_with fail
      refine HJ2.out.mono ?_
      rintro e w2 ⟨rfl, hb⟩
      have HB2 := Lib.hid (HE.out.2.trans (hb.mono HE.out.2.size))
      clear hb
      go_wp2_with fail
      go_ret
      exact ⟨rfl, HB2.out⟩
end Go.Proofs.YtklmhjoiffaniaaDoor.Mbx
