/-
  Walks: strings.Split at line ends, hasLong, Right.
-/
import Derived.Test.YtpklmlhioklpoaaDoorHeadShow
namespace Go.Proofs.YtpklmlhioklpoaaDoor.Head
open Go Go.RowKit
open Go.Proofs.YtpklmlhioklpoaaDoor.Sha (Kept wp_region_kept wp_region_kept_tail quiet_load_row)

theorem spl_split : ∀ (n : Nat) (s : ByteArray), s.size ≤ n → Lib.splitB endS 0 (Lib.countB s endS) s = (spl (bl s)).map ba
  | n, s, hn => by
    have hix : Lib.indexB s endS = match cut2 (bl s) with | none => -1 | some (t, _) => (t.length : Int) := index_crlf (bl s)
    cases hc : cut2 (bl s) with
    | none =>
      rw [hc] at hix
      rw [Lib.countB_miss s endS hix, spl_none hc]
      show [s] = _
      rw [List.map_cons, List.map_nil, ba_bl]
    | some p =>
      obtain ⟨t, r⟩ := p
      rw [hc] at hix
      have hl := cut2_len hc
      have he := cut2_some hc
      rw [bl_len] at hl
      have hcn := Lib.countB_hit s endS t.length (by decide) hix
      have e2 : bl (s.extract (t.length + endS.size) s.size) = r := by
        rw [bl_from, he]
        show (t ++ 13 :: 10 :: r).drop (t.length + 2) = r
        rw [List.drop_append, List.drop_eq_nil_of_le (by omega)]
        simp
      have e1 : s.extract 0 (t.length + 0) = ba t := by
        apply bl_inj
        rw [bl_extract, he, bl_ba]
        simp
      rw [hcn, Nat.add_comm 1, Lib.splitB_hit endS 0 _ s t.length hix, spl_some hc, e1, List.map_cons]
      have hrs : (s.extract (t.length + endS.size) s.size).size ≤ n - 1 := by
        rw [← bl_len, e2]; omega
      match n, hrs with
      | 0, _ => omega
      | n + 1, hrs => rw [spl_split n _ (by omega), e2]
theorem spl_count : ∀ (n : Nat) (s : List UInt8), s.length ≤ n → (spl s).length ≤ s.length + 1
  | n, s, hn => by
    cases hc : cut2 s with
    | none => rw [spl_none hc]; simp
    | some p =>
      obtain ⟨t, r⟩ := p
      have hl := cut2_len hc
      rw [spl_some hc, List.length_cons]
      match n, hn with
      | 0, _ => omega
      | n + 1, _ =>
        have := spl_count n r (by omega)
        omega
set_option maxRecDepth 100000 in
set_option maxHeartbeats 1000000 in
theorem lineLong_any (s : ByteArray) (w : World) :
    Calls Tryd.prog 59 #[.string s] w fun e w' => e = .returned (.bool (decide (998 < s.size))) ∧ w = w' := by
  by_cases h : 998 < s.size
  · have d : (998 : Int) < (s.size : Int) := by omega
    rw [decide_eq_true h]
    go_enter Tryd.func59, Tryd.ntmps59
    go_wp2_with fail
    go_ret
    exact ⟨rfl, rfl⟩
  · have d : ¬ (998 : Int) < (s.size : Int) := by omega
    rw [decide_eq_false h]
    go_enter Tryd.func59, Tryd.ntmps59
    go_wp2_with fail
    go_ret
    exact ⟨rfl, rfl⟩
def lgB (x : ByteArray) : Bool := decide (998 < x.size)
theorem any_take {p : ByteArray → Bool} {T : List ByteArray} {k : Nat} {t : ByteArray} (hk : T[k]? = some t) (hall : (T.take k).any p = false) (h : p t = false) : (T.take (k + 1)).any p = false := by
  rw [List.take_add_one, hk, List.any_append, hall]
  simp [h]
set_option maxRecDepth 100000 in
set_option maxHeartbeats 1000000 in
theorem indexS_any (v : Value) (T : List ByteArray) (w : World) (hv : ReadsS w v T) (hl : T.length ≤ 100000001) :
    Calls Tryd.prog 70 #[v, .func (.func 59) #[] #[]] w fun e w' => ∃ x : Int, e = .returned (.int .i64 x) ∧ decide (0 ≤ x) = T.any lgB ∧ w = w' := by
  obtain ⟨n, hn⟩ : ∃ n, n = T.length := ⟨_, rfl⟩
  obtain ⟨va, vc, rfl⟩ : ∃ a c, v = .slice a n c := by
    rcases hv with ⟨a, c, rfl, rfl⟩ | ⟨b, c, rfl, _⟩
    · exact ⟨a, c, by rw [hn]; rfl⟩
    · exact ⟨_, c, by rw [hn]⟩
  have HV : Hid (∀ i x, T[i]? = some x → ∃ b, va = some ⟨b, 0, none⟩ ∧ w.cell? ⟨b, i, none⟩ = some (.string x)) := Lib.hid (by
    intro i x hi
    rcases hv with ⟨a, c, _, h⟩ | ⟨b, c, h, _, _, _, h2⟩
    · rw [h] at hi; simp at hi
    · obtain ⟨rfl, _, _⟩ := Value.slice.inj h
      exact ⟨b, rfl, h2 i x hi⟩)
  have HNN := Lib.hid hn
  have hnb : n ≤ 100000001 := by omega
  clear hv hn hl
  go_enter Tryd.func70, Tryd.ntmps70
  go_wp2_with fail
  go_loopw [8] (fun i wr => ∃ k : Nat, k ≤ n ∧ i = .int .i64 k ∧ Hid ((T.take k).any lgB = false) ∧ w = wr) (fun i _ => n - (intOf i).toNat)
  case atStart => exact ⟨0, Nat.zero_le _, rfl, Lib.hid (by simp), rfl⟩
  case round =>
    obtain ⟨k, hk, rfl, hall, rfl⟩ := hrel
    by_cases hlt : k < n
    · obtain ⟨x, hx⟩ : ∃ a, T[k]? = some a := ⟨T[k]'(by have := HNN.out; omega), List.getElem?_eq_getElem _⟩
      obtain ⟨b, rfl, hcell⟩ := HV.out k x hx
      have HL := Lib.hid (fun W => lineLong_any x W)
      cases hb : lgB x
      · have HN := Lib.hid (any_take hx hall.out hb)
        rw [show decide (998 < x.size) = false from hb] at HL
        clear hx hb
        go_wp2_with fail
        refine (HL.out _).mono ?_
        rintro e w1 ⟨rfl, rfl⟩
        go_wp2_with fail
        go_roundw
        case rel => exact ⟨k + 1, by omega, by simp, HN, trivial⟩
        case measure => simp [intOf]; omega
      · have HE : Hid (T.any lgB = true) := Lib.hid (List.any_eq_true.2 ⟨x, List.mem_of_getElem? hx, hb⟩)
        rw [show decide (998 < x.size) = true from hb] at HL
        clear hx hb
        go_wp2_with fail
        refine (HL.out _).mono ?_
        rintro e w1 ⟨rfl, rfl⟩
        go_wp2_with fail
        go_ret
        exact ⟨_, rfl, by rw [HE.out]; exact decide_eq_true (by omega), rfl⟩
    · have HE : Hid (T.any lgB = false) := Lib.hid (by
        have h := hall.out
        rw [List.take_of_length_le (by have := HNN.out; omega)] at h
        exact h)
      go_wp2_with fail
      go_ret
      exact ⟨_, rfl, by rw [HE.out]; rfl, rfl⟩
set_option maxRecDepth 100000 in
set_option maxHeartbeats 1000000 in
theorem containsS_any (v : Value) (T : List ByteArray) (w : World) (hv : ReadsS w v T) (hl : T.length ≤ 100000001) :
    Calls Tryd.prog 57 #[v, .func (.func 59) #[] #[]] w fun e w' => e = .returned (.bool (T.any lgB)) ∧ w = w' := by
  have HX := Lib.hid (indexS_any v T w hv hl)
  clear hv
  go_enter Tryd.func57, Tryd.ntmps57
  go_wp2_with fail
  refine HX.out.mono ?_
  rintro e w1 ⟨x, rfl, hx, rfl⟩
  have HE := Lib.hid hx
  clear hx
  go_wp2_with fail
  go_ret
  exact ⟨ret_bool HE.out, rfl⟩
theorem long_any (l : List UInt8) : ((spl l).map ba).any lgB = longB l := by
  unfold longB
  rw [List.any_map, show (lgB ∘ ba) = fun t : List UInt8 => decide (998 < t.length) from funext fun x => by
    show decide (998 < (ba x).size) = _
    rw [ba_size]]
set_option maxRecDepth 100000 in
set_option maxHeartbeats 1000000 in
theorem hasLong_any (s : ByteArray) (w : World) (hs : s.size ≤ 100000000) (hm : MaxAt w) :
    Calls Tryd.prog 45 #[.string s] w fun e w' => e = .returned (.bool (longB (bl s))) ∧ Below w.heap.size w w' := by
  obtain ⟨m, hm⟩ := hm
  have HS := Lib.hid (Tryd.strings_Split s endS m w (by omega) hm (by decide))
  rw [spl_split s.size s (Nat.le_refl _)] at HS
  have hlen := Lib.splitB_all endS (by decide) 0 _ s rfl
  rw [spl_split s.size s (Nat.le_refl _), List.length_map] at hlen
  rw [← hlen] at HS
  have hcnt := spl_count s.size (bl s) (by rw [bl_len]; exact Nat.le_refl _)
  rw [bl_len] at hcnt
  have HC : Hid (Calls Tryd.prog 57 #[.slice (some ⟨w.heap.size, 0, none⟩) (spl (bl s)).length (spl (bl s)).length, .func (.func 59) #[] #[]] (w.alloc (.cells ((((spl (bl s)).map ba)).map Value.string).toArray strT)) fun e w' => e = .returned (.bool (longB (bl s))) ∧ w.alloc (.cells ((((spl (bl s)).map ba)).map Value.string).toArray strT) = w') := Lib.hid (by
    rw [← long_any]
    refine containsS_any _ _ _ ?_ (by rw [List.length_map]; omega)
    refine .inr ⟨w.heap.size, (spl (bl s)).length, by rw [List.length_map], by rw [List.length_map]; exact Nat.le_refl _, by omega, by simp, fun i x hi => ?_⟩
    rw [cell_of_row _ _ _ _ _ _ (heap_alloc_new w _)]
    rw [List.getElem?_toArray, List.getElem?_map, hi]
    rfl)
  have HB : Hid (Below w.heap.size w (w.alloc (.cells ((((spl (bl s)).map ba)).map Value.string).toArray strT))) := Lib.hid ((Below.refl _ _).alloc (Nat.le_refl _) _)
  obtain ⟨cs, hcs⟩ : ∃ cs, cs = ((((spl (bl s)).map ba)).map Value.string).toArray := ⟨_, rfl⟩
  rw [← hcs] at HS HC HB
  clear hlen hcnt hm hcs
  generalize spl (bl s) = sp at *
  generalize longB (bl s) = q at *
  go_enter Tryd.func45, Tryd.ntmps45
  go_wp2_with fail
  refine HS.out.mono ?_
  rintro e w1 ⟨rfl, rfl⟩
  go_wp2_with fail
  refine HC.out.mono ?_
  rintro e w2 ⟨rfl, rfl⟩
  go_wp2_with fail
  go_ret
  exact ⟨rfl, HB.out⟩
theorem quiet_load_str {P : Program} {C : World → Prop} {o : Oper} {a : Act} {K : Act → Prop} (ty : TypeId) (x : Operand) (ho : o.op = .load ty x) (p : Addr) (hx : a.eval x = .pointer (some p)) (v : Value)
    (hc : ∀ w, C w → w.cell? p = some v) (hu : P.underlying ty = some .string) (h : K (a.put o.dst v)) : o.quiet P a C K :=
  ⟨_, fun w hw => by
    have h1 := hc w hw
    unfold Oper.quietAt execOp
    simp [ho, hx, Instr.loadAt, Instr.sureAddr, loadVar, isAgg, run_underlying hu, h1]
    exact ⟨rfl, rfl⟩, h⟩
theorem str_eq (a b : ByteArray) : (a.toList == b.toList) = decide (a = b) := by
  rw [Bool.eq_iff_iff, beq_iff_eq, decide_eq_true_eq, Lib.toList_data, Lib.toList_data]
  constructor
  · intro h
    exact ByteArray.ext (Array.toList_inj.1 h)
  · rintro rfl; rfl
set_option maxRecDepth 100000 in
set_option maxHeartbeats 2000000 in
theorem right_any (f : Fd) (w : World) (hn : f.n.size ≤ 1000000) (hv : f.v.size ≤ 1000000) (hm : MaxAt w) :
    Calls Tryd.prog 24 #[fdV f] w fun e w' => e = .returned (.bool (rightB (bl f.n) (bl f.v))) ∧ Below w.heap.size w w' := by
  have HA : Hid (Below w.heap.size w (w.alloc (boxF fdT f))) := Lib.hid ((Below.refl _ _).alloc (Nat.le_refl _) _)
  have HR := Lib.hid (new_boxF w fdT f)
  have HL : Hid (w.heap.size < (w.alloc (boxF fdT f)).heap.size) := Lib.hid (by simp)
  have HM := Lib.hid (hm.below HA.out)
  have HN := Lib.hid (fun W => (name_any f.n W (by omega)).mono fun e w' h => (⟨h.1, h.2 ▸ Below.refl _ _⟩ : e = .returned (.bool (nameB (bl f.n))) ∧ Below W.heap.size W w'))
  have HT := Lib.hid (fun W => (text_any f.v W (by omega)).mono fun e w' h => (⟨h.1, h.2 ▸ Below.refl _ _⟩ : e = .returned (.bool (textB (bl f.v))) ∧ Below W.heap.size W w'))
  have HTR := Lib.hid (fun W => trim_any f.v W (by omega))
  have HS := Lib.hid (fun W => show_any f W hn hv)
  have hsl := showL_len (bl f.n) (bl f.v)
  rw [bl_len, bl_len] at hsl
  have HH := Lib.hid (fun W (h : MaxAt W) => hasLong_any (ba (showL (bl f.n) (bl f.v))) W (by rw [ba_size]; omega) h)
  rw [bl_ba] at HH
  have hteq : ((ba (trimL (bl f.v))).toList == f.v.toList) = decide (trimL (bl f.v) = bl f.v) := by
    rw [str_eq]
    rw [decide_eq_decide]
    constructor
    · intro h; rw [← bl_ba (trimL (bl f.v)), h]
    · intro h; rw [h, ba_bl]
  have HRB : Hid (rightB (bl f.n) (bl f.v) = (nameB (bl f.n) && (textB (bl f.v) && (decide (trimL (bl f.v) = bl f.v) && !longB (showL (bl f.n) (bl f.v)))))) := Lib.hid rfl
  clear hsl hm
  generalize rightB (bl f.n) (bl f.v) = rb at *
  generalize nameB (bl f.n) = nb at *
  generalize textB (bl f.v) = tb at *
  generalize decide (trimL (bl f.v) = bl f.v) = eb at *
  generalize ba (trimL (bl f.v)) = tr at *
  generalize longB (showL (bl f.n) (bl f.v)) = lb at *
  generalize ba (showL (bl f.n) (bl f.v)) = sh at *
  cases nb
  · go_enter Tryd.func24, Tryd.ntmps24
    go_wp2_with fail
    refine wp_region_kept (by kernel_rfl) (by kernel_rfl) ?_
    repeat (first
      | (go_big_quiet_want
         first
           | refine quiet_load_str 9 (.tmp 3) rfl ⟨w.heap.size, 0, none⟩ rfl (.string f.n) (fun w' hk => (two (range_below HR.out HL.out hk)).1) Tryd.underlying9 ?_
           | refine quiet_load_str 9 (.tmp 7) rfl ⟨w.heap.size, 0 + 1, none⟩ rfl (.string f.v) (fun w' hk => (two (range_below HR.out HL.out hk)).2) Tryd.underlying9 ?_
           | refine quiet_load_str 9 (.tmp 12) rfl ⟨w.heap.size, 0 + 1, none⟩ rfl (.string f.v) (fun w' hk => (two (range_below HR.out HL.out hk)).2) Tryd.underlying9 ?_
           | refine quiet_load_str 9 (.tmp 15) rfl ⟨w.heap.size, 0 + 1, none⟩ rfl (.string f.v) (fun w' hk => (two (range_below HR.out HL.out hk)).2) Tryd.underlying9 ?_
           | refine quiet_load_row fdT (.tmp 1) rfl w.heap.size 0 rfl (fdC f) _ (fun w' hk => range_below HR.out HL.out hk) Tryd.underlying42 rfl sizeFd ?_
         go_simp
         go_big_quiet_on)
      | (go_big_quiet_step ((first | (exact fun _ => rfl) | (intro hk; go_at_call 42; exact hk.call (HN.out _)) | (intro hk; go_at_call 43; exact hk.call (HT.out _)) | (intro hk; go_at_call 44; exact hk.call (HTR.out _)) | (intro hk; go_at_call 26; exact hk.call (HS.out _)) | (intro hk; go_at_call 45; exact hk.call (HH.out _ (HM.out.below hk.below)))))))
    refine wpQuiet_nil ?_
    intro W2 hk2
    have HK2 := Lib.hid (HA.out.trans (hk2.below.mono HA.out.size))
    clear hk2
    go_wp2_with fail
    go_ret
    exact ⟨ret_bool (by rw [HRB.out]; rfl), HK2.out⟩
  · cases tb
    · go_enter Tryd.func24, Tryd.ntmps24
      go_wp2_with fail
      refine wp_region_kept (by kernel_rfl) (by kernel_rfl) ?_
      repeat (first
        | (go_big_quiet_want
           first
             | refine quiet_load_str 9 (.tmp 3) rfl ⟨w.heap.size, 0, none⟩ rfl (.string f.n) (fun w' hk => (two (range_below HR.out HL.out hk)).1) Tryd.underlying9 ?_
             | refine quiet_load_str 9 (.tmp 7) rfl ⟨w.heap.size, 0 + 1, none⟩ rfl (.string f.v) (fun w' hk => (two (range_below HR.out HL.out hk)).2) Tryd.underlying9 ?_
             | refine quiet_load_str 9 (.tmp 12) rfl ⟨w.heap.size, 0 + 1, none⟩ rfl (.string f.v) (fun w' hk => (two (range_below HR.out HL.out hk)).2) Tryd.underlying9 ?_
             | refine quiet_load_str 9 (.tmp 15) rfl ⟨w.heap.size, 0 + 1, none⟩ rfl (.string f.v) (fun w' hk => (two (range_below HR.out HL.out hk)).2) Tryd.underlying9 ?_
             | refine quiet_load_row fdT (.tmp 1) rfl w.heap.size 0 rfl (fdC f) _ (fun w' hk => range_below HR.out HL.out hk) Tryd.underlying42 rfl sizeFd ?_
           go_simp
           go_big_quiet_on)
        | (go_big_quiet_step ((first | (exact fun _ => rfl) | (intro hk; go_at_call 42; exact hk.call (HN.out _)) | (intro hk; go_at_call 43; exact hk.call (HT.out _)) | (intro hk; go_at_call 44; exact hk.call (HTR.out _)) | (intro hk; go_at_call 26; exact hk.call (HS.out _)) | (intro hk; go_at_call 45; exact hk.call (HH.out _ (HM.out.below hk.below)))))))
      refine wpQuiet_nil ?_
      intro W2 hk2
      have HK2 := Lib.hid (HA.out.trans (hk2.below.mono HA.out.size))
      clear hk2
      go_wp2_with fail
      go_ret
      exact ⟨ret_bool (by rw [HRB.out]; rfl), HK2.out⟩
    · cases eb
      · go_enter Tryd.func24, Tryd.ntmps24
        go_wp2_with fail
        refine wp_region_kept (by kernel_rfl) (by kernel_rfl) ?_
        repeat (first
          | (go_big_quiet_want
             first
               | refine quiet_load_str 9 (.tmp 3) rfl ⟨w.heap.size, 0, none⟩ rfl (.string f.n) (fun w' hk => (two (range_below HR.out HL.out hk)).1) Tryd.underlying9 ?_
               | refine quiet_load_str 9 (.tmp 7) rfl ⟨w.heap.size, 0 + 1, none⟩ rfl (.string f.v) (fun w' hk => (two (range_below HR.out HL.out hk)).2) Tryd.underlying9 ?_
               | refine quiet_load_str 9 (.tmp 12) rfl ⟨w.heap.size, 0 + 1, none⟩ rfl (.string f.v) (fun w' hk => (two (range_below HR.out HL.out hk)).2) Tryd.underlying9 ?_
               | refine quiet_load_str 9 (.tmp 15) rfl ⟨w.heap.size, 0 + 1, none⟩ rfl (.string f.v) (fun w' hk => (two (range_below HR.out HL.out hk)).2) Tryd.underlying9 ?_
               | refine quiet_load_row fdT (.tmp 1) rfl w.heap.size 0 rfl (fdC f) _ (fun w' hk => range_below HR.out HL.out hk) Tryd.underlying42 rfl sizeFd ?_
             go_simp
             go_big_quiet_on)
          | (go_big_quiet_step ((first | (exact fun _ => rfl) | (intro hk; go_at_call 42; exact hk.call (HN.out _)) | (intro hk; go_at_call 43; exact hk.call (HT.out _)) | (intro hk; go_at_call 44; exact hk.call (HTR.out _)) | (intro hk; go_at_call 26; exact hk.call (HS.out _)) | (intro hk; go_at_call 45; exact hk.call (HH.out _ (HM.out.below hk.below)))))))
        refine wpQuiet_nil ?_
        intro W2 hk2
        have HK2 := Lib.hid (HA.out.trans (hk2.below.mono HA.out.size))
        clear hk2
        go_wp2_with fail
        go_ret
        exact ⟨ret_bool (by rw [HRB.out]; rfl), HK2.out⟩
      · cases lb
        · go_enter Tryd.func24, Tryd.ntmps24
          go_wp2_with fail
          refine wp_region_kept (by kernel_rfl) (by kernel_rfl) ?_
          repeat (first
            | (go_big_quiet_want
               first
                 | refine quiet_load_str 9 (.tmp 3) rfl ⟨w.heap.size, 0, none⟩ rfl (.string f.n) (fun w' hk => (two (range_below HR.out HL.out hk)).1) Tryd.underlying9 ?_
                 | refine quiet_load_str 9 (.tmp 7) rfl ⟨w.heap.size, 0 + 1, none⟩ rfl (.string f.v) (fun w' hk => (two (range_below HR.out HL.out hk)).2) Tryd.underlying9 ?_
                 | refine quiet_load_str 9 (.tmp 12) rfl ⟨w.heap.size, 0 + 1, none⟩ rfl (.string f.v) (fun w' hk => (two (range_below HR.out HL.out hk)).2) Tryd.underlying9 ?_
                 | refine quiet_load_str 9 (.tmp 15) rfl ⟨w.heap.size, 0 + 1, none⟩ rfl (.string f.v) (fun w' hk => (two (range_below HR.out HL.out hk)).2) Tryd.underlying9 ?_
                 | refine quiet_load_row fdT (.tmp 1) rfl w.heap.size 0 rfl (fdC f) _ (fun w' hk => range_below HR.out HL.out hk) Tryd.underlying42 rfl sizeFd ?_
               go_simp
               go_big_quiet_on)
            | (go_big_quiet_step ((first | (exact fun _ => rfl) | (intro hk; go_at_call 42; exact hk.call (HN.out _)) | (intro hk; go_at_call 43; exact hk.call (HT.out _)) | (intro hk; go_at_call 44; exact hk.call (HTR.out _)) | (intro hk; go_at_call 26; exact hk.call (HS.out _)) | (intro hk; go_at_call 45; exact hk.call (HH.out _ (HM.out.below hk.below)))))))
          refine wpQuiet_nil ?_
          intro W2 hk2
          have HK2 := Lib.hid (HA.out.trans (hk2.below.mono HA.out.size))
          clear hk2
          go_wp2_with fail
          go_ret
          exact ⟨ret_bool (by rw [HRB.out]; rfl), HK2.out⟩
        · go_enter Tryd.func24, Tryd.ntmps24
          go_wp2_with fail
          refine wp_region_kept (by kernel_rfl) (by kernel_rfl) ?_
          repeat (first
            | (go_big_quiet_want
               first
                 | refine quiet_load_str 9 (.tmp 3) rfl ⟨w.heap.size, 0, none⟩ rfl (.string f.n) (fun w' hk => (two (range_below HR.out HL.out hk)).1) Tryd.underlying9 ?_
                 | refine quiet_load_str 9 (.tmp 7) rfl ⟨w.heap.size, 0 + 1, none⟩ rfl (.string f.v) (fun w' hk => (two (range_below HR.out HL.out hk)).2) Tryd.underlying9 ?_
                 | refine quiet_load_str 9 (.tmp 12) rfl ⟨w.heap.size, 0 + 1, none⟩ rfl (.string f.v) (fun w' hk => (two (range_below HR.out HL.out hk)).2) Tryd.underlying9 ?_
                 | refine quiet_load_str 9 (.tmp 15) rfl ⟨w.heap.size, 0 + 1, none⟩ rfl (.string f.v) (fun w' hk => (two (range_below HR.out HL.out hk)).2) Tryd.underlying9 ?_
                 | refine quiet_load_row fdT (.tmp 1) rfl w.heap.size 0 rfl (fdC f) _ (fun w' hk => range_below HR.out HL.out hk) Tryd.underlying42 rfl sizeFd ?_
               go_simp
               go_big_quiet_on)
            | (go_big_quiet_step ((first | (exact fun _ => rfl) | (intro hk; go_at_call 42; exact hk.call (HN.out _)) | (intro hk; go_at_call 43; exact hk.call (HT.out _)) | (intro hk; go_at_call 44; exact hk.call (HTR.out _)) | (intro hk; go_at_call 26; exact hk.call (HS.out _)) | (intro hk; go_at_call 45; exact hk.call (HH.out _ (HM.out.below hk.below)))))))
          refine wpQuiet_nil ?_
          intro W2 hk2
          have HK2 := Lib.hid (HA.out.trans (hk2.below.mono HA.out.size))
          clear hk2
          go_wp2_with fail
          go_ret
          exact ⟨ret_bool (by rw [HRB.out]; rfl), HK2.out⟩
end Go.Proofs.YtpklmlhioklpoaaDoor.Head
