/-
  The laws walks: MsgReads, MsgBack.
-/
import Derived.Test.YtegbkfloiiilfaaGreatDoorMgLawA

/-
  The laws' walks: MsgReads, MsgBack.
-/
namespace Go.Proofs.YtegbkfloiiilfaaGreatDoor.Msg
open Go Go.RowKit
open Go.Proofs.YtegbkfloiiilfaaGreatDoor.Head
open Go.Proofs.YtegbkfloiiilfaaGreatDoor.Sha (Kept wp_region_kept wp_region_kept_tail quiet_load_row)

/-! How much is read. -/
theorem mem_add {R : List (List UInt8)} {t : List UInt8} {r : List UInt8} (h : r ∈ add R t) : r ∈ R ∨ r = t ∨ ∃ l ∈ R, r = l ++ t := by
  unfold add at h
  split at h
  · rcases List.mem_append.1 h with h | h
    · exact .inl ((List.dropLast_sublist _).subset h)
    · obtain rfl := List.mem_singleton.1 h
      cases hR : R.getLast? with
      | none =>
        have : R = [] := List.getLast?_eq_none_iff.1 hR
        subst this
        exact .inr (.inl rfl)
      | some l =>
        refine .inr (.inr ⟨l, List.mem_of_getLast? hR, ?_⟩)
        rw [List.getLastD_eq_getLast?, hR]
        rfl
  · rcases List.mem_append.1 h with h | h
    · exact .inl h
    · exact .inr (.inl (List.mem_singleton.1 h))
theorem prs_size (z : Nat) : ∀ (n : Nat) (R : List (List UInt8)) (s : List UInt8), R.length ≤ 100 → s.length ≤ z → (∀ r ∈ R, r.length + s.length ≤ z) →
    (prs n R s).2.1.length ≤ 100 ∧ (∀ r ∈ (prs n R s).2.1, r.length ≤ z) ∧ (prs n R s).2.2.length ≤ z
  | 0, R, s, h1, _, h3 => ⟨h1, fun r hr => by have := h3 r hr; omega, Nat.zero_le _⟩
  | n + 1, R, s, h1, h2, h3 => by
    rw [prs]
    split
    · exact ⟨h1, fun r hr => by have := h3 r hr; omega, Nat.zero_le _⟩
    · cases hc : cut2 s with
      | none => exact ⟨Nat.zero_le _, fun r hr => (by cases hr), Nat.zero_le _⟩
      | some p =>
        obtain ⟨t, r⟩ := p
        have hl := cut2_len hc
        simp only
        split
        · exact ⟨h1, fun x hx => by have := h3 x hx; omega, by show r.length ≤ z; omega⟩
        · split
          · rename_i hk
            obtain ⟨_, _, k3, k4⟩ := chk_zero hk
            refine prs_size z n _ _ ?_ (by omega) ?_
            · rw [add_len R t fun h => by
                have := k3 h
                intro e
                rw [e] at this
                exact this rfl]
              split
              · exact h1
              · rename_i hh
                have := (k4 (by simpa using hh)).2
                omega
            · intro x hx
              rcases mem_add hx with hy | rfl | ⟨l, hy, rfl⟩
              · have := h3 x hy; omega
              · omega
              · have := h3 l hy
                rw [List.length_append]
                omega
          · exact ⟨Nat.zero_le _, fun r hr => (by cases hr), Nat.zero_le _⟩
theorem trim_le (l : List UInt8) : (trimL l).length ≤ l.length := by
  unfold trimL trimR
  refine Nat.le_trans (List.dropWhile_sublist _).length_le ?_
  rw [List.length_reverse]
  refine Nat.le_trans (List.dropWhile_sublist _).length_le ?_
  rw [List.length_reverse]
  exact Nat.le_refl _
theorem parseM_size (s : List UInt8) : (parseM s).2.1.length ≤ 100 ∧ (∀ f ∈ (parseM s).2.1, f.n.size ≤ s.length ∧ f.v.size ≤ s.length) ∧ (parseM s).2.2.length ≤ s.length := by
  unfold parseM
  split
  · exact ⟨Nat.zero_le _, fun f hf => (by cases hf), Nat.zero_le _⟩
  · obtain ⟨h1, h2, h3⟩ := prs_size s.length s.length [] s (Nat.zero_le _) (Nat.le_refl _) (fun r hr => by cases hr)
    refine ⟨?_, fun f hf => ?_, h3⟩
    · show (parseF s).length ≤ 100
      unfold parseF prsA
      rw [List.length_map]
      exact h1
    · have hf' : f ∈ (prs s.length [] s).2.1.map fld := hf
      obtain ⟨r, hr, rfl⟩ := List.mem_map.1 hf'
      have hz := h2 r hr
      unfold fld
      simp only
      rw [ba_size, ba_size]
      have h4 := pre_le r
      have h5 := post_le r
      have h6 := trim_le (post r)
      omega

/-! MsgReads. -/
set_option maxRecDepth 100000 in
set_option maxHeartbeats 4000000 in
theorem msgReads_any (s : ByteArray) (w : World) (hm : MaxAt w) : Calls Tryz.prog 3 #[.string s] w (TrueP w) := by
  have HW := Lib.hid (fun W (h : MaxAt W) => works_any W h)
  have HM := Lib.hid hm
  clear hm
  by_cases hs : 5000 < s.size
  · have d : (5000 : Int) < (s.size : Int) := by omega
    have HW0 := Lib.hid (HW.out w HM.out)
    go_enter Tryz.func3, Tryz.ntmps3
    go_wp2_with fail
    refine HW0.out.mono ?_
    rintro e w1 ⟨rfl, hb⟩
    have HB := Lib.hid hb
    clear hb
    go_wp2_with fail
    go_ret
    exact ⟨rfl, HB.out⟩
  · have d : ¬ (5000 : Int) < (s.size : Int) := by omega
    obtain ⟨z1, z2, z3⟩ := parseM_size (bl s)
    rw [bl_len] at z2 z3
    have HP := Lib.hid (parse_any s w (by omega) HM.out)
    have HR := Lib.hid (fun W => rmparse_any s W (by omega))
    unfold PmPost at HP
    unfold RmPost at HR
    have hbz : (ba (parseM (bl s)).2.2).size ≤ 5000 := by rw [ba_size]; omega
    have hfz : ∀ f ∈ (parseM (bl s)).2.1, f.n.size ≤ 10000 ∧ f.v.size ≤ 10000 := fun f hf => by have := z2 f hf; omega
    generalize (parseM (bl s)).2.1 = F at *
    generalize (parseM (bl s)).1 = c at *
    generalize ba (parseM (bl s)).2.2 = b at *
    have HS := Lib.hid (fun u v W (h1 : ReadsF W u F) (h2 : ReadsF W v F) => msame_any u v F b W h1 h2 (by omega))
    have HT1 := Lib.hid (fun v W (h : ReadsF W v F) => text_any v F b W h (by omega) hfz (by omega))
    have HT2 := Lib.hid (fun v W (h : ReadsF W v F) => rtext_any v F b W h (by omega) hfz (by omega))
    have htt := str_self (ba (textL F (bl b)))
    generalize ba (textL F (bl b)) = t at *
    obtain ⟨n, hn⟩ : ∃ n, n = F.length := ⟨_, rfl⟩
    have HNN := Lib.hid hn
    clear z1 z2 z3 hfz hn
    go_enter Tryz.func3, Tryz.ntmps3
    go_wp2_with fail
    refine HP.out.mono ?_
    rintro e w1 ⟨v, rfl, hf⟩
    obtain ⟨va, vc, rfl⟩ := owns_slice hf.1
    have hrd := owns_readsF hf.1
    rw [← HNN.out] at hrd ⊢
    have hal : Below w1.heap.size w1 (w1.alloc (boxM msT (.slice va n vc) b)) := (Below.refl _ _).alloc (Nat.le_refl _) _
    have HRD := Lib.hid (hrd.below hal)
    have HB1 := Lib.hid (hf.2.trans (hal.mono hf.2.size))
    have HX1 := Lib.hid (new_boxM w1 msT (.slice va n vc) b)
    have HL1 : Hid (w1.heap.size < (w1.alloc (boxM msT (.slice va n vc) b)).heap.size) := Lib.hid (by simp)
    clear hf hrd hal
    go_wp2_with fail
    refine (HR.out _).mono ?_
    rintro e w2 ⟨v2, rfl, hf2⟩
    obtain ⟨va2, vc2, rfl⟩ := owns_slice hf2.1
    have hrd2 := owns_readsF hf2.1
    rw [← HNN.out] at hrd2 ⊢
    have hal2 : Below w2.heap.size w2 (w2.alloc (boxM rmT (.slice va2 n vc2) b)) := (Below.refl _ _).alloc (Nat.le_refl _) _
    have HB12 := Lib.hid (hf2.2.trans (hal2.mono hf2.2.size))
    have HRD1 := Lib.hid (HRD.out.below HB12.out)
    have HRD2 := Lib.hid (hrd2.below hal2)
    have HB2 := Lib.hid (HB1.out.trans (HB12.out.mono HB1.out.size))
    have HX1' := Lib.hid (range_below HX1.out HL1.out HB12.out)
    have HX2 := Lib.hid (new_boxM w2 rmT (.slice va2 n vc2) b)
    have HL2 : Hid (w1.heap.size < (w2.alloc (boxM rmT (.slice va2 n vc2) b)).heap.size ∧ w2.heap.size < (w2.alloc (boxM rmT (.slice va2 n vc2) b)).heap.size) := Lib.hid ⟨Nat.lt_of_lt_of_le HL1.out HB12.out.size, by simp⟩
    have HW2 := Lib.hid (fun W (h : Kept (w2.alloc (boxM rmT (.slice va2 n vc2) b)) W) => HW.out W (HM.out.below (HB2.out.trans (h.below.mono HB2.out.size))))
    have hcc : ((c : Int) == (c : Int)) = true := by simp
    clear hf2 hrd2 hal2
    go_wp2_with fail
    refine wp_region_kept (by kernel_rfl) (by kernel_rfl) ?_
    repeat (first
      | (go_big_quiet_want
         first
           | refine quiet_load_row msT (.tmp 3) rfl w1.heap.size 0 rfl (msC (.slice va n vc) b) _ (fun w' hk => range_below HX1'.out HL2.out.1 hk) Tryz.underlying25 rfl sizeMs ?_
           | refine quiet_load_row rmT (.tmp 5) rfl w2.heap.size 0 rfl (msC (.slice va2 n vc2) b) _ (fun w' hk => range_below HX2.out HL2.out.2 hk) Tryz.underlying31 rfl sizeRm ?_
         go_simp
         go_big_quiet_on)
      | (go_big_quiet_step ((first | (exact fun _ => rfl) | (intro hk; go_at_call 13; exact hk.call (HS.out _ _ _ (HRD1.out.below hk.below) (HRD2.out.below hk.below))) | (intro hk; go_at_call 14; exact hk.call (HT1.out _ _ (HRD1.out.below hk.below))) | (intro hk; go_at_call 15; exact hk.call (HT2.out _ _ (HRD2.out.below hk.below))) | (intro hk; go_at_call 10; exact hk.call (HW2.out _ hk))))))
    refine wpQuiet_nil ?_
    intro W2 hk2
    have HK2 := Lib.hid (HB2.out.trans (hk2.below.mono HB2.out.size))
    clear hk2
    go_wp2_with fail
    go_ret
    exact ⟨rfl, HK2.out⟩

/-! MsgBack. -/
def rightF (f : Head.Fd) : Bool := rightB (bl f.n) (bl f.v)
theorem textL_light {q : List Head.Fd} {b : ByteArray} (hq : q.length ≤ 30) (hs : ∀ f ∈ q, f.n.size ≤ 200 ∧ f.v.size ≤ 3000) (hb : b.size ≤ 3000) : (textL q (bl b)).length ≤ 2000000 := by
  have := printL_len q fun f hf => by have := hs f hf; omega
  unfold textL
  rw [List.length_append, List.length_cons, List.length_cons, bl_len]
  omega
set_option maxRecDepth 100000 in
set_option maxHeartbeats 4000000 in
theorem msgBack_any (v : Value) (q : List Head.Fd) (b : ByteArray) (w : World) (hv : ReadsF w v q) (hm : MaxAt w) : Calls Tryz.prog 8 #[msV v b] w (TrueP w) := by
  obtain ⟨va, vc, rfl⟩ := hv.shape
  obtain ⟨n, hn⟩ : ∃ n, n = q.length := ⟨_, rfl⟩
  rw [← hn] at hv ⊢
  have HNN := Lib.hid hn
  have HA : Hid (Below w.heap.size w (w.alloc (boxM rmT (.slice va n vc) b))) := Lib.hid ((Below.refl _ _).alloc (Nat.le_refl _) _)
  have HW := Lib.hid (works_any _ (hm.below HA.out))
  have HV := Lib.hid hv
  have HM := Lib.hid hm
  have HCE : Hid (∀ W, Below (w.alloc (boxM rmT (.slice va n vc) b)).heap.size (w.alloc (boxM rmT (.slice va n vc) b)) W → W.cell? ⟨w.heap.size, 0, none⟩ = some (.slice va n vc) ∧ W.cell? ⟨w.heap.size, 0 + 1, none⟩ = some (.string b)) := Lib.hid (fun W hb => twoM (range_below (new_boxM w rmT (.slice va n vc) b) (by simp) hb))
  have HLI := Lib.hid (fun W (h : Below w.heap.size w W) => mlight_any _ q b W (hv.below h))
  clear hv hm hn
  cases hl : lightM q b
  · rw [hl] at HLI
    clear hl
    go_enter Tryz.func8, Tryz.ntmps8
    go_wp2_with fail
    refine HW.out.mono ?_
    rintro e w1 ⟨rfl, hb⟩
    have HB := Lib.hid (HA.out.trans (hb.mono HA.out.size))
    obtain ⟨c0, c1⟩ := HCE.out w1 hb
    have HL1 := Lib.hid (HLI.out w1 HB.out)
    clear hb
    go_wp2_with fail
    refine HL1.out.mono ?_
    rintro e w2 ⟨rfl, hb⟩
    have HB2 := Lib.hid (HB.out.trans (hb.mono HB.out.size))
    clear hb
    go_wp2_with fail
    go_ret
    exact ⟨rfl, HB2.out⟩
  · obtain ⟨⟨hq, hsz⟩, hbz⟩ := lightM_iff hl
    rw [hl] at HLI
    clear hl
    have hsz2 : ∀ f ∈ q, f.n.size ≤ 10000 ∧ f.v.size ≤ 10000 := fun f hf => by have := hsz f hf; omega
    have HTO := Lib.hid (fun W (h : Below w.heap.size w W) => mto_any _ q b W (HV.out.below h) (by omega))
    have HRT := Lib.hid (fun (f : Head.Fd) (hf : f ∈ q) W (h : MaxAt W) => right_any f W (by have := hsz f hf; omega) (by have := hsz f hf; omega) h)
    have HTX := Lib.hid (fun u W (h : ReadsF W u q) => text_any u q b W h (by omega) hsz2 (by omega))
    have htz : (ba (textL q (bl b))).size ≤ 2000000 := by rw [ba_size]; exact textL_light hq hsz hbz
    have HSM := Lib.hid (fun u v W (h1 : ReadsF W u q) (h2 : ReadsF W v q) => msame_any u v q b W h1 h2 (by omega))
    have HPA : Hid (q.all rightF = true → (ba (textL q (bl b))).size ≤ 65536 → ∀ W, MaxAt W → Calls Tryz.prog 11 #[.string (ba (textL q (bl b)))] W fun e w' => ∃ ua uc, e = .returned (.tuple #[msV (.slice ua n uc) b, .int .i64 0]) ∧ ReadsF w' (.slice ua n uc) q ∧ Below W.heap.size W w') := Lib.hid (fun hr hz W hmx => by
      have hp := parse_text (q := q) (b := bl b) (fun f hf => List.all_eq_true.1 hr f hf) (by omega) (by rw [ba_size] at hz; exact hz)
      refine (parse_any (ba (textL q (bl b))) W (by omega) hmx).mono ?_
      rintro e w' ⟨u, he, hf⟩
      rw [bl_ba, hp] at he hf
      simp only [ba_bl] at he hf
      obtain ⟨ua, uc, rfl⟩ := owns_slice hf.1
      have hrd := owns_readsF hf.1
      rw [← HNN.out] at he hrd
      exact ⟨ua, uc, he, hrd, hf.2⟩)
    have hn30 : n ≤ 30 := by rw [HNN.out]; exact hq
    generalize ba (textL q (bl b)) = t at *
    clear hq hsz hsz2 hbz
    go_enter Tryz.func8, Tryz.ntmps8
    go_wp2_with fail
    refine HW.out.mono ?_
    rintro e w1 ⟨rfl, hb⟩
    have HB := Lib.hid (HA.out.trans (hb.mono HA.out.size))
    have HB0 := Lib.hid hb
    obtain ⟨c0, c1⟩ := HCE.out w1 hb
    have HL1 := Lib.hid (HLI.out w1 HB.out)
    clear hb
    go_wp2_with fail
    refine HL1.out.mono ?_
    rintro e w2 ⟨rfl, hb⟩
    have HB2 := Lib.hid (HB.out.trans (hb.mono HB.out.size))
    have HB20 := Lib.hid (HB0.out.trans (hb.mono HB0.out.size))
    clear c0 c1
    obtain ⟨c0, c1⟩ := HCE.out w2 HB20.out
    have HT2 := Lib.hid (HTO.out w2 HB2.out)
    clear hb
    go_wp2_with fail
    refine HT2.out.mono ?_
    rintro e w3 ⟨u, rfl, hf⟩
    obtain ⟨ua, uc, rfl⟩ := owns_slice hf.1
    have hrd := owns_readsF hf.1
    rw [← HNN.out] at hrd ⊢
    have hal : Below w3.heap.size w3 (w3.alloc (boxM msT (.slice ua n uc) b)) := (Below.refl _ _).alloc (Nat.le_refl _) _
    obtain ⟨W0, hW0⟩ : ∃ W0, W0 = w3.alloc (boxM msT (.slice ua n uc) b) := ⟨_, rfl⟩
    have HRD : Hid (ReadsF W0 (.slice ua n uc) q) := Lib.hid (by rw [hW0]; exact hrd.below hal)
    have HAT := Lib.hid (fun k a ha => HRD.out.at_ k a ha)
    have HB3 : Hid (Below w.heap.size w W0) := Lib.hid (by rw [hW0]; exact HB2.out.trans ((hf.2.trans (hal.mono hf.2.size)).mono HB2.out.size))
    have HB30 : Hid (Below (w.alloc (boxM rmT (.slice va n vc) b)).heap.size (w.alloc (boxM rmT (.slice va n vc) b)) W0) := Lib.hid (by rw [hW0]; exact HB20.out.trans ((hf.2.trans (hal.mono hf.2.size)).mono HB20.out.size))
    have HX : Hid (∀ W, Below W0.heap.size W0 W → W.cell? ⟨w3.heap.size, 0, none⟩ = some (.slice ua n uc) ∧ W.cell? ⟨w3.heap.size, 0 + 1, none⟩ = some (.string b)) := Lib.hid (fun W hb => by
      rw [hW0] at hb
      exact twoM (range_below (new_boxM w3 msT (.slice ua n uc) b) (by simp) hb))
    have HW0 := Lib.hid hW0
    clear hf hrd hal c0 c1 hW0
    go_wp2_with fail
    go_loopw [18] (fun i wr => ∃ k : Nat, k ≤ n ∧ i = .int .i64 k ∧ Hid ((q.take k).all rightF = true ∧ Below W0.heap.size W0 wr)) (fun i _ => n - (intOf i).toNat)
    case atStart => exact ⟨0, Nat.zero_le _, rfl, Lib.hid ⟨by simp, by rw [← HW0.out]; exact Below.refl _ _⟩⟩
    case round =>
      obtain ⟨k, hk, rfl, hall⟩ := hrel
      obtain ⟨c0, c1⟩ := HX.out wr hall.out.2
      by_cases hlt : k < n
      · obtain ⟨f, hf⟩ : ∃ a, q[k]? = some a := ⟨q[k]'(by have := HNN.out; omega), List.getElem?_eq_getElem _⟩
        obtain ⟨b1, o1, rfl, hb1, r1⟩ := HAT.out k f hf
        obtain ⟨d0, d1⟩ := two (range_below r1 hb1 hall.out.2)
        have HR1 := Lib.hid (HRT.out f (List.mem_of_getElem? hf) wr (HM.out.below (HB3.out.trans (hall.out.2.mono HB3.out.size))))
        cases hr : rightB (bl f.n) (bl f.v)
        · rw [hr] at HR1
          clear hf r1 hr
          go_wp2_with fail
          refine HR1.out.mono ?_
          rintro e w4 ⟨rfl, hb⟩
          have HB4 := Lib.hid (HB3.out.trans ((hall.out.2.trans (hb.mono hall.out.2.size)).mono HB3.out.size))
          clear hb
          go_wp2_with fail
          go_ret
          exact ⟨rfl, HB4.out⟩
        · rw [hr] at HR1
          have HAL := Lib.hid (show (q.take (k + 1)).all rightF = true by
            rw [List.take_add_one, hf, List.all_append, hall.out.1]
            simp [rightF, hr])
          clear hf r1 hr
          go_wp2_with fail
          refine HR1.out.mono ?_
          rintro e w4 ⟨rfl, hb⟩
          have HN := Lib.hid (And.intro HAL.out (hall.out.2.trans (hb.mono hall.out.2.size)))
          clear hb
          go_wp2_with fail
          go_roundw
          case rel => exact ⟨k + 1, by omega, by simp, HN⟩
          case measure => simp [intOf]; omega
      · have hright : q.all rightF = true := by
          have h := hall.out.1
          rw [List.take_of_length_le (by have := HNN.out; omega)] at h
          exact h
        have HTW := Lib.hid (HTX.out _ wr (HRD.out.below hall.out.2))
        have HXB := Lib.hid (HB3.out.trans (hall.out.2.mono HB3.out.size))
        by_cases hz : 65536 < t.size
        · have d : (65536 : Int) < (t.size : Int) := by omega
          clear hright
          go_wp2_with fail
          refine HTW.out.mono ?_
          rintro e w4 ⟨rfl, hb⟩
          have HB4 := Lib.hid (HXB.out.trans (hb.mono HXB.out.size))
          clear hb
          go_wp2_with fail
          go_ret
          exact ⟨rfl, HB4.out⟩
        · have d : ¬ (65536 : Int) < (t.size : Int) := by omega
          have HPW := Lib.hid (HPA.out hright (by omega))
          clear hright
          go_wp2_with fail
          refine HTW.out.mono ?_
          rintro e w4 ⟨rfl, hb⟩
          have HB4 := Lib.hid (HXB.out.trans (hb.mono HXB.out.size))
          have HB40 := Lib.hid (hall.out.2.trans (hb.mono hall.out.2.size))
          have HP4 := Lib.hid (HPW.out w4 (HM.out.below HB4.out))
          clear hb
          go_wp2_with fail
          refine HP4.out.mono ?_
          rintro e w5 ⟨ua5, uc5, rfl, hrd, hb⟩
          have hal : Below w5.heap.size w5 (w5.alloc (boxM msT (.slice ua5 n uc5) b)) := (Below.refl _ _).alloc (Nat.le_refl _) _
          have HB50 := Lib.hid (HB40.out.trans ((hb.trans (hal.mono hb.size)).mono HB40.out.size))
          have HB5 := Lib.hid (HB3.out.trans (HB50.out.mono HB3.out.size))
          clear c0 c1
          obtain ⟨c0, c1⟩ := HCE.out _ (HB30.out.trans (HB50.out.mono HB30.out.size))
          have HS5 := Lib.hid (HSM.out _ _ _ (hrd.below hal) (HV.out.below HB5.out))
          clear hb hal hrd
          go_wp2_with fail
          refine HS5.out.mono ?_
          rintro e w6 ⟨rfl, hb⟩
          have HB6 := Lib.hid (HB5.out.trans (hb.mono HB5.out.size))
          clear hb
          go_wp2_with fail
          go_ret
          exact ⟨rfl, HB6.out⟩
end Go.Proofs.YtegbkfloiiilfaaGreatDoor.Msg
