/-
  Walks of the laws AddrReads and AddrWrites.
-/
import Derived.Test.YtjnadahognmkhaaDoorAddrLawK
import Derived.Test.YtjnadahognmkhaaDoorAddrRefE
namespace Go.Proofs.YtjnadahognmkhaaDoor.Addr
open Go Go.RowKit
open Go.Proofs.YtjnadahognmkhaaDoor.Lex (bl ba bl_len ba_size bl_ba ba_bl Lies range_below ret_bool below_drewN)
open Go.Proofs.YtjnadahognmkhaaDoor.Glyph (fd foldL foldL_foldL fold_any)
open Go.Proofs.YtjnadahognmkhaaDoor.Sha (Kept wp_region_kept wp_region_kept_tail quiet_load_row)

theorem guard_ar : Tryd.prog.eqGuardType Tryd.prog.depth arT = false := by kernel_rfl
theorem quiet_eql_ar {C : World → Prop} {o : Oper} {a : Act} {K : Act → Prop} (x y : Operand) (l d l' d' : ByteArray) (b : Bool) (hr : ∀ w, (binOp .eql arT (adB l d) (adB l' d')).run Tryd.prog w = .ok (.bool b) w) (ho : o.op = .binOp .eql arT x y arT) (hx : a.eval x = adB l d) (hy : a.eval y = adB l' d') (h : K (a.put o.dst (.bool b))) : o.quiet Tryd.prog a C K :=
  ⟨_, fun w hw => by
    have h1 := hr w
    unfold Oper.quietAt execOp
    simp [ho, hx, hy, h1, run_eqGuard_agg w .eql arT x y _ _ guard_ar]
    exact ⟨rfl, rfl⟩, h⟩
theorem ad_calls {f : FuncId} {args : Array Value} {r : Ad × Nat} {l d : ByteArray} {c : Nat} (h : ∀ W, Calls Tryd.prog f args W (AdPost r W)) (h1 : ba r.1.l = l) (h2 : ba r.1.d = d) (h3 : r.2 = c) (W : World) :
    Calls Tryd.prog f args W fun e W' => e = .returned (.tuple #[adB l d, .int .i64 c]) ∧ Below W.heap.size W W' := by
  subst h1 h2 h3
  exact h W
/-- A call, in every world that keeps what lies in a world. -/
theorem kept_call {f : FuncId} {args : Array Value} {v : Value} (X : World) (h : ∀ W, Calls Tryd.prog f args W fun e W' => e = .returned v ∧ Below W.heap.size W W') (W : World) (hW : Kept X W) :
    Calls Tryd.prog f args W fun e W' => e = .returned v ∧ Kept X W' :=
  (h W).mono fun _e _W' he => ⟨he.1, hW.below.trans (he.2.mono hW.below.size)⟩
set_option maxRecDepth 100000 in
set_option maxHeartbeats 8000000 in
theorem addrReads_any (s : ByteArray) (w : World) (_hs : s.size < 9223372036854775808) : Calls Tryd.prog 3 #[.string s] w (TrueP w) := by
  by_cases hlen : s.size ≤ 1000
  · have hd : decide ((1000 : Int) < (s.size : Int)) = false := decide_eq_false (by omega)
    obtain ⟨l1, hl1⟩ : ∃ x, ba (parseL (bl s)).1.l = x := ⟨_, rfl⟩
    obtain ⟨d1, hd1⟩ : ∃ x, ba (parseL (bl s)).1.d = x := ⟨_, rfl⟩
    obtain ⟨c1, hc1⟩ : ∃ x, (parseL (bl s)).2 = x := ⟨_, rfl⟩
    obtain ⟨l2, hl2⟩ : ∃ x, ba (strictL (bl s)).1.l = x := ⟨_, rfl⟩
    obtain ⟨d2, hd2⟩ : ∃ x, ba (strictL (bl s)).1.d = x := ⟨_, rfl⟩
    obtain ⟨c2, hc2⟩ : ∃ x, (strictL (bl s)).2 = x := ⟨_, rfl⟩
    have HP := Lib.hid (ad_calls (fun W => parse_any s W (by omega)) hl1 hd1 hc1)
    have HS := Lib.hid (ad_calls (fun W => strict_any s W (by omega)) hl2 hd2 hc2)
    have HRP := Lib.hid (ad_calls (fun W => refParse_any s W (by omega)) hl1 hd1 hc1)
    have HRS := Lib.hid (ad_calls (fun W => refStrict_any s W (by omega)) hl2 hd2 hc2)
    have hq1 : ∀ W, (binOp .eql arT (adB l1 d1) (adB l1 d1)).run Tryd.prog W = .ok (.bool true) W := fun W => by rw [eql_ar]; simp
    have hq2 : ∀ W, (binOp .eql arT (adB l2 d2) (adB l2 d2)).run Tryd.prog W = .ok (.bool true) W := fun W => by rw [eql_ar]; simp
    clear hl1 hd1 hc1 hl2 hd2 hc2
    have HB0 : Hid (Below w.heap.size w w) := Lib.hid (Below.refl _ _)
    go_enter Tryd.func3, Tryd.ntmps3
    go_wp2_with fail
    refine (HP.out _).mono ?_
    rintro e w1 ⟨rfl, hb⟩
    have hbb := hb.alloc hb.size (boxA adT l1 d1)
    have HB1 := Lib.hid (HB0.out.trans (hbb.mono HB0.out.size))
    have HC0x1 := Lib.hid (new_boxA w1 adT l1 d1)
    have HZ0x1 : Hid (w1.heap.size < (w1.alloc (boxA adT l1 d1)).heap.size) := Lib.hid (by simp)
    clear hb hbb
    go_wp2_with fail
    refine (HS.out _).mono ?_
    rintro e w2 ⟨rfl, hb⟩
    have hbb := hb.alloc hb.size (boxA adT l2 d2)
    have HB2 := Lib.hid (HB1.out.trans (hbb.mono HB1.out.size))
    have HC0x2 := Lib.hid (range_below HC0x1.out HZ0x1.out hbb)
    have HZ0x2 := Lib.hid (Nat.lt_of_lt_of_le HZ0x1.out hbb.size)
    have HC1x2 := Lib.hid (new_boxA w2 adT l2 d2)
    have HZ1x2 : Hid (w2.heap.size < (w2.alloc (boxA adT l2 d2)).heap.size) := Lib.hid (by simp)
    clear hb hbb
    go_wp2_with fail
    refine (HRP.out _).mono ?_
    rintro e w3 ⟨rfl, hb⟩
    have hbb := hb.alloc hb.size (boxA arT l1 d1)
    have HB3 := Lib.hid (HB2.out.trans (hbb.mono HB2.out.size))
    have HC0x3 := Lib.hid (range_below HC0x2.out HZ0x2.out hbb)
    have HZ0x3 := Lib.hid (Nat.lt_of_lt_of_le HZ0x2.out hbb.size)
    have HC1x3 := Lib.hid (range_below HC1x2.out HZ1x2.out hbb)
    have HZ1x3 := Lib.hid (Nat.lt_of_lt_of_le HZ1x2.out hbb.size)
    have HC2x3 := Lib.hid (new_boxA w3 arT l1 d1)
    have HZ2x3 : Hid (w3.heap.size < (w3.alloc (boxA arT l1 d1)).heap.size) := Lib.hid (by simp)
    clear hb hbb
    go_wp2_with fail
    refine (HRS.out _).mono ?_
    rintro e w4 ⟨rfl, hb⟩
    have hbb := hb.alloc hb.size (boxA arT l2 d2)
    have HB4 := Lib.hid (HB3.out.trans (hbb.mono HB3.out.size))
    have HC0x4 := Lib.hid (range_below HC0x3.out HZ0x3.out hbb)
    have HZ0x4 := Lib.hid (Nat.lt_of_lt_of_le HZ0x3.out hbb.size)
    have HC1x4 := Lib.hid (range_below HC1x3.out HZ1x3.out hbb)
    have HZ1x4 := Lib.hid (Nat.lt_of_lt_of_le HZ1x3.out hbb.size)
    have HC2x4 := Lib.hid (range_below HC2x3.out HZ2x3.out hbb)
    have HZ2x4 := Lib.hid (Nat.lt_of_lt_of_le HZ2x3.out hbb.size)
    have HC3x4 := Lib.hid (new_boxA w4 arT l2 d2)
    have HZ3x4 : Hid (w4.heap.size < (w4.alloc (boxA arT l2 d2)).heap.size) := Lib.hid (by simp)
    clear hb hbb
    go_wp2_with fail
    have HO1 := Lib.hid (kept_call (w4.alloc (boxA arT l2 d2)) (fun W => ofA_any l1 d1 W))
    have HO2 := Lib.hid (kept_call (w4.alloc (boxA arT l2 d2)) (fun W => ofA_any l2 d2 W))
    have HWK := Lib.hid (kept_call (w4.alloc (boxA arT l2 d2)) (fun W => works_any W))
    refine wp_region_kept (by kernel_rfl) (by kernel_rfl) ?_
    repeat (first
      | (go_big_quiet_want
         first
           | refine quiet_load_row adT (.tmp 3) rfl w1.heap.size 0 rfl (cellsA l1 d1) _ (fun w' hk => range_below HC0x4.out HZ0x4.out hk) Tryd.underlying24 rfl sizeA ?_
           | refine quiet_load_row arT (.tmp 7) rfl w3.heap.size 0 rfl (cellsA l1 d1) _ (fun w' hk => range_below HC2x4.out HZ2x4.out hk) Tryd.underlying28 rfl sizeAR ?_
           | refine quiet_load_row adT (.tmp 5) rfl w2.heap.size 0 rfl (cellsA l2 d2) _ (fun w' hk => range_below HC1x4.out HZ1x4.out hk) Tryd.underlying24 rfl sizeA ?_
           | refine quiet_load_row arT (.tmp 9) rfl w4.heap.size 0 rfl (cellsA l2 d2) _ (fun w' hk => range_below HC3x4.out HZ3x4.out hk) Tryd.underlying28 rfl sizeAR ?_
           | refine quiet_eql_ar (.tmp 36) (.tmp 37) l1 d1 l1 d1 true hq1 rfl rfl rfl ?_
           | refine quiet_eql_ar (.tmp 46) (.tmp 47) l2 d2 l2 d2 true hq2 rfl rfl rfl ?_
         go_simp
         go_big_quiet_on)
      | (go_big_quiet_step ((first | (exact fun _ => rfl) | (intro hk; go_at_call 13; exact (HO1.out _ hk)) | (intro hk; go_at_call 13; exact (HO2.out _ hk)) | (intro hk; go_at_call 8; exact (HWK.out _ hk))))))
    refine wpQuiet_nil ?_
    intro W2 hk2
    have HBK := Lib.hid (HB4.out.trans (hk2.below.mono HB4.out.size))
    clear hk2
    go_wp2_with fail
    go_ret
    exact ⟨rfl, HBK.out⟩
  · have hd : decide ((1000 : Int) < (s.size : Int)) = true := decide_eq_true (by omega)
    have HW := Lib.hid (fun W => works_any W)
    go_enter Tryd.func3, Tryd.ntmps3
    go_wp2_with fail
    refine (HW.out _).mono ?_
    rintro e w1 ⟨rfl, hb⟩
    have HB := Lib.hid hb
    clear hb
    go_wp2_with fail
    go_ret
    exact ⟨rfl, HB.out⟩
set_option maxRecDepth 100000 in
set_option maxHeartbeats 8000000 in
theorem addrWrites_any (l d s : ByteArray) (w : World) : Calls Tryd.prog 4 #[adB l d, .string s] w (TrueP w) := by
  have HW0 := fun W => works_any W
  unfold TrueP at HW0
  have HW := Lib.hid HW0
  clear HW0
  by_cases h1 : l.size ≤ 500
  · have hd1 : decide ((500 : Int) < (l.size : Int)) = false := decide_eq_false (by omega)
    by_cases h2 : d.size ≤ 500
    · have hd2 : decide ((500 : Int) < (d.size : Int)) = false := decide_eq_false (by omega)
      by_cases h3 : s.size ≤ 500
      · have hd3 : decide ((500 : Int) < (s.size : Int)) = false := decide_eq_false (by omega)
        have HDM0 := fun W => domain_any s W (by omega)
        have HRD0 := fun W => refDomain_any s W (by omega)
        unfold DomPost at HDM0 HRD0
        have HDM := Lib.hid HDM0
        have HRD := Lib.hid HRD0
        clear HDM0 HRD0
        have HTO := Lib.hid (fun W => to_any l d W)
        have HT := Lib.hid (fun W => text_any l d W (by omega) (by omega))
        have HRT := Lib.hid (fun W => refText_any l d W (by omega) (by omega))
        have HK := Lib.hid (fun W => key_any l d W (by omega) (by omega))
        have HRK := Lib.hid (fun W => refKey_any l d W (by omega) (by omega))
        have HR := Lib.hid (fun W => right_any l d W (by omega) (by omega))
        have HRR := Lib.hid (fun W => refRight_any l d W (by omega) (by omega))
        have HDT := Lib.hid (fun W => dotted_any s W (by omega))
        have HRDT := Lib.hid (fun W => refDotted_any s W (by omega))
        generalize ba (textL ⟨bl l, bl d⟩) = t at *
        generalize ba (keyL ⟨bl l, bl d⟩) = y at *
        generalize rightB ⟨bl l, bl d⟩ = rb at *
        generalize dottedB (bl s) = db at *
        generalize ba (domL (bl s)) = dl at *
        generalize domC (bl s) = dc at *
        have HC0x0 := Lib.hid (new_boxA w arT l d)
        have HZ0x0 : Hid (w.heap.size < (w.alloc (boxA arT l d)).heap.size) := Lib.hid (by simp)
        have HB0 : Hid (Below w.heap.size w (w.alloc (boxA arT l d))) := Lib.hid ((Below.refl _ _).alloc (Nat.le_refl _) _)
        obtain ⟨a00, a01⟩ := twoA HC0x0.out
        go_enter Tryd.func4, Tryd.ntmps4
        go_wp2_with fail
        refine (HDM.out _).mono ?_
        rintro e w1 ⟨rfl, hb⟩
        have hbb := hb
        have HB1 := Lib.hid (HB0.out.trans (hbb.mono HB0.out.size))
        have HC0x1 := Lib.hid (range_below HC0x0.out HZ0x0.out hbb)
        have HZ0x1 := Lib.hid (Nat.lt_of_lt_of_le HZ0x0.out hbb.size)
        clear hb hbb
        clear a00 a01
        go_wp2_with fail
        refine (HRD.out _).mono ?_
        rintro e w2 ⟨rfl, hb⟩
        have hbb := hb
        have HB2 := Lib.hid (HB1.out.trans (hbb.mono HB1.out.size))
        have HC0x2 := Lib.hid (range_below HC0x1.out HZ0x1.out hbb)
        have HZ0x2 := Lib.hid (Nat.lt_of_lt_of_le HZ0x1.out hbb.size)
        clear hb hbb
        obtain ⟨a00, a01⟩ := twoA HC0x2.out
        go_wp2_with fail
        refine (HTO.out _).mono ?_
        rintro e w3 ⟨rfl, hb⟩
        have hbb := hb.alloc hb.size (boxA adT l d)
        have HB3 := Lib.hid (HB2.out.trans (hbb.mono HB2.out.size))
        have HC0x3 := Lib.hid (range_below HC0x2.out HZ0x2.out hbb)
        have HZ0x3 := Lib.hid (Nat.lt_of_lt_of_le HZ0x2.out hbb.size)
        have HC1x3 := Lib.hid (new_boxA w3 adT l d)
        have HZ1x3 : Hid (w3.heap.size < (w3.alloc (boxA adT l d)).heap.size) := Lib.hid (by simp)
        clear hb hbb
        clear a00 a01
        go_wp2_with fail
        have HTk := Lib.hid (kept_call (w3.alloc (boxA adT l d)) (fun W => HT.out W))
        have HRTk := Lib.hid (kept_call (w3.alloc (boxA adT l d)) (fun W => HRT.out W))
        have HKk := Lib.hid (kept_call (w3.alloc (boxA adT l d)) (fun W => HK.out W))
        have HRKk := Lib.hid (kept_call (w3.alloc (boxA adT l d)) (fun W => HRK.out W))
        have HRk := Lib.hid (kept_call (w3.alloc (boxA adT l d)) (fun W => HR.out W))
        have HRRk := Lib.hid (kept_call (w3.alloc (boxA adT l d)) (fun W => HRR.out W))
        have HDTk := Lib.hid (kept_call (w3.alloc (boxA adT l d)) (fun W => HDT.out W))
        have HRDTk := Lib.hid (kept_call (w3.alloc (boxA adT l d)) (fun W => HRDT.out W))
        have HWk := Lib.hid (kept_call (w3.alloc (boxA adT l d)) (fun W => HW.out W))
        refine wp_region_kept (by kernel_rfl) (by kernel_rfl) ?_
        repeat (first
          | (go_big_quiet_want
             first
               | refine quiet_load_row adT (.tmp 9) rfl w3.heap.size 0 rfl (cellsA l d) _ (fun w' hk => range_below HC1x3.out HZ1x3.out hk) Tryd.underlying24 rfl sizeA ?_
               | refine quiet_load_row arT (.tmp 2) rfl w.heap.size 0 rfl (cellsA l d) _ (fun w' hk => range_below HC0x3.out HZ0x3.out hk) Tryd.underlying28 rfl sizeAR ?_
             go_simp
             go_big_quiet_on)
          | (go_big_quiet_step ((first | (exact fun _ => rfl) | (intro hk; go_at_call 17; exact (HTk.out _ hk)) | (intro hk; go_at_call 18; exact (HRTk.out _ hk)) | (intro hk; go_at_call 19; exact (HKk.out _ hk)) | (intro hk; go_at_call 20; exact (HRKk.out _ hk)) | (intro hk; go_at_call 21; exact (HRk.out _ hk)) | (intro hk; go_at_call 22; exact (HRRk.out _ hk)) | (intro hk; go_at_call 23; exact (HDTk.out _ hk)) | (intro hk; go_at_call 24; exact (HRDTk.out _ hk)) | (intro hk; go_at_call 8; exact (HWk.out _ hk))))))
        refine wpQuiet_nil ?_
        intro W2 hk2
        have HBK := Lib.hid (HB3.out.trans (hk2.below.mono HB3.out.size))
        clear hk2
        go_wp2_with fail
        go_ret
        exact ⟨rfl, HBK.out⟩
      · have hd3 : decide ((500 : Int) < (s.size : Int)) = true := decide_eq_true (by omega)
        have HC0x0 := Lib.hid (new_boxA w arT l d)
        have HZ0x0 : Hid (w.heap.size < (w.alloc (boxA arT l d)).heap.size) := Lib.hid (by simp)
        have HB0 : Hid (Below w.heap.size w (w.alloc (boxA arT l d))) := Lib.hid ((Below.refl _ _).alloc (Nat.le_refl _) _)
        obtain ⟨a00, a01⟩ := twoA HC0x0.out
        go_enter Tryd.func4, Tryd.ntmps4
        go_wp2_with fail
        refine (HW.out _).mono ?_
        rintro e w1 ⟨rfl, hb⟩
        have hbb := hb
        have HB1 := Lib.hid (HB0.out.trans (hbb.mono HB0.out.size))
        have HC0x1 := Lib.hid (range_below HC0x0.out HZ0x0.out hbb)
        have HZ0x1 := Lib.hid (Nat.lt_of_lt_of_le HZ0x0.out hbb.size)
        clear hb hbb
        clear a00 a01
        go_wp2_with fail
        go_ret
        exact ⟨rfl, HB1.out⟩
    · have hd2 : decide ((500 : Int) < (d.size : Int)) = true := decide_eq_true (by omega)
      have HC0x0 := Lib.hid (new_boxA w arT l d)
      have HZ0x0 : Hid (w.heap.size < (w.alloc (boxA arT l d)).heap.size) := Lib.hid (by simp)
      have HB0 : Hid (Below w.heap.size w (w.alloc (boxA arT l d))) := Lib.hid ((Below.refl _ _).alloc (Nat.le_refl _) _)
      obtain ⟨a00, a01⟩ := twoA HC0x0.out
      go_enter Tryd.func4, Tryd.ntmps4
      go_wp2_with fail
      refine (HW.out _).mono ?_
      rintro e w1 ⟨rfl, hb⟩
      have hbb := hb
      have HB1 := Lib.hid (HB0.out.trans (hbb.mono HB0.out.size))
      have HC0x1 := Lib.hid (range_below HC0x0.out HZ0x0.out hbb)
      have HZ0x1 := Lib.hid (Nat.lt_of_lt_of_le HZ0x0.out hbb.size)
      clear hb hbb
      clear a00 a01
      go_wp2_with fail
      go_ret
      exact ⟨rfl, HB1.out⟩
  · have hd1 : decide ((500 : Int) < (l.size : Int)) = true := decide_eq_true (by omega)
    have HC0x0 := Lib.hid (new_boxA w arT l d)
    have HZ0x0 : Hid (w.heap.size < (w.alloc (boxA arT l d)).heap.size) := Lib.hid (by simp)
    have HB0 : Hid (Below w.heap.size w (w.alloc (boxA arT l d))) := Lib.hid ((Below.refl _ _).alloc (Nat.le_refl _) _)
    obtain ⟨a00, a01⟩ := twoA HC0x0.out
    go_enter Tryd.func4, Tryd.ntmps4
    go_wp2_with fail
    refine (HW.out _).mono ?_
    rintro e w1 ⟨rfl, hb⟩
    have hbb := hb
    have HB1 := Lib.hid (HB0.out.trans (hbb.mono HB0.out.size))
    have HC0x1 := Lib.hid (range_below HC0x0.out HZ0x0.out hbb)
    have HZ0x1 := Lib.hid (Nat.lt_of_lt_of_le HZ0x0.out hbb.size)
    clear hb hbb
    clear a00 a01
    go_wp2_with fail
    go_ret
    exact ⟨rfl, HB1.out⟩
end Go.Proofs.YtjnadahognmkhaaDoor.Addr
