/-
  Walks of the laws AddrBack and AddrKeys.
-/
import Derived.Test.YtjnadahognmkhaaDoorAddrLawR
namespace Go.Proofs.YtjnadahognmkhaaDoor.Addr
open Go Go.RowKit
open Go.Proofs.YtjnadahognmkhaaDoor.Lex (bl ba bl_len ba_size bl_ba ba_bl Lies range_below ret_bool below_drewN)
open Go.Proofs.YtjnadahognmkhaaDoor.Glyph (fd foldL foldL_foldL fold_any)
open Go.Proofs.YtjnadahognmkhaaDoor.Sha (Kept wp_region_kept wp_region_kept_tail quiet_load_row)

theorem guard_ad : Tryd.prog.eqGuardType Tryd.prog.depth adT = false := by kernel_rfl
theorem quiet_eql_ad {C : World → Prop} {o : Oper} {a : Act} {K : Act → Prop} (x y : Operand) (l d l' d' : ByteArray) (b : Bool) (hr : ∀ w, (binOp .eql adT (adB l d) (adB l' d')).run Tryd.prog w = .ok (.bool b) w) (ho : o.op = .binOp .eql adT x y adT) (hx : a.eval x = adB l d) (hy : a.eval y = adB l' d') (h : K (a.put o.dst (.bool b))) : o.quiet Tryd.prog a C K :=
  ⟨_, fun w hw => by
    have h1 := hr w
    unfold Oper.quietAt execOp
    simp [ho, hx, hy, h1, run_eqGuard_agg w .eql adT x y _ _ guard_ad]
    exact ⟨rfl, rfl⟩, h⟩
theorem text_size (l d : ByteArray) (h1 : l.size ≤ 500) (h2 : d.size ≤ 500) : (ba (textL ⟨bl l, bl d⟩)).size ≤ 1503 := by
  rw [ba_size]
  have := textL_le ⟨bl l, bl d⟩
  simp only [bl_len] at this
  omega
theorem key_size (l d : ByteArray) (h1 : l.size ≤ 500) (h2 : d.size ≤ 500) : (ba (keyL ⟨bl l, bl d⟩)).size ≤ 1503 := by
  have := text_size l d h1 h2
  rw [ba_size] at this ⊢
  unfold keyL
  rw [foldL_len]
  exact this
set_option maxRecDepth 100000 in
set_option maxHeartbeats 8000000 in
theorem addrBack_any (l d : ByteArray) (w : World) : Calls Tryd.prog 5 #[adB l d] w (TrueP w) := by
  have HW := Lib.hid (fun W => works_any W)
  by_cases h1 : l.size ≤ 500
  · have hd1 : decide ((500 : Int) < (l.size : Int)) = false := decide_eq_false (by omega)
    by_cases h2 : d.size ≤ 500
    · have hd2 : decide ((500 : Int) < (d.size : Int)) = false := decide_eq_false (by omega)
      have HTO := Lib.hid (fun W => to_any l d W)
      have HT := Lib.hid (fun W => text_any l d W (by omega) (by omega))
      have HR := Lib.hid (fun W => right_any l d W (by omega) (by omega))
      have hzt := text_size l d h1 h2
      have HPT := fun W => parse_any (ba (textL ⟨bl l, bl d⟩)) W (by omega)
      rw [bl_ba] at HPT
      by_cases hr : Right ⟨bl l, bl d⟩
      · have hzf : (ba (foldL (bl l))).size ≤ 500 := by rw [ba_size, foldL_len, bl_len]; exact h1
        have hzk := key_size l d h1 h2
        have HA := Lib.hid (AdPost.calls HPT (l := l) (d := d) (c := 0) (parse_text hr))
        have HS := Lib.hid (AdPost.calls (fun W => strict_any (ba (textL ⟨bl l, bl d⟩)) W (by omega)) (l := l) (d := d) (c := 0) (by rw [bl_ba]; exact strict_text hr))
        have HK := Lib.hid (fun W => key_any l d W (by omega) (by omega))
        have HA2 := Lib.hid (AdPost.calls (fun W => parse_any (ba (keyL ⟨bl l, bl d⟩)) W (by omega)) (l := ba (foldL (bl l))) (d := d) (c := 0) (by rw [bl_ba, bl_ba]; exact parse_key hr))
        have HK2 := Lib.hid (fun W => key_any (ba (foldL (bl l))) d W (by omega) (by omega))
        rw [bl_ba, key_low hr] at HK2
        have HF := Lib.hid (fun W => foldX_any l W (by omega))
        rw [(rightB_iff _).2 hr] at HR
        clear HPT hr
        generalize ba (textL ⟨bl l, bl d⟩) = t at *
        generalize ba (keyL ⟨bl l, bl d⟩) = y at *
        generalize ba (foldL (bl l)) = fl at *
        have hq : ∀ W, (binOp .eql adT (adB l d) (adB l d)).run Tryd.prog W = .ok (.bool true) W := fun W => by rw [eql_ad]; simp
        have hq2 : ∀ W, (binOp .eql adT (adB fl d) (adB fl d)).run Tryd.prog W = .ok (.bool true) W := fun W => by rw [eql_ad]; simp
        have HC0x0 := Lib.hid (new_boxA w arT l d)
        have HZ0x0 : Hid (w.heap.size < (w.alloc (boxA arT l d)).heap.size) := Lib.hid (by simp)
        have HB0 : Hid (Below w.heap.size w (w.alloc (boxA arT l d))) := Lib.hid ((Below.refl _ _).alloc (Nat.le_refl _) _)
        go_enter Tryd.func5, Tryd.ntmps5
        go_wp2_with fail
        refine (HW.out _).mono ?_
        rintro e w1 ⟨rfl, hb⟩
        have hbb := hb
        have HB1 := Lib.hid (HB0.out.trans (hbb.mono HB0.out.size))
        have HC0x1 := Lib.hid (range_below HC0x0.out HZ0x0.out hbb)
        have HZ0x1 := Lib.hid (Nat.lt_of_lt_of_le HZ0x0.out hbb.size)
        clear hb hbb
        obtain ⟨a00, a01⟩ := twoA HC0x1.out
        go_wp2_with fail
        refine (HTO.out _).mono ?_
        rintro e w2 ⟨rfl, hb⟩
        have hbb := hb.alloc hb.size (boxA adT l d)
        have HB2 := Lib.hid (HB1.out.trans (hbb.mono HB1.out.size))
        have HC0x2 := Lib.hid (range_below HC0x1.out HZ0x1.out hbb)
        have HZ0x2 := Lib.hid (Nat.lt_of_lt_of_le HZ0x1.out hbb.size)
        have HC1x2 := Lib.hid (new_boxA w2 adT l d)
        have HZ1x2 : Hid (w2.heap.size < (w2.alloc (boxA adT l d)).heap.size) := Lib.hid (by simp)
        clear hb hbb
        clear a00 a01
        obtain ⟨a10, a11⟩ := twoA HC1x2.out
        go_wp2_with fail
        refine (HT.out _).mono ?_
        rintro e w3 ⟨rfl, hb⟩
        have hbb := hb
        have HB3 := Lib.hid (HB2.out.trans (hbb.mono HB2.out.size))
        have HC0x3 := Lib.hid (range_below HC0x2.out HZ0x2.out hbb)
        have HZ0x3 := Lib.hid (Nat.lt_of_lt_of_le HZ0x2.out hbb.size)
        have HC1x3 := Lib.hid (range_below HC1x2.out HZ1x2.out hbb)
        have HZ1x3 := Lib.hid (Nat.lt_of_lt_of_le HZ1x2.out hbb.size)
        clear hb hbb
        clear a10 a11
        go_wp2_with fail
        refine (HA.out _).mono ?_
        rintro e w4 ⟨rfl, hb⟩
        have hbb := hb.alloc hb.size (boxA adT l d)
        have HB4 := Lib.hid (HB3.out.trans (hbb.mono HB3.out.size))
        have HC0x4 := Lib.hid (range_below HC0x3.out HZ0x3.out hbb)
        have HZ0x4 := Lib.hid (Nat.lt_of_lt_of_le HZ0x3.out hbb.size)
        have HC1x4 := Lib.hid (range_below HC1x3.out HZ1x3.out hbb)
        have HZ1x4 := Lib.hid (Nat.lt_of_lt_of_le HZ1x3.out hbb.size)
        have HC2x4 := Lib.hid (new_boxA w4 adT l d)
        have HZ2x4 : Hid (w4.heap.size < (w4.alloc (boxA adT l d)).heap.size) := Lib.hid (by simp)
        clear hb hbb
        obtain ⟨a10, a11⟩ := twoA HC1x4.out
        go_wp2_with fail
        refine (HR.out _).mono ?_
        rintro e w5 ⟨rfl, hb⟩
        have hbb := hb
        have HB5 := Lib.hid (HB4.out.trans (hbb.mono HB4.out.size))
        have HC0x5 := Lib.hid (range_below HC0x4.out HZ0x4.out hbb)
        have HZ0x5 := Lib.hid (Nat.lt_of_lt_of_le HZ0x4.out hbb.size)
        have HC1x5 := Lib.hid (range_below HC1x4.out HZ1x4.out hbb)
        have HZ1x5 := Lib.hid (Nat.lt_of_lt_of_le HZ1x4.out hbb.size)
        have HC2x5 := Lib.hid (range_below HC2x4.out HZ2x4.out hbb)
        have HZ2x5 := Lib.hid (Nat.lt_of_lt_of_le HZ2x4.out hbb.size)
        clear hb hbb
        clear a10 a11
        obtain ⟨a10, a11⟩ := twoA HC1x5.out
        obtain ⟨a20, a21⟩ := twoA HC2x5.out
        go_wp2_with fail
        refine (HR.out _).mono ?_
        rintro e w6 ⟨rfl, hb⟩
        have hbb := hb
        have HB6 := Lib.hid (HB5.out.trans (hbb.mono HB5.out.size))
        have HC0x6 := Lib.hid (range_below HC0x5.out HZ0x5.out hbb)
        have HZ0x6 := Lib.hid (Nat.lt_of_lt_of_le HZ0x5.out hbb.size)
        have HC1x6 := Lib.hid (range_below HC1x5.out HZ1x5.out hbb)
        have HZ1x6 := Lib.hid (Nat.lt_of_lt_of_le HZ1x5.out hbb.size)
        have HC2x6 := Lib.hid (range_below HC2x5.out HZ2x5.out hbb)
        have HZ2x6 := Lib.hid (Nat.lt_of_lt_of_le HZ2x5.out hbb.size)
        clear hb hbb
        clear a10 a11
        clear a20 a21
        obtain ⟨a10, a11⟩ := twoA HC1x6.out
        go_wp2_with fail
        refine (HT.out _).mono ?_
        rintro e w7 ⟨rfl, hb⟩
        have hbb := hb
        have HB7 := Lib.hid (HB6.out.trans (hbb.mono HB6.out.size))
        have HC0x7 := Lib.hid (range_below HC0x6.out HZ0x6.out hbb)
        have HZ0x7 := Lib.hid (Nat.lt_of_lt_of_le HZ0x6.out hbb.size)
        have HC1x7 := Lib.hid (range_below HC1x6.out HZ1x6.out hbb)
        have HZ1x7 := Lib.hid (Nat.lt_of_lt_of_le HZ1x6.out hbb.size)
        have HC2x7 := Lib.hid (range_below HC2x6.out HZ2x6.out hbb)
        have HZ2x7 := Lib.hid (Nat.lt_of_lt_of_le HZ2x6.out hbb.size)
        clear hb hbb
        clear a10 a11
        go_wp2_with fail
        refine (HS.out _).mono ?_
        rintro e w8 ⟨rfl, hb⟩
        have hbb := hb.alloc hb.size (boxA adT l d)
        have HB8 := Lib.hid (HB7.out.trans (hbb.mono HB7.out.size))
        have HC0x8 := Lib.hid (range_below HC0x7.out HZ0x7.out hbb)
        have HZ0x8 := Lib.hid (Nat.lt_of_lt_of_le HZ0x7.out hbb.size)
        have HC1x8 := Lib.hid (range_below HC1x7.out HZ1x7.out hbb)
        have HZ1x8 := Lib.hid (Nat.lt_of_lt_of_le HZ1x7.out hbb.size)
        have HC2x8 := Lib.hid (range_below HC2x7.out HZ2x7.out hbb)
        have HZ2x8 := Lib.hid (Nat.lt_of_lt_of_le HZ2x7.out hbb.size)
        have HC3x8 := Lib.hid (new_boxA w8 adT l d)
        have HZ3x8 : Hid (w8.heap.size < (w8.alloc (boxA adT l d)).heap.size) := Lib.hid (by simp)
        clear hb hbb
        obtain ⟨a10, a11⟩ := twoA HC1x8.out
        go_wp2_with fail
        refine (HK.out _).mono ?_
        rintro e w9 ⟨rfl, hb⟩
        have hbb := hb
        have HB9 := Lib.hid (HB8.out.trans (hbb.mono HB8.out.size))
        have HC0x9 := Lib.hid (range_below HC0x8.out HZ0x8.out hbb)
        have HZ0x9 := Lib.hid (Nat.lt_of_lt_of_le HZ0x8.out hbb.size)
        have HC1x9 := Lib.hid (range_below HC1x8.out HZ1x8.out hbb)
        have HZ1x9 := Lib.hid (Nat.lt_of_lt_of_le HZ1x8.out hbb.size)
        have HC2x9 := Lib.hid (range_below HC2x8.out HZ2x8.out hbb)
        have HZ2x9 := Lib.hid (Nat.lt_of_lt_of_le HZ2x8.out hbb.size)
        have HC3x9 := Lib.hid (range_below HC3x8.out HZ3x8.out hbb)
        have HZ3x9 := Lib.hid (Nat.lt_of_lt_of_le HZ3x8.out hbb.size)
        clear hb hbb
        clear a10 a11
        go_wp2_with fail
        refine (HA2.out _).mono ?_
        rintro e w10 ⟨rfl, hb⟩
        have hbb := hb.alloc hb.size (boxA adT fl d)
        have HB10 := Lib.hid (HB9.out.trans (hbb.mono HB9.out.size))
        have HC0x10 := Lib.hid (range_below HC0x9.out HZ0x9.out hbb)
        have HZ0x10 := Lib.hid (Nat.lt_of_lt_of_le HZ0x9.out hbb.size)
        have HC1x10 := Lib.hid (range_below HC1x9.out HZ1x9.out hbb)
        have HZ1x10 := Lib.hid (Nat.lt_of_lt_of_le HZ1x9.out hbb.size)
        have HC2x10 := Lib.hid (range_below HC2x9.out HZ2x9.out hbb)
        have HZ2x10 := Lib.hid (Nat.lt_of_lt_of_le HZ2x9.out hbb.size)
        have HC3x10 := Lib.hid (range_below HC3x9.out HZ3x9.out hbb)
        have HZ3x10 := Lib.hid (Nat.lt_of_lt_of_le HZ3x9.out hbb.size)
        have HC4x10 := Lib.hid (new_boxA w10 adT fl d)
        have HZ4x10 : Hid (w10.heap.size < (w10.alloc (boxA adT fl d)).heap.size) := Lib.hid (by simp)
        clear hb hbb
        go_wp2_with fail
        refine wp_region_kept (by kernel_rfl) (by kernel_rfl) ?_
        repeat (first
          | (go_big_quiet_want
             first
               | refine quiet_load_row adT (.tmp 6) rfl w8.heap.size 0 rfl (cellsA l d) _ (fun w' hk => range_below HC3x10.out HZ3x10.out hk) Tryd.underlying24 rfl sizeA ?_
               | refine quiet_load_row adT (.tmp 3) rfl w2.heap.size 0 rfl (cellsA l d) _ (fun w' hk => range_below HC1x10.out HZ1x10.out hk) Tryd.underlying24 rfl sizeA ?_
               | refine quiet_load_row adT (.tmp 8) rfl w10.heap.size 0 rfl (cellsA fl d) _ (fun w' hk => range_below HC4x10.out HZ4x10.out hk) Tryd.underlying24 rfl sizeA ?_
               | refine quiet_load_str 9 (.tmp 75) rfl ⟨w2.heap.size, 0, none⟩ rfl (.string l) (fun w' hk => (twoA (range_below HC1x10.out HZ1x10.out hk)).1) Tryd.underlying9 ?_
               | refine quiet_load_str 9 (.tmp 78) rfl ⟨w2.heap.size, 0 + 1, none⟩ rfl (.string d) (fun w' hk => (twoA (range_below HC1x10.out HZ1x10.out hk)).2) Tryd.underlying9 ?_
               | refine quiet_eql_ad (.tmp 58) (.tmp 59) l d l d true hq rfl rfl rfl ?_
               | refine quiet_eql_ad (.tmp 74) (.tmp 80) fl d fl d true hq2 rfl rfl rfl ?_
             go_simp
             go_big_quiet_on)
          | (go_big_quiet_step ((first | (exact fun _ => rfl) | (intro hk; go_at_call 25; exact hk.call (HF.out _)) | (intro hk; go_at_call 19; exact hk.call (HK.out _)) | (intro hk; go_at_call 19; exact hk.call (HK2.out _))))))
        refine wpQuiet_nil ?_
        intro W2 hk2
        have HBK := Lib.hid (HB10.out.trans (hk2.below.mono HB10.out.size))
        clear hk2
        go_wp2_with fail
        go_ret
        exact ⟨rfl, HBK.out⟩
      · have hrb : rightB ⟨bl l, bl d⟩ = false := by
          rw [← Bool.not_eq_true, rightB_iff]
          exact hr
        rw [hrb] at HR
        rcases parse_way (textL ⟨bl l, bl d⟩) with ⟨⟨al, ad⟩, hp, hr2⟩ | ⟨c, hc, hp⟩
        · obtain ⟨l2, rfl⟩ : ∃ l, al = bl l := ⟨ba al, (bl_ba al).symm⟩
          obtain ⟨d2, rfl⟩ : ∃ d, ad = bl d := ⟨ba ad, (bl_ba ad).symm⟩
          have HA := Lib.hid (AdPost.calls HPT hp)
          have hq : ∀ W, (binOp .eql adT (adB l2 d2) (adB l d)).run Tryd.prog W = .ok (.bool false) W := fun W => by
            rw [eql_ad]
            by_cases e1 : l2 = l
            · by_cases e2 : d2 = d
              · subst e1 e2
                exact absurd hr2 hr
              · rw [decide_eq_false e2]; simp
            · rw [decide_eq_false e1]; simp
          clear HPT hr hp hr2 hrb
          generalize ba (textL ⟨bl l, bl d⟩) = t at *
          have HC0x0 := Lib.hid (new_boxA w arT l d)
          have HZ0x0 : Hid (w.heap.size < (w.alloc (boxA arT l d)).heap.size) := Lib.hid (by simp)
          have HB0 : Hid (Below w.heap.size w (w.alloc (boxA arT l d))) := Lib.hid ((Below.refl _ _).alloc (Nat.le_refl _) _)
          go_enter Tryd.func5, Tryd.ntmps5
          go_wp2_with fail
          refine (HW.out _).mono ?_
          rintro e w1 ⟨rfl, hb⟩
          have hbb := hb
          have HB1 := Lib.hid (HB0.out.trans (hbb.mono HB0.out.size))
          have HC0x1 := Lib.hid (range_below HC0x0.out HZ0x0.out hbb)
          have HZ0x1 := Lib.hid (Nat.lt_of_lt_of_le HZ0x0.out hbb.size)
          clear hb hbb
          obtain ⟨a00, a01⟩ := twoA HC0x1.out
          go_wp2_with fail
          refine (HTO.out _).mono ?_
          rintro e w2 ⟨rfl, hb⟩
          have hbb := hb.alloc hb.size (boxA adT l d)
          have HB2 := Lib.hid (HB1.out.trans (hbb.mono HB1.out.size))
          have HC0x2 := Lib.hid (range_below HC0x1.out HZ0x1.out hbb)
          have HZ0x2 := Lib.hid (Nat.lt_of_lt_of_le HZ0x1.out hbb.size)
          have HC1x2 := Lib.hid (new_boxA w2 adT l d)
          have HZ1x2 : Hid (w2.heap.size < (w2.alloc (boxA adT l d)).heap.size) := Lib.hid (by simp)
          clear hb hbb
          clear a00 a01
          obtain ⟨a10, a11⟩ := twoA HC1x2.out
          go_wp2_with fail
          refine (HT.out _).mono ?_
          rintro e w3 ⟨rfl, hb⟩
          have hbb := hb
          have HB3 := Lib.hid (HB2.out.trans (hbb.mono HB2.out.size))
          have HC0x3 := Lib.hid (range_below HC0x2.out HZ0x2.out hbb)
          have HZ0x3 := Lib.hid (Nat.lt_of_lt_of_le HZ0x2.out hbb.size)
          have HC1x3 := Lib.hid (range_below HC1x2.out HZ1x2.out hbb)
          have HZ1x3 := Lib.hid (Nat.lt_of_lt_of_le HZ1x2.out hbb.size)
          clear hb hbb
          clear a10 a11
          go_wp2_with fail
          refine (HA.out _).mono ?_
          rintro e w4 ⟨rfl, hb⟩
          have hbb := hb.alloc hb.size (boxA adT l2 d2)
          have HB4 := Lib.hid (HB3.out.trans (hbb.mono HB3.out.size))
          have HC0x4 := Lib.hid (range_below HC0x3.out HZ0x3.out hbb)
          have HZ0x4 := Lib.hid (Nat.lt_of_lt_of_le HZ0x3.out hbb.size)
          have HC1x4 := Lib.hid (range_below HC1x3.out HZ1x3.out hbb)
          have HZ1x4 := Lib.hid (Nat.lt_of_lt_of_le HZ1x3.out hbb.size)
          have HC2x4 := Lib.hid (new_boxA w4 adT l2 d2)
          have HZ2x4 : Hid (w4.heap.size < (w4.alloc (boxA adT l2 d2)).heap.size) := Lib.hid (by simp)
          clear hb hbb
          obtain ⟨a10, a11⟩ := twoA HC1x4.out
          go_wp2_with fail
          refine (HR.out _).mono ?_
          rintro e w5 ⟨rfl, hb⟩
          have hbb := hb
          have HB5 := Lib.hid (HB4.out.trans (hbb.mono HB4.out.size))
          have HC0x5 := Lib.hid (range_below HC0x4.out HZ0x4.out hbb)
          have HZ0x5 := Lib.hid (Nat.lt_of_lt_of_le HZ0x4.out hbb.size)
          have HC1x5 := Lib.hid (range_below HC1x4.out HZ1x4.out hbb)
          have HZ1x5 := Lib.hid (Nat.lt_of_lt_of_le HZ1x4.out hbb.size)
          have HC2x5 := Lib.hid (range_below HC2x4.out HZ2x4.out hbb)
          have HZ2x5 := Lib.hid (Nat.lt_of_lt_of_le HZ2x4.out hbb.size)
          clear hb hbb
          clear a10 a11
          obtain ⟨a10, a11⟩ := twoA HC1x5.out
          obtain ⟨a20, a21⟩ := twoA HC2x5.out
          go_wp2_with fail
          refine (HR.out _).mono ?_
          rintro e w6 ⟨rfl, hb⟩
          have hbb := hb
          have HB6 := Lib.hid (HB5.out.trans (hbb.mono HB5.out.size))
          have HC0x6 := Lib.hid (range_below HC0x5.out HZ0x5.out hbb)
          have HZ0x6 := Lib.hid (Nat.lt_of_lt_of_le HZ0x5.out hbb.size)
          have HC1x6 := Lib.hid (range_below HC1x5.out HZ1x5.out hbb)
          have HZ1x6 := Lib.hid (Nat.lt_of_lt_of_le HZ1x5.out hbb.size)
          have HC2x6 := Lib.hid (range_below HC2x5.out HZ2x5.out hbb)
          have HZ2x6 := Lib.hid (Nat.lt_of_lt_of_le HZ2x5.out hbb.size)
          clear hb hbb
          clear a10 a11
          clear a20 a21
          go_wp2_with fail
          go_ret
          exact ⟨rfl, HB6.out⟩
        · have HA := Lib.hid (AdPost.calls HPT (l := zS) (d := zS) hp)
          have hne : ((c : Int) == 0) = false := by rw [beq_eq_false_iff_ne]; omega
          clear HPT hr hp hc hrb
          generalize ba (textL ⟨bl l, bl d⟩) = t at *
          have HC0x0 := Lib.hid (new_boxA w arT l d)
          have HZ0x0 : Hid (w.heap.size < (w.alloc (boxA arT l d)).heap.size) := Lib.hid (by simp)
          have HB0 : Hid (Below w.heap.size w (w.alloc (boxA arT l d))) := Lib.hid ((Below.refl _ _).alloc (Nat.le_refl _) _)
          go_enter Tryd.func5, Tryd.ntmps5
          go_wp2_with fail
          refine (HW.out _).mono ?_
          rintro e w1 ⟨rfl, hb⟩
          have hbb := hb
          have HB1 := Lib.hid (HB0.out.trans (hbb.mono HB0.out.size))
          have HC0x1 := Lib.hid (range_below HC0x0.out HZ0x0.out hbb)
          have HZ0x1 := Lib.hid (Nat.lt_of_lt_of_le HZ0x0.out hbb.size)
          clear hb hbb
          obtain ⟨a00, a01⟩ := twoA HC0x1.out
          go_wp2_with fail
          refine (HTO.out _).mono ?_
          rintro e w2 ⟨rfl, hb⟩
          have hbb := hb.alloc hb.size (boxA adT l d)
          have HB2 := Lib.hid (HB1.out.trans (hbb.mono HB1.out.size))
          have HC0x2 := Lib.hid (range_below HC0x1.out HZ0x1.out hbb)
          have HZ0x2 := Lib.hid (Nat.lt_of_lt_of_le HZ0x1.out hbb.size)
          have HC1x2 := Lib.hid (new_boxA w2 adT l d)
          have HZ1x2 : Hid (w2.heap.size < (w2.alloc (boxA adT l d)).heap.size) := Lib.hid (by simp)
          clear hb hbb
          clear a00 a01
          obtain ⟨a10, a11⟩ := twoA HC1x2.out
          go_wp2_with fail
          refine (HT.out _).mono ?_
          rintro e w3 ⟨rfl, hb⟩
          have hbb := hb
          have HB3 := Lib.hid (HB2.out.trans (hbb.mono HB2.out.size))
          have HC0x3 := Lib.hid (range_below HC0x2.out HZ0x2.out hbb)
          have HZ0x3 := Lib.hid (Nat.lt_of_lt_of_le HZ0x2.out hbb.size)
          have HC1x3 := Lib.hid (range_below HC1x2.out HZ1x2.out hbb)
          have HZ1x3 := Lib.hid (Nat.lt_of_lt_of_le HZ1x2.out hbb.size)
          clear hb hbb
          clear a10 a11
          go_wp2_with fail
          refine (HA.out _).mono ?_
          rintro e w4 ⟨rfl, hb⟩
          have hbb := hb.alloc hb.size (boxA adT zS zS)
          have HB4 := Lib.hid (HB3.out.trans (hbb.mono HB3.out.size))
          have HC0x4 := Lib.hid (range_below HC0x3.out HZ0x3.out hbb)
          have HZ0x4 := Lib.hid (Nat.lt_of_lt_of_le HZ0x3.out hbb.size)
          have HC1x4 := Lib.hid (range_below HC1x3.out HZ1x3.out hbb)
          have HZ1x4 := Lib.hid (Nat.lt_of_lt_of_le HZ1x3.out hbb.size)
          have HC2x4 := Lib.hid (new_boxA w4 adT zS zS)
          have HZ2x4 : Hid (w4.heap.size < (w4.alloc (boxA adT zS zS)).heap.size) := Lib.hid (by simp)
          clear hb hbb
          obtain ⟨a10, a11⟩ := twoA HC1x4.out
          go_wp2_with fail
          refine (HR.out _).mono ?_
          rintro e w5 ⟨rfl, hb⟩
          have hbb := hb
          have HB5 := Lib.hid (HB4.out.trans (hbb.mono HB4.out.size))
          have HC0x5 := Lib.hid (range_below HC0x4.out HZ0x4.out hbb)
          have HZ0x5 := Lib.hid (Nat.lt_of_lt_of_le HZ0x4.out hbb.size)
          have HC1x5 := Lib.hid (range_below HC1x4.out HZ1x4.out hbb)
          have HZ1x5 := Lib.hid (Nat.lt_of_lt_of_le HZ1x4.out hbb.size)
          have HC2x5 := Lib.hid (range_below HC2x4.out HZ2x4.out hbb)
          have HZ2x5 := Lib.hid (Nat.lt_of_lt_of_le HZ2x4.out hbb.size)
          clear hb hbb
          clear a10 a11
          obtain ⟨a10, a11⟩ := twoA HC1x5.out
          obtain ⟨a20, a21⟩ := twoA HC2x5.out
          go_wp2_with fail
          refine (HR.out _).mono ?_
          rintro e w6 ⟨rfl, hb⟩
          have hbb := hb
          have HB6 := Lib.hid (HB5.out.trans (hbb.mono HB5.out.size))
          have HC0x6 := Lib.hid (range_below HC0x5.out HZ0x5.out hbb)
          have HZ0x6 := Lib.hid (Nat.lt_of_lt_of_le HZ0x5.out hbb.size)
          have HC1x6 := Lib.hid (range_below HC1x5.out HZ1x5.out hbb)
          have HZ1x6 := Lib.hid (Nat.lt_of_lt_of_le HZ1x5.out hbb.size)
          have HC2x6 := Lib.hid (range_below HC2x5.out HZ2x5.out hbb)
          have HZ2x6 := Lib.hid (Nat.lt_of_lt_of_le HZ2x5.out hbb.size)
          clear hb hbb
          clear a10 a11
          clear a20 a21
          go_wp2_with fail
          go_ret
          exact ⟨rfl, HB6.out⟩
    · have hd2 : decide ((500 : Int) < (d.size : Int)) = true := decide_eq_true (by omega)
      have HC0x0 := Lib.hid (new_boxA w arT l d)
      have HZ0x0 : Hid (w.heap.size < (w.alloc (boxA arT l d)).heap.size) := Lib.hid (by simp)
      have HB0 : Hid (Below w.heap.size w (w.alloc (boxA arT l d))) := Lib.hid ((Below.refl _ _).alloc (Nat.le_refl _) _)
      go_enter Tryd.func5, Tryd.ntmps5
      go_wp2_with fail
      refine (HW.out _).mono ?_
      rintro e w1 ⟨rfl, hb⟩
      have hbb := hb
      have HB1 := Lib.hid (HB0.out.trans (hbb.mono HB0.out.size))
      have HC0x1 := Lib.hid (range_below HC0x0.out HZ0x0.out hbb)
      have HZ0x1 := Lib.hid (Nat.lt_of_lt_of_le HZ0x0.out hbb.size)
      clear hb hbb
      obtain ⟨a00, a01⟩ := twoA HC0x1.out
      go_wp2_with fail
      go_ret
      exact ⟨rfl, HB1.out⟩
  · have hd1 : decide ((500 : Int) < (l.size : Int)) = true := decide_eq_true (by omega)
    have HC0x0 := Lib.hid (new_boxA w arT l d)
    have HZ0x0 : Hid (w.heap.size < (w.alloc (boxA arT l d)).heap.size) := Lib.hid (by simp)
    have HB0 : Hid (Below w.heap.size w (w.alloc (boxA arT l d))) := Lib.hid ((Below.refl _ _).alloc (Nat.le_refl _) _)
    go_enter Tryd.func5, Tryd.ntmps5
    go_wp2_with fail
    refine (HW.out _).mono ?_
    rintro e w1 ⟨rfl, hb⟩
    have hbb := hb
    have HB1 := Lib.hid (HB0.out.trans (hbb.mono HB0.out.size))
    have HC0x1 := Lib.hid (range_below HC0x0.out HZ0x0.out hbb)
    have HZ0x1 := Lib.hid (Nat.lt_of_lt_of_le HZ0x0.out hbb.size)
    clear hb hbb
    obtain ⟨a00, a01⟩ := twoA HC0x1.out
    go_wp2_with fail
    go_ret
    exact ⟨rfl, HB1.out⟩
end Go.Proofs.YtjnadahognmkhaaDoor.Addr
