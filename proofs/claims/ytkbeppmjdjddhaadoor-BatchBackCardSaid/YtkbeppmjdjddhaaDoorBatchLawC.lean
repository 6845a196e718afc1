/-
  Changes told apart; walks of the law BatchPlays.
-/
import Derived.Test.YtkbeppmjdjddhaaDoorBatchLawB
import Derived.Laws.StructEq
namespace Go.Proofs.YtkbeppmjdjddhaaDoor.Batch
open Go Go.RowKit
open Nets (Tab)

theorem chg_eq (a b : Chg) : (if (!(a.key.toList == b.key.toList)) = true then false else if (!(a.val.toList == b.val.toList)) = true then false else if (!(a.gone == b.gone)) = true then false else true) = decide (a = b) := by
  rw [key_eq, key_eq]
  obtain ⟨k, v, g⟩ := a
  obtain ⟨k', v', g'⟩ := b
  by_cases h1 : k = k' <;> by_cases h2 : v = v' <;> by_cases h3 : g = g' <;> simp [h1, h2, h3]
theorem eqIn_chg (w : World) (d : Nat) (a b : Chg) : (Op.equalIn (d + 2) chgT (chV a) (chV b)).run Tryd.prog w = .ok (decide (a = b)) w := by
  have e : (Op.equalIn (d + 1 + 1) chgT (chV a) (chV b)).run Tryd.prog w = _ := run_equalIn_struct w (d + 1) chgT _ _ (by unfold Program.fieldsOf; rw [Tryd.underlying30]) (by kernel_rfl)
  rw [e]
  unfold Program.fieldsOf
  rw [Tryd.underlying30, ← chg_eq]
  simp [Op.eqFields, go_sem]
  by_cases h1 : a.key.toList = b.key.toList <;> by_cases h2 : a.val.toList = b.val.toList <;> by_cases h3 : a.gone = b.gone <;> simp [h1, h2, h3]
theorem eqIn_ref (w : World) (d : Nat) (a b : Chg) : (Op.equalIn (d + 2) refT (chV a) (chV b)).run Tryd.prog w = .ok (decide (a = b)) w := by
  have e : (Op.equalIn (d + 1 + 1) refT (chV a) (chV b)).run Tryd.prog w = _ := run_equalIn_struct w (d + 1) refT _ _ (by unfold Program.fieldsOf; rw [Tryd.underlying33]) (by kernel_rfl)
  rw [e]
  unfold Program.fieldsOf
  rw [Tryd.underlying33, ← chg_eq]
  simp [Op.eqFields, go_sem]
  by_cases h1 : a.key.toList = b.key.toList <;> by_cases h2 : a.val.toList = b.val.toList <;> by_cases h3 : a.gone = b.gone <;> simp [h1, h2, h3]
theorem eql_chg (w : World) (a b : Chg) : (binOp .eql chgT (chV a) (chV b)).run Tryd.prog w = .ok (.bool (decide (a = b))) w := by
  simp only [binOp]
  simp [Op.equal, Op.maxDepth, eqIn_chg w 9998 a b]
theorem neq_chg (w : World) (a b : Chg) : (binOp .neq chgT (chV a) (chV b)).run Tryd.prog w = .ok (.bool (!decide (a = b))) w := by
  simp only [binOp]
  simp [Op.equal, Op.maxDepth, eqIn_chg w 9998 a b]
theorem eql_ref (w : World) (a b : Chg) : (binOp .eql refT (chV a) (chV b)).run Tryd.prog w = .ok (.bool (decide (a = b))) w := by
  simp only [binOp]
  simp [Op.equal, Op.maxDepth, eqIn_ref w 9998 a b]
theorem neq_ref (w : World) (a b : Chg) : (binOp .neq refT (chV a) (chV b)).run Tryd.prog w = .ok (.bool (!decide (a = b))) w := by
  simp only [binOp]
  simp [Op.equal, Op.maxDepth, eqIn_ref w 9998 a b]

/-! Texts of a batch and of the document, the same. -/
/-- A list of texts, read in every world that keeps what is there. -/
def Stays (w : World) (v : Value) (ss : List ByteArray) : Prop := ∀ W, Below w.heap.size w W → Nets.Reads W v ss
set_option maxRecDepth 100000 in
set_option maxHeartbeats 8000000 in
theorem batchPlays_any (v : Value) (l : List Chg) (s : ByteArray) (w : World) (hr : ReadsC w v l) (ho : ∀ c ∈ l, OkC c) (hm : l.length ≤ 9223372036854775807) (_hs : s.size ≤ 9223372036854775807) (hT : Tab w) :
    Calls Tryd.prog 3 #[v, .string s] w fun e w' => e = .returned (.bool true) ∧ Below w.heap.size w w' := by
  have HW := Lib.hid (fun W (hW : Below w.heap.size w W) => (works_any W (hT.below hW)).mono fun e w' he => And.intro he.1 (hW.trans (he.2.mono hW.size)))
  have HL := Lib.hid (fun W (hW : Below w.heap.size w W) => light_any v l W (hr.below hW) ho hm)
  have HMK := Lib.hid (fun W (d : Bt) (hW : Below w.heap.size w W) (hM : Mem W d []) (hB : w.heap.size ≤ d.B) (hl : l.length ≤ 40) => make_any hM hB hW v l hr ho hl)
  have HT := Lib.hid hT
  clear hr hT
  go_enter Tryd.func3, Tryd.ntmps3
  go_wp2_with fail
  refine (new_any w).mono ?_
  rintro e w1 ⟨d, rfl, hp, hB, hm1, hb⟩
  have HM := Lib.hid (And.intro hm1 (And.intro (Nat.le_of_eq hB.symm) hb))
  clear hm1 hb hB hp
  go_wp2_with fail
  refine (HL.out _ HM.out.2.2).mono ?_
  rintro e w2 ⟨b, rfl, hbl, rfl⟩
  have HBL := Lib.hid hbl
  clear hbl
  cases b
  · go_wp2_with fail
    refine (HW.out _ HM.out.2.2).mono ?_
    rintro e w3 ⟨rfl, hb3⟩
    have HB3 := Lib.hid hb3
    clear hb3
    go_wp2_with fail
    go_ret
    exact ⟨rfl, HB3.out⟩
  · have HLL := Lib.hid (HBL.out rfl)
    clear HBL
    go_wp2_with fail
    refine (HMK.out w1 d HM.out.2.2 HM.out.1 HM.out.2.1 HLL.out.1).mono ?_
    rintro e w3 ⟨ov, d3, rfl, hr3, hbe3, hm3, hst3⟩
    have HB3 : Hid (Below w.heap.size w w3) := Lib.hid (HM.out.2.2.trans (hst3.below HM.out.1 HM.out.2.1))
    have hpb : d3.pb = d.pb := hst3.pb
    have HDB : Hid (w.heap.size ≤ d3.B) := Lib.hid (by rw [hst3.B]; exact HM.out.2.1)
    have hG := good_madeL l
    have HF := Lib.hid (madeL_fine HLL.out.2)
    have hln := madeL_length l
    generalize madeL l = Q at *
    have hQ : Q.length ≤ 40 := by have := HLL.out.1; omega
    have HM3 := Lib.hid (And.intro hm3 (And.intro hr3 hG))
    have HGET := Lib.hid (fun W (hW : Below w3.heap.size w3 W) => get_any (hm3.below hW) hG.rise (by omega) s)
    have HFND := Lib.hid (fun W (hW : Below w3.heap.size w3 W) => refFind_any ov Q s W (hr3.below hW) (by omega))
    rw [← hpb]
    clear hr3 hbe3 hm3 hst3 hG hln hpb HLL
    generalize (at? Chg.key s Q).isSome = bb at *
    generalize tells s Q = tc at *
    go_wp2_with fail
    refine (HGET.out _ (Below.refl _ _)).mono ?_
    rintro e w4 ⟨rfl, hb4⟩
    have HB4 := Lib.hid hb4
    have HA4 := Lib.hid (hb4.alloc hb4.size (boxC chgT tc))
    clear hb4
    go_wp2_with fail
    refine (HFND.out _ HA4.out).mono ?_
    rintro e w5 ⟨rfl, hb5⟩
    have HX1 := Lib.hid (range_below (box_at hb5) (by have := hb5.size; simp at this; omega) ((Below.refl _ _).alloc (Nat.le_refl _) (boxC refT tc)))
    have HX2 := Lib.hid (new_box w5 refT tc)
    have HB5 := Lib.hid ((HA4.out.trans (hb5.mono HA4.out.size)).alloc (Nat.le_trans HA4.out.size hb5.size) (boxC refT tc))
    clear hb5
    go_wp2_with fail
    have HC6 : Hid (∀ W, Below (w5.alloc (boxC refT tc)).heap.size (w5.alloc (boxC refT tc)) W → (W.cell? ⟨w4.heap.size, 0, none⟩ = some (.string tc.key) ∧ W.cell? ⟨w4.heap.size, 1, none⟩ = some (.string tc.val) ∧ W.cell? ⟨w4.heap.size, 2, none⟩ = some (.bool tc.gone)) ∧
        (W.cell? ⟨w5.heap.size, 0, none⟩ = some (.string tc.key) ∧ W.cell? ⟨w5.heap.size, 1, none⟩ = some (.string tc.val) ∧ W.cell? ⟨w5.heap.size, 2, none⟩ = some (.bool tc.gone))) := Lib.hid fun W hW => by
      have h1 := three (range_below HX1.out (block_lt_of_cell (three HX1.out).1) hW)
      have h2 := three (range_below HX2.out (block_lt_of_cell (three HX2.out).1) hW)
      simp only [Nat.zero_add] at h1 h2
      exact ⟨h1, h2⟩
    have h36 : ∀ W, Below (w5.alloc (boxC refT tc)).heap.size (w5.alloc (boxC refT tc)) W → Below w3.heap.size w3 W := fun W hW => HB5.out.trans (hW.mono HB5.out.size)
    have HTX : Hid (∀ W, Below (w5.alloc (boxC refT tc)).heap.size (w5.alloc (boxC refT tc)) W → Calls Tryd.prog 16 #[ptr d3.pb] W fun e W' => ∃ u, e = .returned u ∧ Stays W' u (Q.map fun c => ba (writeS c)) ∧ Below W.heap.size W W' ∧ Below (w5.alloc (boxC refT tc)).heap.size (w5.alloc (boxC refT tc)) W') :=
      Lib.hid fun W hW => (texts_walk (HM3.out.1.below (h36 W hW)) (by omega) HF.out (HT.out.below (HB3.out.trans ((h36 W hW).mono HB3.out.size)))).mono fun e W' he => by
        obtain ⟨u, rfl, ho, hb⟩ := he
        exact ⟨u, rfl, fun W2 h2 => (texts_reads ho).below h2, hb, hW.trans (hb.mono hW.size)⟩
    have HRX : Hid (∀ W, Below (w5.alloc (boxC refT tc)).heap.size (w5.alloc (boxC refT tc)) W → Calls Tryd.prog 17 #[ov] W fun e W' => ∃ u, e = .returned u ∧ Stays W' u (Q.map fun c => ba (writeS c)) ∧ Below W.heap.size W W' ∧ Below (w5.alloc (boxC refT tc)).heap.size (w5.alloc (boxC refT tc)) W') :=
      Lib.hid fun W hW => (refTexts_any ov Q W (HM3.out.2.1.below (h36 W hW)) (by omega) HF.out).mono fun e W' he => by
        obtain ⟨u, rfl, ho, hb⟩ := he
        exact ⟨u, rfl, fun W2 h2 => (texts_reads ho).below h2, hb, hW.trans (hb.mono hW.size)⟩
    have HSM : Hid (∀ W x y, Below (w5.alloc (boxC refT tc)).heap.size (w5.alloc (boxC refT tc)) W → Nets.Reads W x (Q.map fun c => ba (writeS c)) → Nets.Reads W y (Q.map fun c => ba (writeS c)) → Calls Tryd.prog 15 #[x, y] W fun e W' => e = .returned (.bool true) ∧ Below (w5.alloc (boxC refT tc)).heap.size (w5.alloc (boxC refT tc)) W') :=
      Lib.hid fun W x y hW hx hy => by
        have := Nets.same_any x y _ _ W hx hy (by simp; omega) (by simp; omega)
        rw [decide_eq_true rfl] at this
        exact this.mono fun e W' he => ⟨he.1, hW.trans (he.2.mono hW.size)⟩
    have HOF : Hid (∀ W c, Below (w5.alloc (boxC refT tc)).heap.size (w5.alloc (boxC refT tc)) W → Calls Tryd.prog 14 #[chV c] W fun e W' => e = .returned (chV c) ∧ Below (w5.alloc (boxC refT tc)).heap.size (w5.alloc (boxC refT tc)) W') :=
      Lib.hid fun W c hW => (of_any c W).mono fun e W' he => ⟨he.1, hW.trans (he.2.mono hW.size)⟩
    have HQR := Lib.hid (fun W => neq_ref W tc tc)
    obtain ⟨⟨x0, x1, x2⟩, y0, y1, y2⟩ := HC6.out _ (Below.refl _ _)
    have hk0 : Below (w5.alloc (boxC refT tc)).heap.size (w5.alloc (boxC refT tc)) (w5.alloc (boxC refT tc)).drew := (Below.refl _ _).drew
    clear h36
    have hq := fun W => HQR.out W
    simp only [decide_true, Bool.not_true] at hq
    go_region_with (first
      | (go_at_call 14; (refine (HOF.out _ tc (by assumption)).mono ?_); rintro e V1 ⟨rfl, hk1⟩; obtain ⟨⟨x0, x1, x2⟩, y0, y1, y2⟩ := HC6.out _ hk1)
      | (go_at_call 16; (refine (HTX.out _ (by assumption)).mono ?_); rintro e V2 ⟨u2, rfl, hs2, hb2, hk2⟩)
      | (go_at_call 17; (refine (HRX.out _ (by assumption)).mono ?_); rintro e V3 ⟨u3, rfl, hs3, hb3, hk3⟩)
      | (go_at_call 15; (refine (HSM.out _ _ _ (by assumption) (by first | exact hs2 _ (Below.refl _ _) | exact hs2 _ hb3) (by first | exact hs3 _ (Below.refl _ _) | exact hs3 _ hb2)).mono ?_); rintro e V4 ⟨rfl, hk4⟩))
    all_goals
      have HK : Hid (Below w3.heap.size w3 V4) := Lib.hid (HB5.out.trans (hk4.mono HB5.out.size))
      clear hk4 hk0
      go_wp2_with fail
      refine (clear_any (HM3.out.1.below HK.out)).mono ?_
      rintro e V5 ⟨rfl, hm5, hst5⟩
      have HM5 := Lib.hid (And.intro hm5 ((HB3.out.trans (HK.out.mono HB3.out.size)).trans (hst5.below (HM3.out.1.below HK.out) HDB.out)))
      clear hm5 hst5
      go_wp2_with fail
      refine (get_any HM5.out.1 good_nil.rise (by simp) s).mono ?_
      rintro e V6 ⟨rfl, hb6⟩
      rw [show at? Chg.key s ([] : List Chg) = none from rfl, show tells s [] = Chg.none from rfl]
      have HM6 := Lib.hid (And.intro ((HM5.out.1.below hb6).alloc (boxC chgT Chg.none)) ((HM5.out.2.trans (hb6.mono HM5.out.2.size)).alloc (Nat.le_trans HM5.out.2.size hb6.size) (boxC chgT Chg.none)))
      clear hb6
      go_wp2_with fail
      refine (len_any HM6.out.1).mono ?_
      rintro e V7 ⟨rfl, rfl⟩
      go_wp2_with fail
      refine (texts_walk HM6.out.1 (by simp) (fun x hx => (by cases hx)) (HT.out.below HM6.out.2)).mono ?_
      rintro e V8 ⟨u8, rfl, ho8, hb8⟩
      obtain ⟨ua, uc, rfl⟩ := owns_slice ho8
      have HB8 := Lib.hid (HM6.out.2.trans (hb8.mono HM6.out.2.size))
      clear ho8 hb8
      go_wp2_with fail
      refine (HW.out _ HB8.out).mono ?_
      rintro e V9 ⟨rfl, hb9⟩
      have HB9 := Lib.hid hb9
      clear hb9
      go_wp2_with fail
      go_ret
      exact ⟨rfl, HB9.out⟩
end Go.Proofs.YtkbeppmjdjddhaaDoor.Batch
