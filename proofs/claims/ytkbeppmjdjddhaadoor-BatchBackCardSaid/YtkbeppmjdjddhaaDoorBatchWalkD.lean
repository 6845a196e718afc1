/-
  Walks of the program's batch: record, Put, Del.
-/
import Derived.Test.YtkbeppmjdjddhaaDoorBatchWalkC
import Derived.Test.YtkbeppmjdjddhaaDoorShaKept
namespace Go.Proofs.YtkbeppmjdjddhaaDoor.Batch
open Go Go.RowKit
open Go.Proofs.YtkbeppmjdjddhaaDoor.Sha (wp_region_drawn_tail)

theorem flat_set : ∀ (q : List Chg) (p : Nat) (x : Chg), p < q.length → (((q.flatMap chC).set (p * 3) (.string x.key)).set (p * 3 + 1) (.string x.val)).set (p * 3 + 2) (.bool x.gone) = (q.set p x).flatMap chC
  | [], p, _, h => by simp at h
  | y :: q, 0, x, _ => by simp [chC]
  | y :: q, p + 1, x, h => by
    have ih := flat_set q p x (by simpa using h)
    have e : (p + 1) * 3 = p * 3 + 3 := by omega
    rw [List.set_cons_succ, List.flatMap_cons, List.flatMap_cons, ← ih, e]
    simp [chC]
section
variable {w : World} {d : Bt} {q : List Chg}
/-- The cells of the change at a place. -/
theorem Mem.at (h : Mem w d q) {p : Nat} {y : Chg} (hp : q[p]? = some y) : ∃ g c, d.cv = .slice (some ⟨g, 0, none⟩) q.length c ∧ w.rangeAt g (p * 3) (chC y) ∧ ∀ j, w.frozen? ⟨g, j, none⟩ = false := by
  have hl : p < q.length := (List.getElem?_eq_some_iff.1 hp).1
  have hc := fun g hg => h.owns.cells (g := g) hg
  rcases h.owns.2 with ⟨_, h0⟩ | ⟨g, c, cur, e, _, hg, _⟩
  · omega
  · refine ⟨g, c, e, fun j v hv => ?_, fun j => frozen_of_row w g j cur chgT hg⟩
    have hj : j < 3 := by
      have := (List.getElem?_eq_some_iff.1 hv).1
      rw [chC_length] at this
      exact this
    have e1 := hc g (by rw [e]; rfl) (p * 3 + j) v (by rw [flat_get q p y hp j hj]; exact hv)
    rw [addr_add, Nat.zero_add] at e1
    exact e1
/-- One change turned in its place. -/
theorem Mem.setAt (h : Mem w d q) {p g c : Nat} (hp : p < q.length) (hv : d.cv = .slice (some ⟨g, 0, none⟩) q.length c) (x : Chg) :
    Mem (((w.setCell ⟨g, p * 3, none⟩ (.string x.key)).setCell ⟨g, p * 3 + 1, none⟩ (.string x.val)).setCell ⟨g, p * 3 + 2, none⟩ (.bool x.gone)) d (q.set p x) := by
  have ho : d.cv.ownBlock = some g := by rw [hv]; rfl
  have hne := h.ne g ho
  have h1 := owns_set (owns_set (owns_set h.owns ho (p * 3) (.string x.key) (by omega)) ho (p * 3 + 1) (.string x.val) (by omega)) ho (p * 3 + 2) (.bool x.gone) (by omega)
  rw [flat_set q p x hp] at h1
  exact ⟨((h.self.other _ (fun e => hne e.symm)).other _ (fun e => hne e.symm)).other _ (fun e => hne e.symm), by rw [List.length_set]; exact h1, h.ne, h.low⟩
theorem Step.setAt {w1 : World} {p g c n : Nat} (h : Below w.heap.size w w1) (hv : d.cv = .slice (some ⟨g, 0, none⟩) n c) (x y z : Value) :
    Step w d (((w1.setCell ⟨g, p * 3, none⟩ x).setCell ⟨g, p * 3 + 1, none⟩ y).setCell ⟨g, p * 3 + 2, none⟩ z) d := by
  have ho : Batch.own d g := .inr (by rw [hv]; rfl)
  exact ⟨(((Fr.of_below (F := Batch.own d) h).setCell (fun _ => ho) x).setCell (fun _ => ho) y).setCell (fun _ => ho) z, rfl, rfl, fun _ hk => .inl hk⟩
end

/-- What a change leaves. -/
def Recorded (w : World) (d : Bt) (q : List Chg) (c : Chg) (e : Ending) (w' : World) : Prop :=
  ∃ d', e = .returned (.int .i64 (code q c : Nat)) ∧ Mem w' d' (made q c) ∧ Step w d w' d'
section
variable {w : World} {d : Bt} {q : List Chg}
set_option maxHeartbeats 2000000 in
theorem record_bad (h : Mem w d q) (c : Chg) (hk : c.key.size ≤ 9223372036854775807) (hv : c.val.size ≤ 9223372036854775807) (hc : chk c ≠ 0) :
    Calls Tryd.prog 40 #[ptr d.pb, chV c] w (Recorded w d q c) := by
  have e1 : code q c = chk c := by unfold code; rw [if_pos hc]
  have e2 : made q c = q := by unfold made; rw [e1, if_neg hc]
  have hle := chk_le c
  have HM := Lib.hid h
  have HE := Lib.hid (And.intro e1 e2)
  have HK := Lib.hid (fun W => check_any c W hk hv (chk c) rfl)
  have hne : (((chk c : Nat) : Int) != 0) = true := by simpa using hc
  clear e1 e2 h hk hv hc
  have hA : Below w.heap.size w (w.alloc (boxC chgT c)) := (Below.refl _ _).alloc (Nat.le_refl _) _
  have HA := Lib.hid hA
  clear hA
  go_enter Tryd.func40, Tryd.ntmps40
  go_wp2_with fail
  refine (HK.out _).mono ?_
  rintro e w1 ⟨rfl, hb1⟩
  have HB := Lib.hid (HA.out.trans (hb1.mono HA.out.size))
  clear hb1
  go_wp2_with fail
  go_ret
  exact ⟨d, by rw [HE.out.1]; rfl, by rw [HE.out.2]; exact HM.out.below HB.out, Step.of_below d HB.out⟩
set_option maxHeartbeats 4000000 in
theorem record_old (h : Mem w d q) (hg : Good q) (c : Chg) (hc : chk c = 0) (y : Chg) (hat : at? Chg.key c.key q = some y) :
    Calls Tryd.prog 40 #[ptr d.pb, chV c] w (Recorded w d q c) := by
  have hz := fits_size hc
  have e1 : code q c = 0 := by unfold code; rw [hc, if_neg (by simp), if_neg (by rw [hat]; simp)]
  have e2 : made q c = q.set (lo Chg.key c.key q) c := by unfold made; rw [e1, if_pos rfl, put_old Chg.key c hg.rise hat]
  obtain ⟨hlt, hpl⟩ := at_there Chg.key hg.rise hat
  have HF := Lib.hid (fun (W : World) (hW : Below w.heap.size w W) => find_any (h.below hW) hg.rise (by have := hg.few; omega) c.key)
  have HK := Lib.hid (fun W => check_any c W (by omega) (by omega) 0 hc)
  have HM := Lib.hid h
  have HE := Lib.hid (And.intro e1 e2)
  have HP := Lib.hid hpl
  rw [hat] at HF
  have hA : Below w.heap.size w (w.alloc (boxC chgT c)) := (Below.refl _ _).alloc (Nat.le_refl _) _
  have HA := Lib.hid hA
  have hfew := hg.few
  generalize lo Chg.key c.key q = p at *
  clear hA e1 e2 h hg hat hpl hc
  go_enter Tryd.func40, Tryd.ntmps40
  go_wp2_with fail
  refine (HK.out _).mono ?_
  rintro e w1 ⟨rfl, hb1⟩
  have hb : Below (w.alloc (boxC chgT c)).heap.size (w.alloc (boxC chgT c)) w1 := hb1
  have HB1 := Lib.hid (HA.out.trans (hb.mono HA.out.size))
  have HL1 : Hid (Lies w1 w.heap.size #[.string c.key, .string c.val, .bool c.gone] chgT) := (hb.block _ (by simp)).trans (heap_alloc_new w _)
  clear hb1 hb
  obtain ⟨x0, x1, x2, _, _, _⟩ := lies3 HL1.out
  go_wp2_with fail
  refine (HF.out _ HB1.out).mono ?_
  rintro e w2 ⟨rfl, hb2⟩
  clear x0 x1 x2
  have HB2 := Lib.hid (HB1.out.trans (hb2.mono HB1.out.size))
  have HL2 : Hid (Lies w2 w.heap.size #[.string c.key, .string c.val, .bool c.gone] chgT) := HL1.out.same (hb2.block _ HL1.out.lt)
  clear hb2
  obtain ⟨x0, x1, x2, _, _, _⟩ := lies3 HL2.out
  have HM2 := Lib.hid (HM.out.below HB2.out)
  have hcv := HM2.out.cell
  obtain ⟨g, cp, ev, hr, hfz⟩ := HM2.out.at HP.out
  have HEV := Lib.hid ev
  rw [ev] at hcv
  obtain ⟨y0, y1, y2⟩ := three hr
  have f0 := hfz (p * 3)
  have f1 := hfz (p * 3 + 1)
  have f2 := hfz (p * 3 + 2)
  clear hr hfz ev
  go_wp2_with fail
  refine wp_region_drawn_tail 7 (by kernel_rfl) (by kernel_rfl) ?_
  simp only [List.take_succ_cons, List.take_zero, List.drop_succ_cons, List.drop_zero]
  repeat (go_big_quiet_step (fail))
  refine wpQuiet_nil ?_
  rintro _ ⟨nq, rfl⟩
  go_wp2
  go_ret
  have hm3 : Mem (w2.drewN nq) d q := HM2.out.below (below_drewN (Below.refl _ _) nq)
  refine ⟨d, by rw [HE.out.1]; rfl, by rw [HE.out.2]; exact hm3.setAt hlt HEV.out c, Step.setAt (below_drewN HB2.out nq) HEV.out _ _ _⟩
set_option maxHeartbeats 4000000 in
theorem record_full (h : Mem w d q) (hg : Good q) (c : Chg) (hc : chk c = 0) (hat : at? Chg.key c.key q = none) (hful : 2000 ≤ q.length) :
    Calls Tryd.prog 40 #[ptr d.pb, chV c] w (Recorded w d q c) := by
  have hz := fits_size hc
  have e1 : code q c = 8 := by unfold code; rw [hc, if_neg (by simp), if_pos ⟨hat, hful⟩]
  have e2 : made q c = q := by unfold made; rw [e1, if_neg (by simp)]
  have HF := Lib.hid (fun (W : World) (hW : Below w.heap.size w W) => find_any (h.below hW) hg.rise (by have := hg.few; omega) c.key)
  have HK := Lib.hid (fun W => check_any c W (by omega) (by omega) 0 hc)
  have HM := Lib.hid h
  have HE := Lib.hid (And.intro e1 e2)
  rw [hat] at HF
  have hA : Below w.heap.size w (w.alloc (boxC chgT c)) := (Below.refl _ _).alloc (Nat.le_refl _) _
  have HA := Lib.hid hA
  have hfew := hg.few
  generalize lo Chg.key c.key q = p at *
  have hd1 : decide ((2000 : Int) ≤ (q.length : Int)) = true := decide_eq_true (by omega)
  have hd2 : decide (2000 ≤ q.length) = true := decide_eq_true hful
  have hd3 : (2000 : Int) ≤ (q.length : Int) := by omega
  clear hA e1 e2 h hg hat hc hz
  go_enter Tryd.func40, Tryd.ntmps40
  go_wp2_with fail
  refine (HK.out _).mono ?_
  rintro e w1 ⟨rfl, hb1⟩
  have hb : Below (w.alloc (boxC chgT c)).heap.size (w.alloc (boxC chgT c)) w1 := hb1
  have HB1 := Lib.hid (HA.out.trans (hb.mono HA.out.size))
  have HL1 : Hid (Lies w1 w.heap.size #[.string c.key, .string c.val, .bool c.gone] chgT) := (hb.block _ (by simp)).trans (heap_alloc_new w _)
  clear hb1 hb
  obtain ⟨x0, x1, x2, _, _, _⟩ := lies3 HL1.out
  go_wp2_with fail
  refine (HF.out _ HB1.out).mono ?_
  rintro e w2 ⟨rfl, hb2⟩
  clear x0 x1 x2
  have HB2 := Lib.hid (HB1.out.trans (hb2.mono HB1.out.size))
  clear hb2
  have HM2 := Lib.hid (HM.out.below HB2.out)
  have hcv := HM2.out.cell
  obtain ⟨a, cp, ev⟩ := owns_slice HM2.out.owns
  rw [ev] at hcv
  clear ev
  go_wp2_with fail
  go_ret
  exact ⟨d, by rw [HE.out.1]; rfl, by rw [HE.out.2]; exact HM2.out, Step.of_below d HB2.out⟩
theorem new_step {a : Option Addr} {cp : Nat} {q' : List Chg} {w3 w4 : World} {v4 : Value} (h3 : Mem w3 d q) (hb3 : Below w.heap.size w w3) (hv : d.cv = .slice a q.length cp) (ho4 : w4.ownsRow d.B chgT 3 v4 q'.length (q'.flatMap chC))
    (hf4 : Fr (fun k => (Value.slice a q.length cp).ownBlock = some k) w3 w4) (hn4 : ∀ k, v4.ownBlock = some k → (Value.slice a q.length cp).ownBlock = some k ∨ w3.heap.size ≤ k) :
    w4.cell? ⟨d.pb, 0, none⟩ = some (.slice a q.length cp) ∧ w4.frozen? ⟨d.pb, 0, none⟩ = false ∧ Mem (w4.setCell ⟨d.pb, 0, none⟩ v4) { d with cv := v4 } q' ∧ Step w d (w4.setCell ⟨d.pb, 0, none⟩ v4) { d with cv := v4 } := by
  have hne : ∀ k, (Value.slice a q.length cp).ownBlock = some k → k ≠ d.pb := fun k hk => h3.ne k (by rw [hv]; exact hk)
  have hL4 : Lies w4 d.pb #[d.cv] batT := h3.self.same (hf4.block _ h3.self.lt fun e => hne _ e rfl)
  have hown : ∀ k, v4.ownBlock = some k → k ≠ d.pb := fun k hk => by
    rcases hn4 k hk with h | h
    · exact hne k h
    · have := h3.self.lt
      omega
  refine ⟨by rw [← hv]; exact hL4.cell 0, hL4.free 0, ⟨hL4.set 0 _, Fr.owns (F := fun k => k = d.pb) ho4 (Fr.one w4 _ _ _) fun k hk e => hown k hk e, hown, h3.low⟩, ⟨?_, rfl, rfl, fun k hk => ?_⟩⟩
  · refine ((Fr.of_below (F := own d) hb3).trans hf4 fun k _ hk => ?_).setCell (fun _ => .inl rfl) _
    exact .inr (by rw [hv]; exact hk)
  · rcases hn4 k hk with h | h
    · exact .inl (by rw [hv]; exact h)
    · exact .inr (Nat.le_trans hb3.size h)
set_option maxHeartbeats 4000000 in
set_option maxRecDepth 100000 in
theorem record_new (h : Mem w d q) (hg : Good q) (c : Chg) (hc : chk c = 0) (hat : at? Chg.key c.key q = none) (hful : q.length < 2000) :
    Calls Tryd.prog 40 #[ptr d.pb, chV c] w (Recorded w d q c) := by
  have hz := fits_size hc
  have e1 : code q c = 0 := by unfold code; rw [hc, if_neg (by simp), if_neg (by omega)]
  have e2 : made q c = insC q (lo Chg.key c.key q) c := by unfold made insC; rw [e1, if_pos rfl, put_new Chg.key c hg.rise hat]
  have hlo := lo_le Chg.key c.key q
  have HF := Lib.hid (fun (W : World) (hW : Below w.heap.size w W) => find_any (h.below hW) hg.rise (by have := hg.few; omega) c.key)
  have HK := Lib.hid (fun W => check_any c W (by omega) (by omega) 0 hc)
  have HM := Lib.hid h
  have HE := Lib.hid (And.intro e1 e2)
  rw [hat] at HF
  have hA : Below w.heap.size w (w.alloc (boxC chgT c)) := (Below.refl _ _).alloc (Nat.le_refl _) _
  have HA := Lib.hid hA
  generalize lo Chg.key c.key q = p at *
  have hd1 : decide ((2000 : Int) ≤ (q.length : Int)) = false := decide_eq_false (by omega)
  have hd2 : decide (2000 ≤ q.length) = false := decide_eq_false (by omega)
  have hd3 : (q.length : Int) < 2000 := by omega
  clear hA e1 e2 h hg hat hc hz
  go_enter Tryd.func40, Tryd.ntmps40
  go_wp2_with fail
  refine (HK.out _).mono ?_
  rintro e w1 ⟨rfl, hb1⟩
  have hb : Below (w.alloc (boxC chgT c)).heap.size (w.alloc (boxC chgT c)) w1 := hb1
  have HB1 := Lib.hid (HA.out.trans (hb.mono HA.out.size))
  have HL1 : Hid (Lies w1 w.heap.size #[.string c.key, .string c.val, .bool c.gone] chgT) := (hb.block _ (by simp)).trans (heap_alloc_new w _)
  clear hb1 hb
  obtain ⟨x0, x1, x2, _, _, _⟩ := lies3 HL1.out
  go_wp2_with fail
  refine (HF.out _ HB1.out).mono ?_
  rintro e w2 ⟨rfl, hb2⟩
  clear x0 x1 x2
  have HB2 := Lib.hid (HB1.out.trans (hb2.mono HB1.out.size))
  have HL2 : Hid (Lies w2 w.heap.size #[.string c.key, .string c.val, .bool c.gone] chgT) := HL1.out.same (hb2.block _ HL1.out.lt)
  clear hb2
  obtain ⟨x0, x1, x2, _, _, _⟩ := lies3 HL2.out
  have HM2 := Lib.hid (HM.out.below HB2.out)
  have hcv := HM2.out.cell
  obtain ⟨a, cp, ev⟩ := owns_slice HM2.out.owns
  have HEV := Lib.hid ev
  rw [ev] at hcv
  clear ev
  go_wp2_with fail
  have hm3 : Mem w2.drew d q := HM2.out.drew
  have HI := Lib.hid (insert_any ((w2.alloc (boxC chgT c)).drew) d.B (.slice a q.length cp) q p c w2.heap.size (by rw [← HEV.out]; exact (HM2.out.alloc (boxC chgT c)).drew.owns) hlo (by omega)
    (by have := (HM2.out.alloc (boxC chgT c)).low; have := (HM2.out.alloc (boxC chgT c)).self.lt; show d.B ≤ (w2.alloc (boxC chgT c)).heap.size; omega) (Lies.new w2 _ _) (fun k hk => by have := (HM2.out.owns.lt k (by rw [HEV.out]; exact hk)).2; omega))
  have HB3 : Hid (Below w.heap.size w ((w2.alloc (boxC chgT c)).drew)) := (HB2.out.alloc (HB2.out.size) _).drew
  have HM3 : Hid (Mem ((w2.alloc (boxC chgT c)).drew) d q) := (HM2.out.alloc (boxC chgT c)).drew
  have HS := Lib.hid (fun (w4 : World) (v4 : Value) (ho4 : w4.ownsRow d.B chgT 3 v4 (insC q p c).length ((insC q p c).flatMap chC)) (hf4 : Fr (fun k => (Value.slice a q.length cp).ownBlock = some k) ((w2.alloc (boxC chgT c)).drew) w4)
      (hn4 : ∀ k, v4.ownBlock = some k → (Value.slice a q.length cp).ownBlock = some k ∨ ((w2.alloc (boxC chgT c)).drew).heap.size ≤ k) => new_step HM3.out HB3.out HEV.out ho4 hf4 hn4)
  clear x0 x1 x2 hm3
  obtain ⟨x0, x1, x2, _, _, _⟩ := lies3 HL2.out
  have hpl := HM2.out.self.lt
  have hpl2 : d.pb ≠ w2.heap.size := by omega
  go_region_with ((go_at_call 52; refine HI.out.mono ?_; rintro e w4 ⟨v4, rfl, ho4, hf4, hn4⟩; obtain ⟨a4, c4, rfl⟩ := owns_slice ho4; obtain ⟨hc4, hz4, hD⟩ := HS.out w4 _ ho4 hf4 hn4; have HD := Lib.hid hD; clear ho4 hf4 hn4 hD))
  all_goals
    go_wp2_with fail
    go_ret
    exact ⟨_, by rw [HE.out.1]; rfl, by rw [HE.out.2]; exact HD.out.1, HD.out.2⟩
theorem record_any (h : Mem w d q) (hg : Good q) (c : Chg) (hk : c.key.size ≤ 9223372036854775807) (hv : c.val.size ≤ 9223372036854775807) :
    Calls Tryd.prog 40 #[ptr d.pb, chV c] w (Recorded w d q c) := by
  by_cases hc : chk c = 0
  · cases hat : at? Chg.key c.key q with
    | none =>
      rcases Nat.lt_or_ge q.length 2000 with hf | hf
      · exact record_new h hg c hc hat hf
      · exact record_full h hg c hc hat hf
    | some y => exact record_old h hg c hc y hat
  · exact record_bad h c hk hv hc
theorem put_any (h : Mem w d q) (hg : Good q) (k v : ByteArray) (hk : k.size ≤ 9223372036854775807) (hv : v.size ≤ 9223372036854775807) :
    Calls Tryd.prog 25 #[ptr d.pb, .string k, .string v] w (Recorded w d q ⟨k, v, false⟩) := by
  have HR := Lib.hid (record_any h hg ⟨k, v, false⟩ hk hv)
  clear h hg
  go_enter Tryd.func25, Tryd.ntmps25
  go_wp2_with fail
  refine HR.out.mono ?_
  rintro e w1 ⟨d', rfl, hm, hs⟩
  have HH := Lib.hid (And.intro hm hs)
  clear hm hs
  go_wp2_with fail
  go_ret
  exact ⟨d', rfl, HH.out.1, HH.out.2⟩
theorem del_any (h : Mem w d q) (hg : Good q) (k : ByteArray) (hk : k.size ≤ 9223372036854775807) :
    Calls Tryd.prog 28 #[ptr d.pb, .string k] w (Recorded w d q ⟨k, ⟨#[]⟩, true⟩) := by
  have HR := Lib.hid (record_any h hg ⟨k, ⟨#[]⟩, true⟩ hk (Nat.zero_le _))
  clear h hg
  go_enter Tryd.func28, Tryd.ntmps28
  go_wp2_with fail
  refine HR.out.mono ?_
  rintro e w1 ⟨d', rfl, hm, hs⟩
  have HH := Lib.hid (And.intro hm hs)
  clear hm hs
  go_wp2_with fail
  go_ret
  exact ⟨d', rfl, HH.out.1, HH.out.2⟩
end
end Go.Proofs.YtkbeppmjdjddhaaDoor.Batch
