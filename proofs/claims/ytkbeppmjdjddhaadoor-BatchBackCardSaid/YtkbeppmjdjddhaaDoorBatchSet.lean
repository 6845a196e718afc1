/-
  Walks of the document's answer: Set.
-/
import Derived.Test.YtkbeppmjdjddhaaDoorBatchRefA
import Derived.Test.YtkbeppmjdjddhaaDoorShaKept
namespace Go.Proofs.YtkbeppmjdjddhaaDoor.Batch
open Go Go.RowKit

theorem less_toList (a b : ByteArray) : Op.bytesLess a.toList b.toList = less a b := by rw [Lib.toList_data, Lib.toList_data]; rfl
def SetAt (w0 : World) (q : List Chg) (e : Chg) (ov pv i : Value) (wr : World) : Prop :=
  ∃ (k : Nat) (u : Value), k ≤ q.length ∧ i = .int .i64 k ∧ pv = .bool (flag Chg.key true e (q.take k)) ∧ u = ov ∧ wr.ownsRow w0.heap.size refT 3 u (outs Chg.key true e (q.take k)).length ((outs Chg.key true e (q.take k)).flatMap chC) ∧ Below w0.heap.size w0 wr
theorem SetAt_step {w0 w2 : World} {q : List Chg} {e x : Chg} {k : Nat} {ov pv : Value} {fl lb : Bool} (L : List Chg) (hkx : q[k]? = some x) (hr : Rising Chg.key q) (hfl : flag Chg.key true e (q.take k) = fl) (hlb : less x.key e.key = lb)
    (hL : L = (if !fl && !lb then outs Chg.key true e (q.take k) ++ [e] else outs Chg.key true e (q.take k)) ++ (if x.key = e.key then [] else [x])) (hp : pv = .bool (fl || !lb))
    (hO : w2.ownsRow w0.heap.size refT 3 ov L.length (L.flatMap chC)) (hb : Below w0.heap.size w0 w2) : SetAt w0 q e ov pv (.int .i64 ((k : Int) + 1)) w2 := by
  have ht : q.take (k + 1) = q.take k ++ [x] := by rw [List.take_add_one, hkx]; rfl
  have hr2 : Rising Chg.key (q.take k ++ [x]) := by rw [← ht]; exact List.Pairwise.sublist (List.take_sublist _ _) hr
  have hlt := (List.getElem?_eq_some_iff.1 hkx).1
  refine ⟨k + 1, ov, by omega, by simp, ?_, rfl, ?_, hb⟩
  · rw [ht, flag_snoc, hfl, hlb]; exact hp
  · rw [ht, outs_snoc Chg.key true e (q.take k) x hr2, hfl, hlb, ← hL]; exact hO
/-- One change, just laid, appended to a list of the call's own. -/
theorem append_ref (w : World) (v : Value) (l : List Chg) (e : Chg) (B : Nat) (ho : w.ownsRow B refT 3 v l.length (l.flatMap chC)) (hl : l.length ≤ 100000) (hB : B ≤ w.heap.size) :
    ∃ v' w', (Builtin.append_ #[refsT, refsT] refsT #[v, .slice (some ⟨w.heap.size, 0, none⟩) 1 1]).run Tryd.prog (w.alloc (boxC refT e)) = .ok v' w' ∧
      Hid (w'.ownsRow B refT 3 v' (l ++ [e]).length ((l ++ [e]).flatMap chC) ∧ Below B w w') := by
  obtain ⟨i0, hi, hz0, hz1, hz2⟩ := info_parts infoR
  obtain ⟨v', w', hr, h2, h3, h4⟩ := run_append_own (P := Tryd.prog) (w.alloc (boxC refT e)) B refsT refsT refT i0 _ 3 40 Tryd.underlying22 hi hz0 hz1 hz2 rfl (by decide) v l.length _ (ho.alloc _) ⟨w.heap.size, 0, none⟩ 1 1 (chC e) rfl (fun j u hu => by rw [addr_add]; exact new_box w refT e j u hu) (one_cell e) (by unfold maxLen; omega) (by omega) (by simp; omega)
  refine ⟨v', w', hr, Lib.hid ⟨?_, ?_⟩⟩
  · rw [flat_snoc, List.length_append]; exact h2
  · have h5 : Below B w (w.alloc (boxC refT e)) := (Below.refl _ _).alloc hB _
    exact h5.grown h3 (by simp; omega) (fun k hk => (ho.lt k hk).1)
/-- The cells of the change in its box, in every world that keeps it. -/
theorem box_cells {w W : World} {e : Chg} (hb : Below (w.alloc (boxC refT e)).heap.size (w.alloc (boxC refT e)) W) : W.rangeAt w.heap.size 0 (chC e) := fun j v hv => by
  rw [hb.cell (p := ⟨w.heap.size, 0 + j, none⟩) (by simp)]
  exact new_box w refT e j v hv
/-- What Set leaves. -/
def SetPost (w : World) (v : Value) (q : List Chg) (e : Chg) (r : Ending) (w' : World) : Prop := ∃ ov, r = .returned (.tuple #[ov, .int .i64 (code q e : Nat)]) ∧ ReadsC w' ov (made q e) ∧ Below w.heap.size w w' ∧ ∀ k, ov.ownBlock = some k → v.ownBlock = some k ∨ (w.heap.size ≤ k ∧ k < w'.heap.size)

set_option maxHeartbeats 4000000 in
theorem set_bad_true (v : Value) (q : List Chg) (k v0 : ByteArray) (e : Chg) (w : World) (he : e = ⟨k, ⟨#[]⟩, true⟩) (h : ReadsC w v q) (_hg : Good q) (hk1 : k.size ≤ 9223372036854775807) (_hv1 : v0.size ≤ 9223372036854775807) (hc : chk e ≠ 0) :
    Calls Tryd.prog 31 #[v, chV ⟨k, v0, true⟩] w (SetPost w v q e) := by
  have hA : Below w.heap.size w (w.alloc (boxC refT e)) := (Below.refl _ _).alloc (Nat.le_refl _) _
  have HA := Lib.hid hA
  have hez : e.key.size ≤ 9223372036854775807 ∧ e.val.size ≤ 9223372036854775807 := by subst he; exact ⟨hk1, Nat.zero_le _⟩
  have e1 : code q e = chk e := by unfold code; rw [if_pos hc]
  have e2 : made q e = q := by unfold made; rw [e1, if_neg hc]
  have HK := Lib.hid (fun W => fits_any e W hez.1 hez.2 (chk e) rfl)
  have hne : (((chk e : Nat) : Int) != 0) = true := by simpa using hc
  have HE := Lib.hid (And.intro e1 e2)
  have HR := Lib.hid h
  have hle := chk_le e
  clear e1 e2 h _hg hA hez hk1 _hv1 hc
  generalize chk e = n at *
  subst he
  go_enter Tryd.func31, Tryd.ntmps31
  go_wp2_with fail
  refine (HK.out _).mono ?_
  rintro r w1 ⟨rfl, hb1⟩
  have HB := Lib.hid (HA.out.trans (hb1.mono HA.out.size))
  clear hb1
  go_wp2_with fail
  go_ret2
  exact ⟨_, by rw [HE.out.1]; rfl, by rw [HE.out.2]; exact HR.out.below HB.out, HB.out, fun _ h => .inl h⟩
set_option maxHeartbeats 4000000 in
theorem set_full_true (v : Value) (q : List Chg) (k v0 : ByteArray) (e : Chg) (w : World) (he : e = ⟨k, ⟨#[]⟩, true⟩) (h : ReadsC w v q) (hg : Good q) (hk1 : k.size ≤ 9223372036854775807) (_hv1 : v0.size ≤ 9223372036854775807) (hc : chk e = 0) (hat : at? Chg.key e.key q = none) (hful : 2000 ≤ q.length) :
    Calls Tryd.prog 31 #[v, chV ⟨k, v0, true⟩] w (SetPost w v q e) := by
  have hA : Below w.heap.size w (w.alloc (boxC refT e)) := (Below.refl _ _).alloc (Nat.le_refl _) _
  have HA := Lib.hid hA
  have hez : e.key.size ≤ 9223372036854775807 ∧ e.val.size ≤ 9223372036854775807 := by subst he; exact ⟨hk1, Nat.zero_le _⟩
  have e1 : code q e = 8 := by unfold code; rw [hc, if_neg (by simp), if_pos ⟨hat, hful⟩]
  have e2 : made q e = q := by unfold made; rw [e1, if_neg (by simp)]
  have HK := Lib.hid (fun W => fits_any e W hez.1 hez.2 0 hc)
  have HF := Lib.hid (fun (W : World) (hW : Below w.heap.size w W) => refFind_any v q e.key W (h.below hW) (by have := hg.few; omega))
  have HR := Lib.hid h
  rw [show tells e.key q = Chg.none by unfold tells; rw [hat], hat] at HF
  have HE := Lib.hid (And.intro e1 e2)
  have hfew := hg.few
  have hd1 : decide ((2000 : Int) ≤ (q.length : Int)) = true := decide_eq_true (by omega)
  have hd2 : decide (2000 ≤ q.length) = true := decide_eq_true hful
  have hd3 : (2000 : Int) ≤ (q.length : Int) := by omega
  obtain ⟨va, vc, rfl⟩ : ∃ a c, v = .slice a q.length c := by
    rcases h with ⟨a, cap, rfl, rfl⟩ | ⟨_, b, off, cap, rfl, _⟩
    · exact ⟨a, cap, rfl⟩
    · exact ⟨_, cap, rfl⟩
  clear e1 e2 h hg hA hez hk1 _hv1 hc hat
  subst he
  go_enter Tryd.func31, Tryd.ntmps31
  go_wp2_with fail
  refine (HK.out _).mono ?_
  rintro r w1 ⟨rfl, hb1⟩
  have HB := Lib.hid (HA.out.trans (hb1.mono HA.out.size))
  obtain ⟨b0, b1, b2⟩ := three (box_cells (w := w) (e := (⟨k, ⟨#[]⟩, true⟩ : Chg)) hb1)
  clear hb1
  go_wp2_with fail
  refine (HF.out _ HB.out).mono ?_
  rintro r w2 ⟨rfl, hb2⟩
  have HB2 := Lib.hid (HB.out.trans (hb2.mono HB.out.size))
  clear hb2 b0 b1 b2
  go_wp2_with fail
  go_ret2
  exact ⟨_, by rw [HE.out.1]; rfl, by rw [HE.out.2]; exact HR.out.below (HB2.out.alloc HB2.out.size _), HB2.out.alloc HB2.out.size _, fun _ h => .inl h⟩
set_option maxHeartbeats 4000000 in
theorem set_bad_false (v : Value) (q : List Chg) (k v0 : ByteArray) (e : Chg) (w : World) (he : e = ⟨k, v0, false⟩) (h : ReadsC w v q) (_hg : Good q) (hk1 : k.size ≤ 9223372036854775807) (hv1 : v0.size ≤ 9223372036854775807) (hc : chk e ≠ 0) :
    Calls Tryd.prog 31 #[v, chV ⟨k, v0, false⟩] w (SetPost w v q e) := by
  have hA : Below w.heap.size w (w.alloc (boxC refT e)) := (Below.refl _ _).alloc (Nat.le_refl _) _
  have HA := Lib.hid hA
  have hez : e.key.size ≤ 9223372036854775807 ∧ e.val.size ≤ 9223372036854775807 := by subst he; exact ⟨hk1, by first | exact hv1 | exact Nat.zero_le _⟩
  have e1 : code q e = chk e := by unfold code; rw [if_pos hc]
  have e2 : made q e = q := by unfold made; rw [e1, if_neg hc]
  have HK := Lib.hid (fun W => fits_any e W hez.1 hez.2 (chk e) rfl)
  have hne : (((chk e : Nat) : Int) != 0) = true := by simpa using hc
  have HE := Lib.hid (And.intro e1 e2)
  have HR := Lib.hid h
  have hle := chk_le e
  clear e1 e2 h _hg hA hez hk1 hv1 hc
  generalize chk e = n at *
  subst he
  go_enter Tryd.func31, Tryd.ntmps31
  go_wp2_with fail
  refine (HK.out _).mono ?_
  rintro r w1 ⟨rfl, hb1⟩
  have HB := Lib.hid (HA.out.trans (hb1.mono HA.out.size))
  clear hb1
  go_wp2_with fail
  go_ret2
  exact ⟨_, by rw [HE.out.1]; rfl, by rw [HE.out.2]; exact HR.out.below HB.out, HB.out, fun _ h => .inl h⟩
set_option maxHeartbeats 4000000 in
theorem set_full_false (v : Value) (q : List Chg) (k v0 : ByteArray) (e : Chg) (w : World) (he : e = ⟨k, v0, false⟩) (h : ReadsC w v q) (hg : Good q) (hk1 : k.size ≤ 9223372036854775807) (hv1 : v0.size ≤ 9223372036854775807) (hc : chk e = 0) (hat : at? Chg.key e.key q = none) (hful : 2000 ≤ q.length) :
    Calls Tryd.prog 31 #[v, chV ⟨k, v0, false⟩] w (SetPost w v q e) := by
  have hA : Below w.heap.size w (w.alloc (boxC refT e)) := (Below.refl _ _).alloc (Nat.le_refl _) _
  have HA := Lib.hid hA
  have hez : e.key.size ≤ 9223372036854775807 ∧ e.val.size ≤ 9223372036854775807 := by subst he; exact ⟨hk1, by first | exact hv1 | exact Nat.zero_le _⟩
  have e1 : code q e = 8 := by unfold code; rw [hc, if_neg (by simp), if_pos ⟨hat, hful⟩]
  have e2 : made q e = q := by unfold made; rw [e1, if_neg (by simp)]
  have HK := Lib.hid (fun W => fits_any e W hez.1 hez.2 0 hc)
  have HF := Lib.hid (fun (W : World) (hW : Below w.heap.size w W) => refFind_any v q e.key W (h.below hW) (by have := hg.few; omega))
  have HR := Lib.hid h
  rw [show tells e.key q = Chg.none by unfold tells; rw [hat], hat] at HF
  have HE := Lib.hid (And.intro e1 e2)
  have hfew := hg.few
  have hd1 : decide ((2000 : Int) ≤ (q.length : Int)) = true := decide_eq_true (by omega)
  have hd2 : decide (2000 ≤ q.length) = true := decide_eq_true hful
  have hd3 : (2000 : Int) ≤ (q.length : Int) := by omega
  obtain ⟨va, vc, rfl⟩ : ∃ a c, v = .slice a q.length c := by
    rcases h with ⟨a, cap, rfl, rfl⟩ | ⟨_, b, off, cap, rfl, _⟩
    · exact ⟨a, cap, rfl⟩
    · exact ⟨_, cap, rfl⟩
  clear e1 e2 h hg hA hez hk1 hv1 hc hat
  subst he
  go_enter Tryd.func31, Tryd.ntmps31
  go_wp2_with fail
  refine (HK.out _).mono ?_
  rintro r w1 ⟨rfl, hb1⟩
  have HB := Lib.hid (HA.out.trans (hb1.mono HA.out.size))
  obtain ⟨b0, b1, b2⟩ := three (box_cells (w := w) (e := (⟨k, v0, false⟩ : Chg)) hb1)
  clear hb1
  go_wp2_with fail
  refine (HF.out _ HB.out).mono ?_
  rintro r w2 ⟨rfl, hb2⟩
  have HB2 := Lib.hid (HB.out.trans (hb2.mono HB.out.size))
  clear hb2 b0 b1 b2
  go_wp2_with fail
  go_ret2
  exact ⟨_, by rw [HE.out.1]; rfl, by rw [HE.out.2]; exact HR.out.below (HB2.out.alloc HB2.out.size _), HB2.out.alloc HB2.out.size _, fun _ h => .inl h⟩
end Go.Proofs.YtkbeppmjdjddhaaDoor.Batch
