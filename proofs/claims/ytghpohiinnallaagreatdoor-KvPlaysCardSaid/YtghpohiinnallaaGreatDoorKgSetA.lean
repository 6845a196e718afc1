/-
  The document's batch, first part.
-/
import Derived.Test.YtghpohiinnallaaGreatDoorKgBatchB
import Derived.Test.YtghpohiinnallaaGreatDoorKgKept

/-
  Walks of the document's answer: Fits, Find, Texts.
-/
namespace Go.Proofs.YtghpohiinnallaaGreatDoor.Batch
open Go Go.RowKit
open Go.Proofs.YtghpohiinnallaaGreatDoor.Nets (Tab Reads str)

set_option maxHeartbeats 1000000 in
theorem fits_any (c : Chg) (w : World) (hk : c.key.size ≤ 9223372036854775807) (hv : c.val.size ≤ 9223372036854775807) (n : Nat) (hn : chk c = n) :
    Calls Tryz.prog 92 #[chV c] w fun e w' => e = .returned (.int .i64 n) ∧ Below w.heap.size w w' := by
  subst hn
  by_cases h0 : c.key.size = 0
  · have e1 : chk c = 3 := by unfold chk; rw [if_pos h0]
    have e2 := emp_true c.key h0
    rw [e1]
    clear e1
    go_enter Tryz.func92, Tryz.ntmps92
    go_wp2
    go_ret
    exact ⟨rfl, (Below.refl _ _).alloc (Nat.le_refl _) _⟩
  · have e2 := emp_false c.key (by omega)
    by_cases h1 : 200 < c.key.size
    · have e1 : chk c = 2 := by unfold chk; rw [if_neg h0, if_pos (.inl h1)]
      rw [e1]
      clear e1
      go_enter Tryz.func92, Tryz.ntmps92
      go_wp2
      go_ret
      exact ⟨rfl, (Below.refl _ _).alloc (Nat.le_refl _) _⟩
    · by_cases h2 : 1048576 < c.val.size
      · have e1 : chk c = 2 := by unfold chk; rw [if_neg h0, if_pos (.inr h2)]
        rw [e1]
        clear e1
        go_enter Tryz.func92, Tryz.ntmps92
        go_wp2
        go_ret
        exact ⟨rfl, (Below.refl _ _).alloc (Nat.le_refl _) _⟩
      · have e1 : chk c = 0 := by unfold chk; rw [if_neg h0, if_neg (by omega)]
        rw [e1]
        clear e1
        go_enter Tryz.func92, Tryz.ntmps92
        go_wp2
        go_ret
        exact ⟨rfl, (Below.refl _ _).alloc (Nat.le_refl _) _⟩

theorem find_hit (n : ByteArray) (q : List Chg) (k : Nat) (e : Chg) (hk : q[k]? = some e) (hn : ∀ x ∈ q.take k, x.key ≠ n) (he : e.key = n) : at? Chg.key n q = some e := by
  have hs : q = q.take k ++ e :: q.drop (k + 1) := by
    obtain ⟨h1, h2⟩ := List.getElem?_eq_some_iff.1 hk
    rw [← h2, List.getElem_cons_drop, List.take_append_drop]
  unfold at?
  rw [hs, List.find?_append, List.find?_eq_none.2 (fun x hx => by simpa using hn x hx)]
  simp [he]
theorem find_miss (n : ByteArray) (q : List Chg) (hn : ∀ x ∈ q, x.key ≠ n) : at? Chg.key n q = none := by
  unfold at?
  exact List.find?_eq_none.2 (fun x hx => by simpa using hn x hx)
theorem take_next {α : Type} {p : α → Prop} {q : List α} {k : Nat} {e : α} (hk : q[k]? = some e) (hn : ∀ x ∈ q.take k, p x) (he : p e) : ∀ x ∈ q.take (k + 1), p x := by
  rw [List.take_add_one, hk]
  intro x hx
  rcases List.mem_append.1 hx with hx | hx
  · exact hn x hx
  · simp at hx
    rw [hx]; exact he
set_option maxHeartbeats 2000000 in
theorem refFind_any (v : Value) (q : List Chg) (n : ByteArray) (w : World) (h : ReadsC w v q) (hf : q.length ≤ 100000) :
    Calls Tryz.prog 93 #[v, .string n] w fun e w' => e = .returned (.tuple #[chV (tells n q), .bool (at? Chg.key n q).isSome]) ∧ Below w.heap.size w w' := by
  have hz : Below w.heap.size w (w.alloc (boxC refT Chg.none)) := (Below.refl _ _).alloc (Nat.le_refl _) _
  rcases h with ⟨a, cap, rfl, rfl⟩ | ⟨h0, b, off, cap, rfl, h3, h4⟩
  · go_enter Tryz.func93, Tryz.ntmps93
    go_wp2_with fail
    go_loopw [6] (fun i wr => i = .int .i64 0 ∧ wr = w.alloc (boxC refT Chg.none)) (fun i _ => 0 - (intOf i).toNat)
    case atStart => exact ⟨rfl, rfl⟩
    case round =>
      obtain ⟨rfl, rfl⟩ := hrel
      go_wp2_with fail
      refine bodyPost_ret (results_two Tryz.results93 _ _ w.heap.size _ rfl (load_ref _ _ refT _ rfl (heap_alloc_new _ _))) rfl ?_
      exact ⟨rfl, hz⟩
  · have HR := Lib.hid h4
    have hlb : b ≠ w.heap.size := by omega
    clear h4
    go_enter Tryz.func93, Tryz.ntmps93
    go_wp2_with fail
    go_loopw [6] (fun i wr => ∃ k : Nat, k ≤ q.length ∧ i = .int .i64 k ∧ (∀ x ∈ q.take k, x.key ≠ n) ∧ wr = w.alloc (boxC refT Chg.none)) (fun i _ => q.length - (intOf i).toNat)
    case atStart => exact ⟨0, Nat.zero_le _, rfl, by simp, rfl⟩
    case round =>
      obtain ⟨k, hk, rfl, hn, rfl⟩ := hrel
      have HN := Lib.hid hn
      clear hn
      by_cases hlt : k < q.length
      · obtain ⟨e, hke⟩ : ∃ e, q[k]? = some e := ⟨q[k], List.getElem?_eq_getElem hlt⟩
        have HE := Lib.hid hke
        obtain ⟨c0, c1, c2⟩ := three (HR.out k e hke)
        clear hke
        by_cases he : e.key = n
        · have hd : (e.key.toList == n.toList) = true := by rw [key_eq]; exact decide_eq_true he
          have hF := find_hit n q k e HE.out HN.out he
          have HF := Lib.hid (And.intro hF (show tells n q = e by unfold tells; rw [hF]))
          clear he hF
          go_wp2_with fail
          rw [HF.out.1, HF.out.2]
          refine bodyPost_ret (results_two Tryz.results93 _ _ w.heap.size _ rfl (load_ref _ _ refT _ rfl (heap_alloc_new _ _))) rfl ?_
          exact ⟨rfl, (Below.refl _ _).alloc (Nat.le_refl _) _⟩
        · have hd : (e.key.toList == n.toList) = false := by rw [key_eq]; exact decide_eq_false he
          have HF := Lib.hid (take_next (p := fun x : Chg => x.key ≠ n) HE.out HN.out he)
          clear he
          go_wp2_with fail
          go_roundw
          case rel => exact ⟨k + 1, by omega, by simp, HF.out, trivial⟩
          case measure => simp [intOf]; omega
      · have hF := find_miss n q (by have h := HN.out; rw [List.take_of_length_le (by omega)] at h; exact h)
        have HF := Lib.hid (And.intro hF (show tells n q = Chg.none by unfold tells; rw [hF]))
        clear hF
        go_wp2_with fail
        rw [HF.out.1, HF.out.2]
        refine bodyPost_ret (results_two Tryz.results93 _ _ w.heap.size _ rfl (load_ref _ _ refT _ rfl (heap_alloc_new _ _))) rfl ?_
        exact ⟨rfl, hz⟩

/-- The texts so far. -/
def RefTextsAt (w : World) (q : List Chg) (v i : Value) (wr : World) : Prop :=
  ∃ k : Nat, k ≤ q.length ∧ i = .int .i64 k ∧ wr.ownsRow w.heap.size strT 1 v (q.take k).length (textV (q.take k)) ∧ Below w.heap.size w wr
set_option maxHeartbeats 2000000 in
theorem refTexts_any (v : Value) (q : List Chg) (w : World) (h : ReadsC w v q) (hl : q.length ≤ 100000) (hf : ∀ x ∈ q, Fine x) :
    Calls Tryz.prog 69 #[v] w fun e w' => ∃ v, e = .returned v ∧ w'.ownsRow w.heap.size strT 1 v q.length (textV q) ∧ Below w.heap.size w w' := by
  obtain ⟨i0, hi, hz0, hz1, hz2⟩ := info_parts Nets.infoString
  rcases h with ⟨a, cap, rfl, rfl⟩ | ⟨h0, b, off, cap, rfl, h3, h4⟩
  · go_enter Tryz.func69, Tryz.ntmps69
    go_wp2_with fail
    go_loopw [3, 4] (fun v i wr => v = .slice none 0 0 ∧ i = .int .i64 0 ∧ wr = w) (fun _ i _ => 0 - (intOf i).toNat)
    case atStart => exact ⟨rfl, rfl, rfl⟩
    case round =>
      obtain ⟨rfl, rfl, rfl⟩ := hrel
      go_wp2_with fail
      go_ret
      exact ⟨_, rfl, World.ownsRow_nil _ _ _ _, Below.refl _ _⟩
  · have HR := Lib.hid (fun (W : World) (hW : Below w.heap.size w W) (k : Nat) (x : Chg) (hx : q[k]? = some x) => three (range_below (h4 k x hx) h3 hW))
    have HF := Lib.hid hf
    clear h4 hf
    go_enter Tryz.func69, Tryz.ntmps69
    go_wp2_with fail
    go_loopw [3, 4] (fun v i wr => RefTextsAt w q v i wr) (fun _ i _ => q.length - (intOf i).toNat)
    case atStart => exact ⟨0, Nat.zero_le _, rfl, World.ownsRow_nil _ _ _ _, Below.refl _ _⟩
    case round =>
      obtain ⟨k, hk, rfl, ho, hb⟩ := hrel
      have HB := Lib.hid hb
      by_cases hlt : k < q.length
      · obtain ⟨x, hx⟩ : ∃ x, q[k]? = some x := ⟨q[k], List.getElem?_eq_getElem hlt⟩
        obtain ⟨c0, c1, c2⟩ := HR.out wr hb k x hx
        have HW := Lib.hid (fun W => refWrite_any x W (HF.out x (List.mem_of_getElem? hx)))
        have ht : q.take (k + 1) = q.take k ++ [x] := by rw [List.take_add_one, hx]; rfl
        have HT := Lib.hid ht
        have htl : (q.take k).length ≤ 100000 := by rw [List.length_take]; omega
        generalize q.take k = p at *
        obtain ⟨pa, pc, rfl⟩ := owns_slice ho
        have HO := Lib.hid ho
        clear ho hb hx ht
        go_wp2_with fail
        refine (HW.out _).mono ?_
        rintro e w2 ⟨rfl, hb2⟩
        have HO2 := Lib.hid (Nets.owns_below HO.out hb2)
        have HB2 := Lib.hid (HB.out.trans (hb2.mono HB.out.size))
        clear hb2
        obtain ⟨v', w3, hr, h5, h6, _⟩ := run_append_own (P := Tryz.prog) (w2.alloc (.cells #[str (writeS x)] strT)) w.heap.size strsT strsT strT i0 _ 1 16 Tryz.underlying28 hi hz0 hz1 hz2 rfl (by decide) _ p.length _ (HO2.out.alloc _) ⟨w2.heap.size, 0, none⟩ 1 1 [str (writeS x)] rfl
          (Nets.new_cell w2 _) (by intro u hu; simp at hu; subst hu; rfl) (by unfold maxLen; omega) (by omega) (by have := HB2.out.size; simp; omega)
        have HA := Lib.hid hr
        have hB3 : Below w.heap.size w w3 := (HB2.out.alloc HB2.out.size _).grown h6 (by have := HB2.out.size; simp; omega) (fun j hj => ((HO2.out.alloc (.cells #[str (writeS x)] strT)).lt j hj).1)
        have e5 : textV (p ++ [x]) = textV p ++ [str (writeS x)] := by simp [textV]
        have HG : Hid (RefTextsAt w q v' (.int .i64 ((k : Int) + 1)) w3) := ⟨k + 1, by omega, by simp, by rw [HT.out, e5, List.length_append]; exact h5, hB3⟩
        clear hr h5 h6 hB3 e5 htl
        go_wp2_with (at_builtin; refine Lib.wpList_append_run _ rfl _ _ _ _ rfl _ _ rfl rfl _ _ HA.out ?_)
        go_roundw
        case rel => exact HG.out
        case measure => simp [intOf]; omega
      · rw [List.take_of_length_le (by omega)] at ho
        have HO := Lib.hid ho
        clear ho hb
        go_wp2_with fail
        go_ret
        exact ⟨_, rfl, HO.out, HB.out⟩
end Go.Proofs.YtghpohiinnallaaGreatDoor.Batch

/-
  Walks of the document's answer: Set.
-/
namespace Go.Proofs.YtghpohiinnallaaGreatDoor.Batch
open Go Go.RowKit

theorem less_toList (a b : ByteArray) : Op.bytesLess a.toList b.toList = less a b := by rw [Lib.toList_data, Lib.toList_data]; rfl
def SetAt (w0 : World) (q : List Chg) (e : Chg) (ov pv i : Value) (wr : World) : Prop :=
  ∃ (k : Nat) (u : Value), k ≤ q.length ∧ i = .int .i64 k ∧ pv = .bool (flag Chg.key true e (q.take k)) ∧ u = ov ∧ wr.ownsRow w0.heap.size refT 3 u (outs Chg.key true e (q.take k)).length ((outs Chg.key true e (q.take k)).flatMap chC) ∧ Below w0.heap.size w0 wr
theorem SetAt_step {w0 w2 : World} {q : List Chg} {e x : Chg} {k : Nat} {ov pv : Value} {fl lb : Bool} (L : List Chg) (hkx : q[k]? = some x) (hr : Rising Chg.key q) (hfl : flag Chg.key true e (q.take k) = fl) (hlb : less x.key e.key = lb)
    (hL : L = (if !fl && !lb then outs Chg.key true e (q.take k) ++ [e] else outs Chg.key true e (q.take k)) ++ (if x.key = e.key then [] else [x])) (hp : pv = .bool (fl || !lb))
    (hO : w2.ownsRow w0.heap.size refT 3 ov L.length (L.flatMap chC)) (hb : Below w0.heap.size w0 w2) : SetAt w0 q e ov pv (.int .i64 ((k : Int) + 1)) w2 := by
  have ht : q.take (k + 1) = q.take k ++ [x] := by rw [List.take_add_one, hkx]; rfl
  have hr2 : Rising Chg.key (q.take k ++ [x]) := by rw [← ht]; exact List.Pairwise.sublist (List.take_sublist _ _) hr
  have hlt := (List.getElem?_eq_some_iff.1 hkx).1
  refine ⟨k + 1, ov, by omega, by simp, ?_, rfl, ?_, hb⟩
  · rw [ht, flag_snoc, hfl, hlb]; exact hp
  · rw [ht, outs_snoc Chg.key true e (q.take k) x hr2, hfl, hlb, ← hL]; exact hO
/-- One change, just laid, appended to a list of the call's own. -/
theorem append_ref (w : World) (v : Value) (l : List Chg) (e : Chg) (B : Nat) (ho : w.ownsRow B refT 3 v l.length (l.flatMap chC)) (hl : l.length ≤ 100000) (hB : B ≤ w.heap.size) :
    ∃ v' w', (Builtin.append_ #[refsT, refsT] refsT #[v, .slice (some ⟨w.heap.size, 0, none⟩) 1 1]).run Tryz.prog (w.alloc (boxC refT e)) = .ok v' w' ∧
      Hid (w'.ownsRow B refT 3 v' (l ++ [e]).length ((l ++ [e]).flatMap chC) ∧ Below B w w') := by
  obtain ⟨i0, hi, hz0, hz1, hz2⟩ := info_parts infoR
  obtain ⟨v', w', hr, h2, h3, h4⟩ := run_append_own (P := Tryz.prog) (w.alloc (boxC refT e)) B refsT refsT refT i0 _ 3 40 Tryz.underlying40 hi hz0 hz1 hz2 rfl (by decide) v l.length _ (ho.alloc _) ⟨w.heap.size, 0, none⟩ 1 1 (chC e) rfl (fun j u hu => by rw [addr_add]; exact new_box w refT e j u hu) (one_cell e) (by unfold maxLen; omega) (by omega) (by simp; omega)
  refine ⟨v', w', hr, Lib.hid ⟨?_, ?_⟩⟩
  · rw [flat_snoc, List.length_append]; exact h2
  · have h5 : Below B w (w.alloc (boxC refT e)) := (Below.refl _ _).alloc hB _
    exact h5.grown h3 (by simp; omega) (fun k hk => (ho.lt k hk).1)
/-- The cells of the change in its box, in every world that keeps it. -/
theorem box_cells {w W : World} {e : Chg} (hb : Below (w.alloc (boxC refT e)).heap.size (w.alloc (boxC refT e)) W) : W.rangeAt w.heap.size 0 (chC e) := fun j v hv => by
  rw [hb.cell (p := ⟨w.heap.size, 0 + j, none⟩) (by simp)]
  exact new_box w refT e j v hv
/-- What Set leaves. -/
def SetPost (w : World) (v : Value) (q : List Chg) (e : Chg) (r : Ending) (w' : World) : Prop := ∃ ov, r = .returned (.tuple #[ov, .int .i64 (code q e : Nat)]) ∧ ReadsC w' ov (made q e) ∧ Below w.heap.size w w' ∧ ∀ k, ov.ownBlock = some k → v.ownBlock = some k ∨ (w.heap.size ≤ k ∧ k < w'.heap.size)

set_option maxHeartbeats 4000000 in
theorem set_bad_true (v : Value) (q : List Chg) (k v0 : ByteArray) (e : Chg) (w : World) (he : e = ⟨k, ⟨#[]⟩, true⟩) (h : ReadsC w v q) (_hg : Good q) (hk1 : k.size ≤ 9223372036854775807) (_hv1 : v0.size ≤ 9223372036854775807) (hc : chk e ≠ 0) :
    Calls Tryz.prog 58 #[v, chV ⟨k, v0, true⟩] w (SetPost w v q e) := by
  have hA : Below w.heap.size w (w.alloc (boxC refT e)) := (Below.refl _ _).alloc (Nat.le_refl _) _
  have HA := Lib.hid hA
  have hez : e.key.size ≤ 9223372036854775807 ∧ e.val.size ≤ 9223372036854775807 := by subst he; exact ⟨hk1, Nat.zero_le _⟩
  have e1 : code q e = chk e := by unfold code; rw [if_pos hc]
  have e2 : made q e = q := by unfold made; rw [e1, if_neg hc]
  have HK := Lib.hid (fun W => fits_any e W hez.1 hez.2 (chk e) rfl)
  have hne : (((chk e : Nat) : Int) != 0) = true := by simpa using hc
  have HE := Lib.hid (And.intro e1 e2)
  have HR := Lib.hid h
  have hle := chk_le e
  clear e1 e2 h _hg hA hez hk1 _hv1 hc
  generalize chk e = n at *
  subst he
  go_enter Tryz.func58, Tryz.ntmps58
  go_wp2_with fail
  refine (HK.out _).mono ?_
  rintro r w1 ⟨rfl, hb1⟩
  have HB := Lib.hid (HA.out.trans (hb1.mono HA.out.size))
  clear hb1
  go_wp2_with fail
  go_ret2
  exact ⟨_, by rw [HE.out.1]; rfl, by rw [HE.out.2]; exact HR.out.below HB.out, HB.out, fun _ h => .inl h⟩
set_option maxHeartbeats 4000000 in
theorem set_full_true (v : Value) (q : List Chg) (k v0 : ByteArray) (e : Chg) (w : World) (he : e = ⟨k, ⟨#[]⟩, true⟩) (h : ReadsC w v q) (hg : Good q) (hk1 : k.size ≤ 9223372036854775807) (_hv1 : v0.size ≤ 9223372036854775807) (hc : chk e = 0) (hat : at? Chg.key e.key q = none) (hful : 2000 ≤ q.length) :
    Calls Tryz.prog 58 #[v, chV ⟨k, v0, true⟩] w (SetPost w v q e) := by
  have hA : Below w.heap.size w (w.alloc (boxC refT e)) := (Below.refl _ _).alloc (Nat.le_refl _) _
  have HA := Lib.hid hA
  have hez : e.key.size ≤ 9223372036854775807 ∧ e.val.size ≤ 9223372036854775807 := by subst he; exact ⟨hk1, Nat.zero_le _⟩
  have e1 : code q e = 8 := by unfold code; rw [hc, if_neg (by simp), if_pos ⟨hat, hful⟩]
  have e2 : made q e = q := by unfold made; rw [e1, if_neg (by simp)]
  have HK := Lib.hid (fun W => fits_any e W hez.1 hez.2 0 hc)
  have HF := Lib.hid (fun (W : World) (hW : Below w.heap.size w W) => refFind_any v q e.key W (h.below hW) (by have := hg.few; omega))
  have HR := Lib.hid h
  rw [show tells e.key q = Chg.none by unfold tells; rw [hat], hat] at HF
  have HE := Lib.hid (And.intro e1 e2)
  have hfew := hg.few
  have hd1 : decide ((2000 : Int) ≤ (q.length : Int)) = true := decide_eq_true (by omega)
  have hd2 : decide (2000 ≤ q.length) = true := decide_eq_true hful
  have hd3 : (2000 : Int) ≤ (q.length : Int) := by omega
  obtain ⟨va, vc, rfl⟩ : ∃ a c, v = .slice a q.length c := by
    rcases h with ⟨a, cap, rfl, rfl⟩ | ⟨_, b, off, cap, rfl, _⟩
    · exact ⟨a, cap, rfl⟩
    · exact ⟨_, cap, rfl⟩
  clear e1 e2 h hg hA hez hk1 _hv1 hc hat
  subst he
  go_enter Tryz.func58, Tryz.ntmps58
  go_wp2_with fail
  refine (HK.out _).mono ?_
  rintro r w1 ⟨rfl, hb1⟩
  have HB := Lib.hid (HA.out.trans (hb1.mono HA.out.size))
  obtain ⟨b0, b1, b2⟩ := three (box_cells (w := w) (e := (⟨k, ⟨#[]⟩, true⟩ : Chg)) hb1)
  clear hb1
  go_wp2_with fail
  refine (HF.out _ HB.out).mono ?_
  rintro r w2 ⟨rfl, hb2⟩
  have HB2 := Lib.hid (HB.out.trans (hb2.mono HB.out.size))
  clear hb2 b0 b1 b2
  go_wp2_with fail
  go_ret2
  exact ⟨_, by rw [HE.out.1]; rfl, by rw [HE.out.2]; exact HR.out.below (HB2.out.alloc HB2.out.size _), HB2.out.alloc HB2.out.size _, fun _ h => .inl h⟩
set_option maxHeartbeats 4000000 in
theorem set_bad_false (v : Value) (q : List Chg) (k v0 : ByteArray) (e : Chg) (w : World) (he : e = ⟨k, v0, false⟩) (h : ReadsC w v q) (_hg : Good q) (hk1 : k.size ≤ 9223372036854775807) (hv1 : v0.size ≤ 9223372036854775807) (hc : chk e ≠ 0) :
    Calls Tryz.prog 58 #[v, chV ⟨k, v0, false⟩] w (SetPost w v q e) := by
  have hA : Below w.heap.size w (w.alloc (boxC refT e)) := (Below.refl _ _).alloc (Nat.le_refl _) _
  have HA := Lib.hid hA
  have hez : e.key.size ≤ 9223372036854775807 ∧ e.val.size ≤ 9223372036854775807 := by subst he; exact ⟨hk1, by first | exact hv1 | exact Nat.zero_le _⟩
  have e1 : code q e = chk e := by unfold code; rw [if_pos hc]
  have e2 : made q e = q := by unfold made; rw [e1, if_neg hc]
  have HK := Lib.hid (fun W => fits_any e W hez.1 hez.2 (chk e) rfl)
  have hne : (((chk e : Nat) : Int) != 0) = true := by simpa using hc
  have HE := Lib.hid (And.intro e1 e2)
  have HR := Lib.hid h
  have hle := chk_le e
  clear e1 e2 h _hg hA hez hk1 hv1 hc
  generalize chk e = n at *
  subst he
  go_enter Tryz.func58, Tryz.ntmps58
  go_wp2_with fail
  refine (HK.out _).mono ?_
  rintro r w1 ⟨rfl, hb1⟩
  have HB := Lib.hid (HA.out.trans (hb1.mono HA.out.size))
  clear hb1
  go_wp2_with fail
  go_ret2
  exact ⟨_, by rw [HE.out.1]; rfl, by rw [HE.out.2]; exact HR.out.below HB.out, HB.out, fun _ h => .inl h⟩
set_option maxHeartbeats 4000000 in
theorem set_full_false (v : Value) (q : List Chg) (k v0 : ByteArray) (e : Chg) (w : World) (he : e = ⟨k, v0, false⟩) (h : ReadsC w v q) (hg : Good q) (hk1 : k.size ≤ 9223372036854775807) (hv1 : v0.size ≤ 9223372036854775807) (hc : chk e = 0) (hat : at? Chg.key e.key q = none) (hful : 2000 ≤ q.length) :
    Calls Tryz.prog 58 #[v, chV ⟨k, v0, false⟩] w (SetPost w v q e) := by
  have hA : Below w.heap.size w (w.alloc (boxC refT e)) := (Below.refl _ _).alloc (Nat.le_refl _) _
  have HA := Lib.hid hA
  have hez : e.key.size ≤ 9223372036854775807 ∧ e.val.size ≤ 9223372036854775807 := by subst he; exact ⟨hk1, by first | exact hv1 | exact Nat.zero_le _⟩
  have e1 : code q e = 8 := by unfold code; rw [hc, if_neg (by simp), if_pos ⟨hat, hful⟩]
  have e2 : made q e = q := by unfold made; rw [e1, if_neg (by simp)]
  have HK := Lib.hid (fun W => fits_any e W hez.1 hez.2 0 hc)
  have HF := Lib.hid (fun (W : World) (hW : Below w.heap.size w W) => refFind_any v q e.key W (h.below hW) (by have := hg.few; omega))
  have HR := Lib.hid h
  rw [show tells e.key q = Chg.none by unfold tells; rw [hat], hat] at HF
  have HE := Lib.hid (And.intro e1 e2)
  have hfew := hg.few
  have hd1 : decide ((2000 : Int) ≤ (q.length : Int)) = true := decide_eq_true (by omega)
  have hd2 : decide (2000 ≤ q.length) = true := decide_eq_true hful
  have hd3 : (2000 : Int) ≤ (q.length : Int) := by omega
  obtain ⟨va, vc, rfl⟩ : ∃ a c, v = .slice a q.length c := by
    rcases h with ⟨a, cap, rfl, rfl⟩ | ⟨_, b, off, cap, rfl, _⟩
    · exact ⟨a, cap, rfl⟩
    · exact ⟨_, cap, rfl⟩
  clear e1 e2 h hg hA hez hk1 hv1 hc hat
  subst he
  go_enter Tryz.func58, Tryz.ntmps58
  go_wp2_with fail
  refine (HK.out _).mono ?_
  rintro r w1 ⟨rfl, hb1⟩
  have HB := Lib.hid (HA.out.trans (hb1.mono HA.out.size))
  obtain ⟨b0, b1, b2⟩ := three (box_cells (w := w) (e := (⟨k, v0, false⟩ : Chg)) hb1)
  clear hb1
  go_wp2_with fail
  refine (HF.out _ HB.out).mono ?_
  rintro r w2 ⟨rfl, hb2⟩
  have HB2 := Lib.hid (HB.out.trans (hb2.mono HB.out.size))
  clear hb2 b0 b1 b2
  go_wp2_with fail
  go_ret2
  exact ⟨_, by rw [HE.out.1]; rfl, by rw [HE.out.2]; exact HR.out.below (HB2.out.alloc HB2.out.size _), HB2.out.alloc HB2.out.size _, fun _ h => .inl h⟩
end Go.Proofs.YtghpohiinnallaaGreatDoor.Batch

/-
  Walks of the document's answer: Set, one way of four.
-/
namespace Go.Proofs.YtghpohiinnallaaGreatDoor.Batch
open Go Go.RowKit

set_option maxHeartbeats 8000000 in
theorem set_new_true (v : Value) (q : List Chg) (k v0 : ByteArray) (e : Chg) (w : World) (he : e = ⟨k, ⟨#[]⟩, true⟩) (h : ReadsC w v q) (hg : Good q) (hk1 : k.size ≤ 9223372036854775807) (_hv1 : v0.size ≤ 9223372036854775807) (hc : chk e = 0) (hat : at? Chg.key e.key q = none) (hful : q.length < 2000) :
    Calls Tryz.prog 58 #[v, chV ⟨k, v0, true⟩] w (SetPost w v q e) := by
  have hA : Below w.heap.size w (w.alloc (boxC refT e)) := (Below.refl _ _).alloc (Nat.le_refl _) _
  have HA := Lib.hid hA
  have hez : e.key.size ≤ 9223372036854775807 ∧ e.val.size ≤ 9223372036854775807 := by subst he; exact ⟨hk1, Nat.zero_le _⟩
  have e1 : code q e = 0 := by unfold code; rw [hc, if_neg (by simp), if_neg (by omega)]
  have e2 : made q e = put Chg.key e q := by unfold made; rw [e1, if_pos rfl]
  have HK := Lib.hid (fun W => fits_any e W hez.1 hez.2 0 hc)
  have HF := Lib.hid (fun (W : World) (hW : Below w.heap.size w W) => refFind_any v q e.key W (h.below hW) (by have := hg.few; omega))
  have HR := Lib.hid h
  rw [show tells e.key q = Chg.none by unfold tells; rw [hat], hat] at HF
  have hd1 : decide ((2000 : Int) ≤ (q.length : Int)) = false := decide_eq_false (by omega)
  have hd2 : decide (2000 ≤ q.length) = false := decide_eq_false (by omega)
  have hd3 : (q.length : Int) < 2000 := by omega
  have HE := Lib.hid (And.intro e1 e2)
  have HFEW : Hid (q.length ≤ 2000) := Lib.hid hg.few
  have HRI := Lib.hid hg.rise
  have hend := outs_end Chg.key true e q
  unfold sets at hend
  rw [if_pos rfl] at hend
  have HEND := Lib.hid hend
  clear e1 e2 hg hA hez hk1 _hv1 hc hat hend
  subst he
  rcases h with ⟨a, cap, rfl, rfl⟩ | ⟨h0, b, off, cap, rfl, h3, h4⟩
  · go_enter Tryz.func58, Tryz.ntmps58
    go_wp2_with fail
    refine (HK.out _).mono ?_
    rintro r w1 ⟨rfl, hb1⟩
    have HB := Lib.hid (HA.out.trans (hb1.mono HA.out.size))
    have HX := Lib.hid (box_cells (w := w) (e := (⟨k, ⟨#[]⟩, true⟩ : Chg)) hb1)
    clear hb1
    obtain ⟨b0, b1, b2⟩ := three HX.out
    go_wp2_with fail
    refine (HF.out _ HB.out).mono ?_
    rintro r w2 ⟨rfl, hb2⟩
    have HX2 := Lib.hid (range_below HX.out (by have := HA.out.size; have := HB.out.size; exact block_lt_of_cell b0) hb2)
    have HB2 := Lib.hid (HB.out.trans (hb2.mono HB.out.size))
    clear hb2 b0 b1 b2
    have hw2 : w.heap.size < w2.heap.size := block_lt_of_cell (three HX2.out).1
    have hws : (w2.alloc (boxC refT Chg.none)).heap.size = w2.heap.size + 1 := by simp
    have HWL := Lib.hid (HB2.out.alloc HB2.out.size (boxC refT Chg.none))
    have HXL := Lib.hid (range_below HX2.out hw2 ((Below.refl w2.heap.size w2).alloc (Nat.le_refl _) (boxC refT Chg.none)))
    obtain ⟨b0, b1, b2⟩ := three HXL.out
    simp only [Nat.zero_add] at b1 b2
    obtain ⟨v1, w9, hr1, hh1⟩ := append_ref (w2.alloc (boxC refT Chg.none)) (.slice none 0 0) [] (⟨k, ⟨#[]⟩, true⟩ : Chg) w.heap.size (World.ownsRow_nil _ _ _ _) (Nat.zero_le _) HWL.out.size
    have HR1 := Lib.hid hr1
    clear hr1
    rw [hws] at HR1
    go_wp2_with fail
    go_loopw [9, 10, 11] (fun ov pv i wr => ov = .slice none 0 0 ∧ pv = .bool false ∧ i = .int .i64 0 ∧ wr = (w2.alloc (boxC refT Chg.none))) (fun _ _ i _ => 0 - (intOf i).toNat)
    case atStart => exact ⟨rfl, rfl, rfl, rfl⟩
    case round =>
      obtain ⟨rfl, rfl, rfl, rfl⟩ := hrel
      go_wp2_with (at_builtin; refine Lib.wpList_append_run _ rfl _ _ _ _ rfl _ _ rfl rfl _ _ HR1.out ?_)
      go_ret2
      exact ⟨_, by rw [HE.out.1]; rfl, by rw [HE.out.2]; exact owns_reads hh1.out.1, HWL.out.trans (hh1.out.2.mono (by omega)), fun k hk => .inr (hh1.out.1.lt k hk)⟩
  · have HC := Lib.hid h4
    clear h4
    go_enter Tryz.func58, Tryz.ntmps58
    go_wp2_with fail
    refine (HK.out _).mono ?_
    rintro r w1 ⟨rfl, hb1⟩
    have HB := Lib.hid (HA.out.trans (hb1.mono HA.out.size))
    have HX := Lib.hid (box_cells (w := w) (e := (⟨k, ⟨#[]⟩, true⟩ : Chg)) hb1)
    clear hb1
    obtain ⟨b0, b1, b2⟩ := three HX.out
    go_wp2_with fail
    refine (HF.out _ HB.out).mono ?_
    rintro r w2 ⟨rfl, hb2⟩
    have HX2 := Lib.hid (range_below HX.out (by have := HA.out.size; have := HB.out.size; exact block_lt_of_cell b0) hb2)
    have HB2 := Lib.hid (HB.out.trans (hb2.mono HB.out.size))
    clear hb2 b0 b1 b2
    have hw2 : w.heap.size < w2.heap.size := block_lt_of_cell (three HX2.out).1
    have hws : (w2.alloc (boxC refT Chg.none)).heap.size = w2.heap.size + 1 := by simp
    have HWL := Lib.hid (HB2.out.alloc HB2.out.size (boxC refT Chg.none))
    have HXL := Lib.hid (range_below HX2.out hw2 ((Below.refl w2.heap.size w2).alloc (Nat.le_refl _) (boxC refT Chg.none)))
    obtain ⟨b0, b1, b2⟩ := three HXL.out
    simp only [Nat.zero_add] at b1 b2
    have hbl2 : b < w2.heap.size := Nat.lt_of_lt_of_le h3 HB2.out.size
    have HCL := Lib.hid (fun (W : World) (hW : Below (w2.alloc (boxC refT Chg.none)).heap.size (w2.alloc (boxC refT Chg.none)) W) (k : Nat) (x : Chg) (hx : q[k]? = some x) => three (range_below (range_below (HC.out k x hx) h3 HWL.out) (by omega) hW))
    have HXW := Lib.hid (fun (W : World) (hW : Below (w2.alloc (boxC refT Chg.none)).heap.size (w2.alloc (boxC refT Chg.none)) W) => three (range_below HXL.out (by omega) hW))
    clear h3 hbl2
    go_wp2_with fail
    clear b0 b1 b2
    go_loopw [9, 10, 11] (fun ov pv i wr => SetAt (w2.alloc (boxC refT Chg.none)) q (⟨k, ⟨#[]⟩, true⟩ : Chg) ov pv i wr) (fun _ _ i _ => q.length - (intOf i).toNat)
    case atStart => exact ⟨0, _, Nat.zero_le _, rfl, rfl, rfl, by rw [List.take_zero, outs_nil]; exact World.ownsRow_nil _ _ _ _, Below.refl _ _⟩
    case round =>
      obtain ⟨k1, ov, hk, rfl, rfl, rfl, hO, hb⟩ := hrel
      have HO := Lib.hid hO
      have hln := outs_length Chg.key true (⟨k, ⟨#[]⟩, true⟩ : Chg) (q.take k1)
      have HLN : Hid ((outs Chg.key true (⟨k, ⟨#[]⟩, true⟩ : Chg) (q.take k1)).length ≤ 2001) := by have := HFEW.out; rw [List.length_take] at hln; exact Lib.hid (by omega)
      have hbs := hb.size
      rw [hws] at hbs
      have HBB := Lib.hid hb
      clear hln hO hb
      by_cases hlt : k1 < q.length
      · obtain ⟨x, hkx⟩ : ∃ x, q[k1]? = some x := ⟨q[k1], List.getElem?_eq_getElem hlt⟩
        have HX1 := Lib.hid hkx
        have HCK := Lib.hid (fun (W : World) (hW : Below (w2.alloc (boxC refT Chg.none)).heap.size (w2.alloc (boxC refT Chg.none)) W) => HCL.out W hW k1 x hkx)
        have hle := less_toList x.key k
        have hee := key_eq x.key k
        clear hkx
        obtain ⟨b0, b1, b2⟩ := HXW.out wr HBB.out
        obtain ⟨c0, c1, c2⟩ := HCK.out wr HBB.out
        simp only [Nat.zero_add] at b1 b2
        cases hfl : flag Chg.key true (⟨k, ⟨#[]⟩, true⟩ : Chg) (q.take k1)
        · cases hlb : less x.key k
          · rw [hlb] at hle
            go_wp2_with fail
            go_quiet (fail)
            obtain ⟨v1, w3, hr1, hh1⟩ := append_ref (wr.drewN nq) ov _ (⟨k, ⟨#[]⟩, true⟩ : Chg) _ HO.out (by have := HLN.out; omega) (by simp; omega)
            have HR1 := Lib.hid hr1
            clear hr1
            go_wp2_with (at_builtin; refine Lib.wpList_append_run _ rfl _ _ _ _ rfl _ _ rfl rfl _ _ HR1.out ?_)
            have hB1 : Below (w2.alloc (boxC refT Chg.none)).heap.size (w2.alloc (boxC refT Chg.none)) w3 := (below_drewN HBB.out nq).trans hh1.out.2
            have hs1 := hB1.size
            have HB1 := Lib.hid hB1
            clear hB1 b0 b1 b2 c0 c1 c2
            obtain ⟨b0, b1, b2⟩ := HXW.out w3 HB1.out
            obtain ⟨c0, c1, c2⟩ := HCK.out w3 HB1.out
            simp only [Nat.zero_add] at b1 b2
            by_cases he : x.key = k
            · have hne : (x.key.toList == k.toList) = true := by rw [hee]; exact decide_eq_true he
              go_quiet (fail)
              go_wp2_with fail
              go_roundw
              case rel =>
                refine SetAt_step (fl := false) (lb := false) (L := outs Chg.key true (⟨k, ⟨#[]⟩, true⟩ : Chg) (q.take k1) ++ [(⟨k, ⟨#[]⟩, true⟩ : Chg)]) HX1.out HRI.out hfl hlb ?_ ?_ ?_ ?_
                · rw [if_pos he]; simp
                · rfl
                · exact hh1.out.1
                · exact below_drewN (HB1.out) _
              case measure => simp [intOf]; omega
            · have hne : (x.key.toList == k.toList) = false := by rw [hee]; exact decide_eq_false he
              go_quiet (fail)
              obtain ⟨v2, w4, hr2, hh2⟩ := append_ref (w3.drewN nq) v1 (outs Chg.key true (⟨k, ⟨#[]⟩, true⟩ : Chg) (q.take k1) ++ [(⟨k, ⟨#[]⟩, true⟩ : Chg)]) x (w2.alloc (boxC refT Chg.none)).heap.size (hh1.out.1) (by have := HLN.out; simp; omega) (by simpa using hs1)
              have HR2 := Lib.hid hr2
              clear hr2
              go_wp2_with (at_builtin; refine Lib.wpList_append_run _ rfl _ _ _ _ rfl _ _ rfl rfl _ _ HR2.out ?_)
              go_roundw
              case rel =>
                refine SetAt_step (fl := false) (lb := false) (L := outs Chg.key true (⟨k, ⟨#[]⟩, true⟩ : Chg) (q.take k1) ++ [(⟨k, ⟨#[]⟩, true⟩ : Chg)] ++ [x]) HX1.out HRI.out hfl hlb ?_ ?_ ?_ ?_
                · rw [if_neg he]; simp
                · rfl
                · exact hh2.out.1
                · exact (below_drewN (HB1.out) _).trans hh2.out.2
              case measure => simp [intOf]; omega
          · rw [hlb] at hle
            have hxe : x.key ≠ k := fun h => by rw [h, less_irrefl] at hlb; cases hlb
            go_wp2_with fail
            go_quiet (fail)
            revert nq
            intro n1
            go_wp2_with fail
            have hne : (x.key.toList == k.toList) = false := by rw [hee]; exact decide_eq_false hxe
            go_quiet (fail)
            obtain ⟨v2, w3, hr2, hh2⟩ := append_ref (wr.drewN (n1 + nq)) ov (outs Chg.key true (⟨k, ⟨#[]⟩, true⟩ : Chg) (q.take k1)) x (w2.alloc (boxC refT Chg.none)).heap.size HO.out (by have := HLN.out; omega) (by simp; omega)
            have HR2 := Lib.hid hr2
            clear hr2
            go_wp2_with (at_builtin; refine Lib.wpList_append_run _ rfl _ _ _ _ rfl _ _ rfl rfl _ _ HR2.out ?_)
            go_roundw
            case rel =>
              refine SetAt_step (fl := false) (lb := true) (L := outs Chg.key true (⟨k, ⟨#[]⟩, true⟩ : Chg) (q.take k1) ++ [x]) HX1.out HRI.out hfl hlb ?_ ?_ ?_ ?_
              · rw [if_neg hxe]; simp
              · rfl
              · exact hh2.out.1
              · exact (below_drewN HBB.out _).trans hh2.out.2
            case measure => simp [intOf]; omega
        · clear hle
          go_wp2_with fail
          go_quiet (fail)
          revert nq
          intro n1
          go_wp2_with fail
          by_cases he : x.key = k
          · have hne : (x.key.toList == k.toList) = true := by rw [hee]; exact decide_eq_true he
            go_quiet (fail)
            go_wp2_with fail
            go_roundw
            case rel =>
              refine SetAt_step (fl := true) (lb := less x.key k) (L := outs Chg.key true (⟨k, ⟨#[]⟩, true⟩ : Chg) (q.take k1)) HX1.out HRI.out hfl rfl ?_ ?_ ?_ ?_
              · rw [if_pos he]; simp
              · rfl
              · exact HO.out
              · exact below_drewN (HBB.out) _
            case measure => simp [intOf]; omega
          · have hne : (x.key.toList == k.toList) = false := by rw [hee]; exact decide_eq_false he
            go_quiet (fail)
            obtain ⟨v2, w3, hr2, hh2⟩ := append_ref (wr.drewN (n1 + nq)) ov (outs Chg.key true (⟨k, ⟨#[]⟩, true⟩ : Chg) (q.take k1)) x (w2.alloc (boxC refT Chg.none)).heap.size (HO.out) (by have := HLN.out; omega) (by simpa using (show w2.heap.size + 1 ≤ wr.heap.size from hbs))
            have HR2 := Lib.hid hr2
            clear hr2
            go_wp2_with (at_builtin; refine Lib.wpList_append_run _ rfl _ _ _ _ rfl _ _ rfl rfl _ _ HR2.out ?_)
            go_roundw
            case rel =>
              refine SetAt_step (fl := true) (lb := less x.key k) (L := outs Chg.key true (⟨k, ⟨#[]⟩, true⟩ : Chg) (q.take k1) ++ [x]) HX1.out HRI.out hfl rfl ?_ ?_ ?_ ?_
              · rw [if_neg he]; simp
              · rfl
              · exact hh2.out.1
              · exact (below_drewN (HBB.out) _).trans hh2.out.2
            case measure => simp [intOf]; omega
      · have htk : q.take k1 = q := List.take_of_length_le (by omega)
        rw [htk] at HO HLN ⊢
        have HOO := Lib.hid (ownsRow_base_a HO.out (base' := w.heap.size) (by omega))
        have hsw : w.heap.size ≤ wr.heap.size := by omega
        obtain ⟨b0, b1, b2⟩ := HXW.out wr HBB.out
        simp only [Nat.zero_add] at b1 b2
        cases hfl : flag Chg.key true (⟨k, ⟨#[]⟩, true⟩ : Chg) q
        · obtain ⟨v1, w3, hr1, hh1⟩ := append_ref wr ov _ (⟨k, ⟨#[]⟩, true⟩ : Chg) w.heap.size HOO.out (by have := HLN.out; omega) hsw
          have HR1 := Lib.hid hr1
          clear hr1
          go_wp2_with (at_builtin; refine Lib.wpList_append_run _ rfl _ _ _ _ rfl _ _ rfl rfl _ _ HR1.out ?_)
          go_ret2
          refine ⟨_, by rw [HE.out.1]; rfl, ?_, (HWL.out.trans (HBB.out.mono (by omega))).trans hh1.out.2, fun k hk => .inr (hh1.out.1.lt k hk)⟩
          rw [HE.out.2, HEND.out, hfl]
          exact owns_reads hh1.out.1
        · go_wp2_with fail
          go_ret2
          refine ⟨_, by rw [HE.out.1]; rfl, ?_, HWL.out.trans (HBB.out.mono (by omega)), fun k hk => .inr (HOO.out.lt k hk)⟩
          rw [HE.out.2, HEND.out, hfl]
          exact owns_reads HOO.out
end Go.Proofs.YtghpohiinnallaaGreatDoor.Batch

/-
  Walks of the document's answer: Set, one way of four.
-/
namespace Go.Proofs.YtghpohiinnallaaGreatDoor.Batch
open Go Go.RowKit

set_option maxHeartbeats 8000000 in
theorem set_new_false (v : Value) (q : List Chg) (k v0 : ByteArray) (e : Chg) (w : World) (he : e = ⟨k, v0, false⟩) (h : ReadsC w v q) (hg : Good q) (hk1 : k.size ≤ 9223372036854775807) (hv1 : v0.size ≤ 9223372036854775807) (hc : chk e = 0) (hat : at? Chg.key e.key q = none) (hful : q.length < 2000) :
    Calls Tryz.prog 58 #[v, chV ⟨k, v0, false⟩] w (SetPost w v q e) := by
  have hA : Below w.heap.size w (w.alloc (boxC refT e)) := (Below.refl _ _).alloc (Nat.le_refl _) _
  have HA := Lib.hid hA
  have hez : e.key.size ≤ 9223372036854775807 ∧ e.val.size ≤ 9223372036854775807 := by subst he; exact ⟨hk1, by first | exact hv1 | exact Nat.zero_le _⟩
  have e1 : code q e = 0 := by unfold code; rw [hc, if_neg (by simp), if_neg (by omega)]
  have e2 : made q e = put Chg.key e q := by unfold made; rw [e1, if_pos rfl]
  have HK := Lib.hid (fun W => fits_any e W hez.1 hez.2 0 hc)
  have HF := Lib.hid (fun (W : World) (hW : Below w.heap.size w W) => refFind_any v q e.key W (h.below hW) (by have := hg.few; omega))
  have HR := Lib.hid h
  rw [show tells e.key q = Chg.none by unfold tells; rw [hat], hat] at HF
  have hd1 : decide ((2000 : Int) ≤ (q.length : Int)) = false := decide_eq_false (by omega)
  have hd2 : decide (2000 ≤ q.length) = false := decide_eq_false (by omega)
  have hd3 : (q.length : Int) < 2000 := by omega
  have HE := Lib.hid (And.intro e1 e2)
  have HFEW : Hid (q.length ≤ 2000) := Lib.hid hg.few
  have HRI := Lib.hid hg.rise
  have hend := outs_end Chg.key true e q
  unfold sets at hend
  rw [if_pos rfl] at hend
  have HEND := Lib.hid hend
  clear e1 e2 hg hA hez hk1 hv1 hc hat hend
  subst he
  rcases h with ⟨a, cap, rfl, rfl⟩ | ⟨h0, b, off, cap, rfl, h3, h4⟩
  · go_enter Tryz.func58, Tryz.ntmps58
    go_wp2_with fail
    refine (HK.out _).mono ?_
    rintro r w1 ⟨rfl, hb1⟩
    have HB := Lib.hid (HA.out.trans (hb1.mono HA.out.size))
    have HX := Lib.hid (box_cells (w := w) (e := (⟨k, v0, false⟩ : Chg)) hb1)
    clear hb1
    obtain ⟨b0, b1, b2⟩ := three HX.out
    go_wp2_with fail
    refine (HF.out _ HB.out).mono ?_
    rintro r w2 ⟨rfl, hb2⟩
    have HX2 := Lib.hid (range_below HX.out (by have := HA.out.size; have := HB.out.size; exact block_lt_of_cell b0) hb2)
    have HB2 := Lib.hid (HB.out.trans (hb2.mono HB.out.size))
    clear hb2 b0 b1 b2
    have hw2 : w.heap.size < w2.heap.size := block_lt_of_cell (three HX2.out).1
    have hws : (w2.alloc (boxC refT Chg.none)).heap.size = w2.heap.size + 1 := by simp
    have HWL := Lib.hid (HB2.out.alloc HB2.out.size (boxC refT Chg.none))
    have HXL := Lib.hid (range_below HX2.out hw2 ((Below.refl w2.heap.size w2).alloc (Nat.le_refl _) (boxC refT Chg.none)))
    obtain ⟨b0, b1, b2⟩ := three HXL.out
    simp only [Nat.zero_add] at b1 b2
    obtain ⟨v1, w9, hr1, hh1⟩ := append_ref (w2.alloc (boxC refT Chg.none)) (.slice none 0 0) [] (⟨k, v0, false⟩ : Chg) w.heap.size (World.ownsRow_nil _ _ _ _) (Nat.zero_le _) HWL.out.size
    have HR1 := Lib.hid hr1
    clear hr1
    rw [hws] at HR1
    go_wp2_with fail
    go_loopw [9, 10, 11] (fun ov pv i wr => ov = .slice none 0 0 ∧ pv = .bool false ∧ i = .int .i64 0 ∧ wr = (w2.alloc (boxC refT Chg.none))) (fun _ _ i _ => 0 - (intOf i).toNat)
    case atStart => exact ⟨rfl, rfl, rfl, rfl⟩
    case round =>
      obtain ⟨rfl, rfl, rfl, rfl⟩ := hrel
      go_wp2_with (at_builtin; refine Lib.wpList_append_run _ rfl _ _ _ _ rfl _ _ rfl rfl _ _ HR1.out ?_)
      go_ret2
      exact ⟨_, by rw [HE.out.1]; rfl, by rw [HE.out.2]; exact owns_reads hh1.out.1, HWL.out.trans (hh1.out.2.mono (by omega)), fun k hk => .inr (hh1.out.1.lt k hk)⟩
  · have HC := Lib.hid h4
    clear h4
    go_enter Tryz.func58, Tryz.ntmps58
    go_wp2_with fail
    refine (HK.out _).mono ?_
    rintro r w1 ⟨rfl, hb1⟩
    have HB := Lib.hid (HA.out.trans (hb1.mono HA.out.size))
    have HX := Lib.hid (box_cells (w := w) (e := (⟨k, v0, false⟩ : Chg)) hb1)
    clear hb1
    obtain ⟨b0, b1, b2⟩ := three HX.out
    go_wp2_with fail
    refine (HF.out _ HB.out).mono ?_
    rintro r w2 ⟨rfl, hb2⟩
    have HX2 := Lib.hid (range_below HX.out (by have := HA.out.size; have := HB.out.size; exact block_lt_of_cell b0) hb2)
    have HB2 := Lib.hid (HB.out.trans (hb2.mono HB.out.size))
    clear hb2 b0 b1 b2
    have hw2 : w.heap.size < w2.heap.size := block_lt_of_cell (three HX2.out).1
    have hws : (w2.alloc (boxC refT Chg.none)).heap.size = w2.heap.size + 1 := by simp
    have HWL := Lib.hid (HB2.out.alloc HB2.out.size (boxC refT Chg.none))
    have HXL := Lib.hid (range_below HX2.out hw2 ((Below.refl w2.heap.size w2).alloc (Nat.le_refl _) (boxC refT Chg.none)))
    obtain ⟨b0, b1, b2⟩ := three HXL.out
    simp only [Nat.zero_add] at b1 b2
    have hbl2 : b < w2.heap.size := Nat.lt_of_lt_of_le h3 HB2.out.size
    have HCL := Lib.hid (fun (W : World) (hW : Below (w2.alloc (boxC refT Chg.none)).heap.size (w2.alloc (boxC refT Chg.none)) W) (k : Nat) (x : Chg) (hx : q[k]? = some x) => three (range_below (range_below (HC.out k x hx) h3 HWL.out) (by omega) hW))
    have HXW := Lib.hid (fun (W : World) (hW : Below (w2.alloc (boxC refT Chg.none)).heap.size (w2.alloc (boxC refT Chg.none)) W) => three (range_below HXL.out (by omega) hW))
    clear h3 hbl2
    go_wp2_with fail
    clear b0 b1 b2
    go_loopw [9, 10, 11] (fun ov pv i wr => SetAt (w2.alloc (boxC refT Chg.none)) q (⟨k, v0, false⟩ : Chg) ov pv i wr) (fun _ _ i _ => q.length - (intOf i).toNat)
    case atStart => exact ⟨0, _, Nat.zero_le _, rfl, rfl, rfl, by rw [List.take_zero, outs_nil]; exact World.ownsRow_nil _ _ _ _, Below.refl _ _⟩
    case round =>
      obtain ⟨k1, ov, hk, rfl, rfl, rfl, hO, hb⟩ := hrel
      have HO := Lib.hid hO
      have hln := outs_length Chg.key true (⟨k, v0, false⟩ : Chg) (q.take k1)
      have HLN : Hid ((outs Chg.key true (⟨k, v0, false⟩ : Chg) (q.take k1)).length ≤ 2001) := by have := HFEW.out; rw [List.length_take] at hln; exact Lib.hid (by omega)
      have hbs := hb.size
      rw [hws] at hbs
      have HBB := Lib.hid hb
      clear hln hO hb
      by_cases hlt : k1 < q.length
      · obtain ⟨x, hkx⟩ : ∃ x, q[k1]? = some x := ⟨q[k1], List.getElem?_eq_getElem hlt⟩
        have HX1 := Lib.hid hkx
        have HCK := Lib.hid (fun (W : World) (hW : Below (w2.alloc (boxC refT Chg.none)).heap.size (w2.alloc (boxC refT Chg.none)) W) => HCL.out W hW k1 x hkx)
        have hle := less_toList x.key k
        have hee := key_eq x.key k
        clear hkx
        obtain ⟨b0, b1, b2⟩ := HXW.out wr HBB.out
        obtain ⟨c0, c1, c2⟩ := HCK.out wr HBB.out
        simp only [Nat.zero_add] at b1 b2
        cases hfl : flag Chg.key true (⟨k, v0, false⟩ : Chg) (q.take k1)
        · cases hlb : less x.key k
          · rw [hlb] at hle
            go_wp2_with fail
            go_quiet (fail)
            obtain ⟨v1, w3, hr1, hh1⟩ := append_ref (wr.drewN nq) ov _ (⟨k, v0, false⟩ : Chg) _ HO.out (by have := HLN.out; omega) (by simp; omega)
            have HR1 := Lib.hid hr1
            clear hr1
            go_wp2_with (at_builtin; refine Lib.wpList_append_run _ rfl _ _ _ _ rfl _ _ rfl rfl _ _ HR1.out ?_)
            have hB1 : Below (w2.alloc (boxC refT Chg.none)).heap.size (w2.alloc (boxC refT Chg.none)) w3 := (below_drewN HBB.out nq).trans hh1.out.2
            have hs1 := hB1.size
            have HB1 := Lib.hid hB1
            clear hB1 b0 b1 b2 c0 c1 c2
            obtain ⟨b0, b1, b2⟩ := HXW.out w3 HB1.out
            obtain ⟨c0, c1, c2⟩ := HCK.out w3 HB1.out
            simp only [Nat.zero_add] at b1 b2
            by_cases he : x.key = k
            · have hne : (x.key.toList == k.toList) = true := by rw [hee]; exact decide_eq_true he
              go_quiet (fail)
              go_wp2_with fail
              go_roundw
              case rel =>
                refine SetAt_step (fl := false) (lb := false) (L := outs Chg.key true (⟨k, v0, false⟩ : Chg) (q.take k1) ++ [(⟨k, v0, false⟩ : Chg)]) HX1.out HRI.out hfl hlb ?_ ?_ ?_ ?_
                · rw [if_pos he]; simp
                · rfl
                · exact hh1.out.1
                · exact below_drewN (HB1.out) _
              case measure => simp [intOf]; omega
            · have hne : (x.key.toList == k.toList) = false := by rw [hee]; exact decide_eq_false he
              go_quiet (fail)
              obtain ⟨v2, w4, hr2, hh2⟩ := append_ref (w3.drewN nq) v1 (outs Chg.key true (⟨k, v0, false⟩ : Chg) (q.take k1) ++ [(⟨k, v0, false⟩ : Chg)]) x (w2.alloc (boxC refT Chg.none)).heap.size (hh1.out.1) (by have := HLN.out; simp; omega) (by simpa using hs1)
              have HR2 := Lib.hid hr2
              clear hr2
              go_wp2_with (at_builtin; refine Lib.wpList_append_run _ rfl _ _ _ _ rfl _ _ rfl rfl _ _ HR2.out ?_)
              go_roundw
              case rel =>
                refine SetAt_step (fl := false) (lb := false) (L := outs Chg.key true (⟨k, v0, false⟩ : Chg) (q.take k1) ++ [(⟨k, v0, false⟩ : Chg)] ++ [x]) HX1.out HRI.out hfl hlb ?_ ?_ ?_ ?_
                · rw [if_neg he]; simp
                · rfl
                · exact hh2.out.1
                · exact (below_drewN (HB1.out) _).trans hh2.out.2
              case measure => simp [intOf]; omega
          · rw [hlb] at hle
            have hxe : x.key ≠ k := fun h => by rw [h, less_irrefl] at hlb; cases hlb
            go_wp2_with fail
            go_quiet (fail)
            revert nq
            intro n1
            go_wp2_with fail
            have hne : (x.key.toList == k.toList) = false := by rw [hee]; exact decide_eq_false hxe
            go_quiet (fail)
            obtain ⟨v2, w3, hr2, hh2⟩ := append_ref (wr.drewN (n1 + nq)) ov (outs Chg.key true (⟨k, v0, false⟩ : Chg) (q.take k1)) x (w2.alloc (boxC refT Chg.none)).heap.size HO.out (by have := HLN.out; omega) (by simp; omega)
            have HR2 := Lib.hid hr2
            clear hr2
            go_wp2_with (at_builtin; refine Lib.wpList_append_run _ rfl _ _ _ _ rfl _ _ rfl rfl _ _ HR2.out ?_)
            go_roundw
            case rel =>
              refine SetAt_step (fl := false) (lb := true) (L := outs Chg.key true (⟨k, v0, false⟩ : Chg) (q.take k1) ++ [x]) HX1.out HRI.out hfl hlb ?_ ?_ ?_ ?_
              · rw [if_neg hxe]; simp
              · rfl
              · exact hh2.out.1
              · exact (below_drewN HBB.out _).trans hh2.out.2
            case measure => simp [intOf]; omega
        · clear hle
          go_wp2_with fail
          go_quiet (fail)
          revert nq
          intro n1
          go_wp2_with fail
          by_cases he : x.key = k
          · have hne : (x.key.toList == k.toList) = true := by rw [hee]; exact decide_eq_true he
            go_quiet (fail)
            go_wp2_with fail
            go_roundw
            case rel =>
              refine SetAt_step (fl := true) (lb := less x.key k) (L := outs Chg.key true (⟨k, v0, false⟩ : Chg) (q.take k1)) HX1.out HRI.out hfl rfl ?_ ?_ ?_ ?_
              · rw [if_pos he]; simp
              · rfl
              · exact HO.out
              · exact below_drewN (HBB.out) _
            case measure => simp [intOf]; omega
          · have hne : (x.key.toList == k.toList) = false := by rw [hee]; exact decide_eq_false he
            go_quiet (fail)
            obtain ⟨v2, w3, hr2, hh2⟩ := append_ref (wr.drewN (n1 + nq)) ov (outs Chg.key true (⟨k, v0, false⟩ : Chg) (q.take k1)) x (w2.alloc (boxC refT Chg.none)).heap.size (HO.out) (by have := HLN.out; omega) (by simpa using (show w2.heap.size + 1 ≤ wr.heap.size from hbs))
            have HR2 := Lib.hid hr2
            clear hr2
            go_wp2_with (at_builtin; refine Lib.wpList_append_run _ rfl _ _ _ _ rfl _ _ rfl rfl _ _ HR2.out ?_)
            go_roundw
            case rel =>
              refine SetAt_step (fl := true) (lb := less x.key k) (L := outs Chg.key true (⟨k, v0, false⟩ : Chg) (q.take k1) ++ [x]) HX1.out HRI.out hfl rfl ?_ ?_ ?_ ?_
              · rw [if_neg he]; simp
              · rfl
              · exact hh2.out.1
              · exact (below_drewN (HBB.out) _).trans hh2.out.2
            case measure => simp [intOf]; omega
      · have htk : q.take k1 = q := List.take_of_length_le (by omega)
        rw [htk] at HO HLN ⊢
        have HOO := Lib.hid (ownsRow_base_a HO.out (base' := w.heap.size) (by omega))
        have hsw : w.heap.size ≤ wr.heap.size := by omega
        obtain ⟨b0, b1, b2⟩ := HXW.out wr HBB.out
        simp only [Nat.zero_add] at b1 b2
        cases hfl : flag Chg.key true (⟨k, v0, false⟩ : Chg) q
        · obtain ⟨v1, w3, hr1, hh1⟩ := append_ref wr ov _ (⟨k, v0, false⟩ : Chg) w.heap.size HOO.out (by have := HLN.out; omega) hsw
          have HR1 := Lib.hid hr1
          clear hr1
          go_wp2_with (at_builtin; refine Lib.wpList_append_run _ rfl _ _ _ _ rfl _ _ rfl rfl _ _ HR1.out ?_)
          go_ret2
          refine ⟨_, by rw [HE.out.1]; rfl, ?_, (HWL.out.trans (HBB.out.mono (by omega))).trans hh1.out.2, fun k hk => .inr (hh1.out.1.lt k hk)⟩
          rw [HE.out.2, HEND.out, hfl]
          exact owns_reads hh1.out.1
        · go_wp2_with fail
          go_ret2
          refine ⟨_, by rw [HE.out.1]; rfl, ?_, HWL.out.trans (HBB.out.mono (by omega)), fun k hk => .inr (HOO.out.lt k hk)⟩
          rw [HE.out.2, HEND.out, hfl]
          exact owns_reads HOO.out
end Go.Proofs.YtghpohiinnallaaGreatDoor.Batch
