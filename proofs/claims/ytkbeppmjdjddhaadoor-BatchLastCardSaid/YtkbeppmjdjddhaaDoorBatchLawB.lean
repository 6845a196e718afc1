/-
  Walks of what the laws share: Make.
-/
import Derived.Test.YtkbeppmjdjddhaaDoorBatchLawA
namespace Go.Proofs.YtkbeppmjdjddhaaDoor.Batch
open Go Go.RowKit

def madeF (q l : List Chg) : List Chg := l.foldl (fun q c => made q c.norm) q
/-- What is there behind changes, the first one first. -/
def madeL (l : List Chg) : List Chg := madeF [] l
theorem madeL_snoc (l : List Chg) (x : Chg) : madeL (l ++ [x]) = made (madeL l) x.norm := by unfold madeL madeF; rw [List.foldl_append]; rfl
theorem good_madeF : ∀ (l q : List Chg), Good q → Good (madeF q l)
  | [], _, h => h
  | c :: l, q, h => good_madeF l (made q c.norm) (good_made h _)
theorem good_madeL (l : List Chg) : Good (madeL l) := good_madeF l [] good_nil
theorem madeF_length : ∀ (l q : List Chg), (madeF q l).length ≤ q.length + l.length
  | [], q => by simp [madeF]
  | c :: l, q => by
    have h1 := madeF_length l (made q c.norm)
    have h2 := made_length q c.norm
    show (madeF (made q c.norm) l).length ≤ _
    rw [List.length_cons]
    omega
theorem madeL_length (l : List Chg) : (madeL l).length ≤ l.length := by have := madeF_length l []; unfold madeL; simpa using this
theorem madeF_mem : ∀ (l q : List Chg) (z : Chg), z ∈ madeF q l → z ∈ q ∨ ∃ c ∈ l, z = c.norm
  | [], _, _, h => .inl h
  | c :: l, q, z, h => by
    rcases madeF_mem l (made q c.norm) z h with h | ⟨y, hy, e⟩
    · rcases made_mem h with rfl | h
      · exact .inr ⟨c, by simp, rfl⟩
      · exact .inl h
    · exact .inr ⟨y, List.mem_cons_of_mem _ hy, e⟩
theorem madeL_mem {l : List Chg} {z : Chg} (h : z ∈ madeL l) : ∃ c ∈ l, z = c.norm := by
  rcases madeF_mem l [] z h with h | h
  · cases h
  · exact h
theorem norm_norm (c : Chg) : c.norm.norm = c.norm := by
  obtain ⟨k, v, g⟩ := c
  cases g <;> rfl
theorem madeL_norm {l : List Chg} {z : Chg} (h : z ∈ madeL l) : z.norm = z := by
  obtain ⟨c, _, rfl⟩ := madeL_mem h
  exact norm_norm c
theorem madeL_light {l : List Chg} (hl : ∀ c ∈ l, LightC c) {z : Chg} (h : z ∈ madeL l) : LightC z := by
  obtain ⟨c, hc, rfl⟩ := madeL_mem h
  obtain ⟨h1, h2⟩ := hl c hc
  exact ⟨by rw [norm_key]; exact h1, Nat.le_trans (norm_val c) h2⟩
theorem madeL_fine {l : List Chg} (hl : ∀ c ∈ l, LightC c) : ∀ z ∈ madeL l, Fine z := fun z h => by
  obtain ⟨h1, h2⟩ := madeL_light hl h
  exact ⟨by omega, by omega⟩
theorem reads_form {w : World} {v : Value} {q : List Chg} (h : ReadsC w v q) : ∃ a c, v = .slice a q.length c := by
  rcases h with ⟨a, cap, rfl, rfl⟩ | ⟨_, b, off, cap, rfl, _⟩
  · exact ⟨a, cap, rfl⟩
  · exact ⟨_, cap, rfl⟩

/-- A list of the document's beside a batch: what of it holds. -/
def Beside (d : Bt) (w : World) (ov : Value) : Prop := ∀ k, ov.ownBlock = some k → ¬ own d k ∧ k < w.heap.size
def MakePost (w : World) (d : Bt) (l : List Chg) (e : Ending) (w' : World) : Prop :=
  ∃ ov d', e = .returned (.tuple #[ov, .bool true]) ∧ ReadsC w' ov (madeL l) ∧ Beside d' w' ov ∧ Mem w' d' (madeL l) ∧ Step w d w' d'
def MakeAt (w : World) (d : Bt) (l : List Chg) (qv i : Value) (wr : World) : Prop :=
  ∃ (k : Nat) (ov : Value) (d' : Bt), k ≤ l.length ∧ i = .int .i64 k ∧ ov = qv ∧ ReadsC wr ov (madeL (l.take k)) ∧ Beside d' wr ov ∧ Mem wr d' (madeL (l.take k)) ∧ Step w d wr d'
/-- One round: the list first, then the batch. -/
theorem make_step {w wr w2 w3 : World} {d d' d2 : Bt} {l : List Chg} {k : Nat} {x : Chg} {ov ov2 : Value} (hkx : l[k]? = some x) (hm : Mem wr d' (madeL (l.take k))) (hs : Step w d wr d') (hbe : Beside d' wr ov)
    (hr2 : ReadsC w2 ov2 (made (madeL (l.take k)) x.norm)) (hb2 : Below wr.heap.size wr w2) (ho2 : ∀ j, ov2.ownBlock = some j → ov.ownBlock = some j ∨ (wr.heap.size ≤ j ∧ j < w2.heap.size))
    (hm3 : Mem w3 d2 (made (madeL (l.take k)) x.norm)) (hs3 : Step w2 d' w3 d2) : MakeAt w d l ov2 (.int .i64 ((k : Int) + 1)) w3 := by
  have ht : l.take (k + 1) = l.take k ++ [x] := by rw [List.take_add_one, hkx]; rfl
  have hlt := (List.getElem?_eq_some_iff.1 hkx).1
  have h2 : ∀ j, ov2.ownBlock = some j → ¬ own d' j ∧ j < w2.heap.size := fun j hj => by
    rcases ho2 j hj with h | ⟨h, h'⟩
    · exact ⟨(hbe j h).1, Nat.lt_of_lt_of_le (hbe j h).2 hb2.size⟩
    · exact ⟨fun e => by have := (hm.own_lt e).1; omega, h'⟩
  refine ⟨k + 1, ov2, d2, by omega, by simp, rfl, ?_, fun j hj => ⟨fun e => ?_, Nat.lt_of_lt_of_le (h2 j hj).2 hs3.fr.size⟩, ?_, (hs.trans (Step.of_below d' hb2)).trans hs3⟩
  · rw [ht, madeL_snoc]
    exact hr2.frame hs3.fr fun j hj => (h2 j hj).1
  · rcases hs3.own e with e | e
    · exact (h2 j hj).1 e
    · have := (h2 j hj).2; omega
  · rw [ht, madeL_snoc]; exact hm3
set_option maxRecDepth 100000 in
set_option maxHeartbeats 8000000 in
theorem make_any {w0 w : World} {d : Bt} (h : Mem w d []) (hB : w0.heap.size ≤ d.B) (hb0 : Below w0.heap.size w0 w) (v : Value) (l : List Chg) (hr : ReadsC w0 v l) (ho : ∀ c ∈ l, OkC c) (hl : l.length ≤ 40) :
    Calls Tryd.prog 11 #[ptr d.pb, v] w (MakePost w d l) := by
  rcases hr with ⟨a, cap, rfl, rfl⟩ | ⟨h0, b, off, cap, rfl, h3, h4⟩
  · have HM := Lib.hid h
    go_enter Tryd.func11, Tryd.ntmps11
    go_wp2_with fail
    go_loopw [6, 7] (fun qv i wr => qv = .slice none 0 0 ∧ i = .int .i64 0 ∧ wr = w) (fun _ i _ => 0 - (intOf i).toNat)
    case atStart => exact ⟨rfl, rfl, rfl⟩
    case round =>
      obtain ⟨rfl, rfl, rfl⟩ := hrel
      go_wp2_with fail
      go_ret2
      exact ⟨_, d, rfl, nil_reads _, fun k hk => (by cases hk), HM.out, Step.refl _ _⟩
  · have HC := Lib.hid h4
    have HO := Lib.hid ho
    have HM := Lib.hid h
    have HCL := Lib.hid (fun (W : World) (hW : Below w0.heap.size w0 W) (k : Nat) (x : Chg) (hx : l[k]? = some x) => three (range_below (HC.out k x hx) h3 hW))
    have HB0 := Lib.hid (And.intro hB hb0)
    clear h4 ho h hB hb0 h3
    go_enter Tryd.func11, Tryd.ntmps11
    go_wp2_with fail
    go_loopw [6, 7] (fun qv i wr => MakeAt w d l qv i wr) (fun _ i _ => l.length - (intOf i).toNat)
    case atStart => exact ⟨0, _, d, Nat.zero_le _, rfl, rfl, nil_reads _, fun k hk => (by cases hk), HM.out, Step.refl _ _⟩
    case round =>
      obtain ⟨k, ov, d', hk, rfl, rfl, hrd, hbe, hmm, hst⟩ := hrel
      have HST := Lib.hid (And.intro hrd (And.intro hbe (And.intro hmm hst)))
      have HBW : Hid (Below w0.heap.size w0 wr) := Lib.hid (HB0.out.2.trans (hst.below HM.out HB0.out.1))
      have hpb : d'.pb = d.pb := hst.pb
      have hG := good_madeL (l.take k)
      have hql := madeL_length (l.take k)
      by_cases hlt : k < l.length
      · obtain ⟨x, hkx⟩ : ∃ x, l[k]? = some x := ⟨l[k], List.getElem?_eq_getElem hlt⟩
        have hox := HO.out x (List.mem_of_getElem? hkx)
        obtain ⟨c0, c1, c2⟩ := HCL.out wr HBW.out k x hkx
        have HX := Lib.hid hkx
        have HSET := Lib.hid (refSet_any ov (madeL (l.take k)) x wr hrd hG hox.1 hox.2)
        have HSTEP := Lib.hid (fun w2 w3 ov2 d2 hr2 hb2 ho2 hm3 hs3 => make_step (w2 := w2) (w3 := w3) (ov2 := ov2) (d2 := d2) hkx hmm hst hbe hr2 hb2 ho2 hm3 hs3)
        obtain ⟨xk, xv, g⟩ := x
        have HPUT := Lib.hid (fun W (hW : Below wr.heap.size wr W) => put_any (hmm.below hW) hG xk xv hox.1 hox.2)
        have HDEL := Lib.hid (fun W (hW : Below wr.heap.size wr W) => del_any (hmm.below hW) hG xk hox.1)
        rw [hpb] at HPUT HDEL
        clear hrd hbe hmm hst hG hox hkx hql
        cases g
        · rw [norm_false] at HSET HSTEP
          generalize madeL (l.take k) = Q at *
          go_wp2_with fail
          refine HSET.out.mono ?_
          rintro r w2 ⟨ov2, rfl, hr2, hb2, ho2⟩
          have HQ := Lib.hid (And.intro hr2 (And.intro hb2 ho2))
          obtain ⟨oa, oc, rfl⟩ := reads_form hr2
          have HB2 : Hid (Below w0.heap.size w0 w2) := Lib.hid (HBW.out.trans (hb2.mono HBW.out.size))
          have HP2 : Hid (Calls Tryd.prog 25 #[ptr d.pb, .string xk, .string xv] w2.drew (Recorded w2.drew d' Q ⟨xk, xv, false⟩)) := Lib.hid (HPUT.out _ hb2.drew)
          clear hr2 hb2 ho2 c0 c1 c2
          obtain ⟨c0, c1, c2⟩ := HCL.out w2 HB2.out k _ HX.out
          go_wp2_with fail
          go_region_with ((go_at_call 25; refine HP2.out.mono ?_; rintro r w4 ⟨d4, rfl, hm4, hs4⟩; have HD := Lib.hid (And.intro hm4 hs4); clear hm4 hs4))
          all_goals
            have hlen := len_any HD.out.1
            rw [HD.out.2.pb, hpb] at hlen
            have HLEN := Lib.hid hlen
            clear hlen
            go_wp2_with fail
            refine HLEN.out.mono ?_
            rintro r w5 ⟨rfl, rfl⟩
            go_wp2_with fail
            go_roundw
            case rel => exact HSTEP.out w2.drew w4 _ d4 (HQ.out.1.below ((Below.refl _ _).drew)) (HQ.out.2.1.trans (Below.mono ((Below.refl _ _).drew) HQ.out.2.1.size)) HQ.out.2.2 HD.out.1 HD.out.2
            case measure => simp [intOf]; omega
        · rw [norm_true] at HSET HSTEP
          generalize madeL (l.take k) = Q at *
          go_wp2_with fail
          refine HSET.out.mono ?_
          rintro r w2 ⟨ov2, rfl, hr2, hb2, ho2⟩
          have HQ := Lib.hid (And.intro hr2 (And.intro hb2 ho2))
          obtain ⟨oa, oc, rfl⟩ := reads_form hr2
          have HB2 : Hid (Below w0.heap.size w0 w2) := Lib.hid (HBW.out.trans (hb2.mono HBW.out.size))
          have HP2 : Hid (Calls Tryd.prog 28 #[ptr d.pb, .string xk] w2 (Recorded w2 d' Q ⟨xk, ⟨#[]⟩, true⟩)) := Lib.hid (HDEL.out _ hb2)
          clear hr2 hb2 ho2 c0 c1 c2
          obtain ⟨c0, c1, c2⟩ := HCL.out w2 HB2.out k _ HX.out
          go_wp2_with fail
          refine HP2.out.mono ?_
          rintro r w4 ⟨d4, rfl, hm4, hs4⟩
          have HD := Lib.hid (And.intro hm4 hs4)
          clear hm4 hs4
          have hlen := len_any HD.out.1
          rw [HD.out.2.pb, hpb] at hlen
          have HLEN := Lib.hid hlen
          clear hlen
          go_wp2_with fail
          refine HLEN.out.mono ?_
          rintro r w5 ⟨rfl, rfl⟩
          go_wp2_with fail
          go_roundw
          case rel => exact HSTEP.out w2 w4 _ d4 (HQ.out.1.below (Below.refl _ _)) (HQ.out.2.1.trans (Below.mono (Below.refl _ _) HQ.out.2.1.size)) HQ.out.2.2 HD.out.1 HD.out.2
          case measure => simp [intOf]; omega
      · have htk : l.take k = l := List.take_of_length_le (by omega)
        rw [htk] at HST
        clear hrd hbe hmm hst
        go_wp2_with fail
        go_ret2
        exact ⟨_, d', rfl, HST.out.1, HST.out.2.1, HST.out.2.2.1, HST.out.2.2.2⟩
end Go.Proofs.YtkbeppmjdjddhaaDoor.Batch
