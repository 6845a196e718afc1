/-
  The document's store: its pairs changed, told, read; its texts.
-/
import Derived.Test.YtghpohiinnallaaGreatDoorKgOpen
import Derived.Test.YtghpohiinnallaaGreatDoorKgShared
import Derived.Test.YtghpohiinnallaaGreatDoorKgNext
import Derived.Test.YtghpohiinnallaaGreatDoorKgOn
import Derived.Test.YtghpohiinnallaaGreatDoorKgSetA
import Derived.Deep.RegionHeldLaw

/-
  Walk of the store: Range.
-/
namespace Go.Proofs.YtghpohiinnallaaGreatDoor.Kv
open Go Go.RowKit
open Go.Proofs.YtghpohiinnallaaGreatDoor.Disk (St Dk own Fr Lies)
open Go.Proofs.YtghpohiinnallaaGreatDoor.Wal (Wl Wk Log)
open Go.Proofs.YtghpohiinnallaaGreatDoor.Batch (less Rising at? lo lo_le Chg ptr)

/-- The pairs whose keys are not less than the one and less than the other. -/
def rangeL (f t : ByteArray) (P : List Pr) : List Pr := (P.drop (lo Pr.key f P)).take (max (lo Pr.key f P) (lo Pr.key t P) - lo Pr.key f P)
section
variable {w : World} {x : Sk} {S : St} {L : Wl} {q : Nat} {P : List Pr}
set_option maxRecDepth 100000 in
set_option maxHeartbeats 4000000 in
theorem rangeS (h : Store w x S L q P) (hr : Rising Pr.key P) (hl : P.length ≤ 100000) (f t : ByteArray) :
    Calls Tryz.prog 21 #[ptr x.ps, .string f, .string t] w (ListPost w (rangeL f t P)) := by
  obtain ⟨c0, c1, c2, c3⟩ := h.cells
  have HF := Lib.hid (fun (W : World) (hW : Below w.heap.size w W) (k : ByteArray) => findP_any x.pv P k W (h.pairs.below hW) hr (by omega))
  have HC := Lib.hid (fun (W : World) (hW : Below w.heap.size w W) => (h.below hW).cells.2.2.1)
  have hlf := lo_le Pr.key f P
  have hlt := lo_le Pr.key t P
  rcases h.pairs.cases with ⟨hv, hP⟩ | ⟨b, off, cap, hv, hrow⟩
  · rw [hv] at c2 HC HF
    have ef : lo Pr.key f P = 0 := by rw [hP] at hlf ⊢; simpa using hlf
    have et : lo Pr.key t P = 0 := by rw [hP] at hlt ⊢; simpa using hlt
    have es : rangeL f t P = [] := by unfold rangeL; rw [hP]; simp
    have HF1 := Lib.hid (HF.out w (Below.refl _ _) f)
    have HF2 := Lib.hid (fun (W : World) (hW : Below w.heap.size w W) => HF.out W hW t)
    rw [ef] at HF1
    rw [et] at HF2
    rw [es]
    have HCL := Lib.hid (fun (W : World) => cloneP_any W (.slice none 0 0) [] (nil_readsP W) (by simp))
    generalize (at? Pr.key f P).isSome = is at *
    generalize (at? Pr.key t P).isSome = is2 at *
    clear h hr hv hP hlf hlt ef et es HF
    go_enter Tryz.func21, Tryz.ntmps21
    go_wp2_with fail
    refine HF1.out.mono ?_
    rintro e w1 ⟨rfl, hb1⟩
    have d2 := HC.out w1 hb1
    have HB1 := Lib.hid hb1
    have HF3 := Lib.hid (HF2.out w1 hb1)
    clear hb1
    go_wp2_with fail
    refine HF3.out.mono ?_
    rintro e w2 ⟨rfl, hb2⟩
    have HB2 := Lib.hid (HB1.out.trans (hb2.mono HB1.out.size))
    have d2 := HC.out w2 HB2.out
    clear hb2
    go_wp2_with fail
    refine (HCL.out _).mono ?_
    rintro e w3 ⟨u, rfl, ho, hb3⟩
    have HH := Lib.hid (And.intro ho hb3)
    clear ho hb3
    go_wp2_with fail
    go_ret
    exact ⟨u, rfl, Wal.owns_low HH.out.1 HB2.out.size, HB2.out.trans (HH.out.2.mono HB2.out.size)⟩
  · have HRW := Lib.hid (fun (W : World) (hW : Below w.heap.size w W) => hrow.below hW)
    have hlc := hrow.len
    have hcap := hrow.cap
    obtain ⟨n, hn⟩ : ∃ n, n = P.length := ⟨_, rfl⟩
    rw [← hn] at hl hv hlc hlf hlt
    rw [hv] at c2 HC HF
    have HF1 := Lib.hid (HF.out w (Below.refl _ _) f)
    have HF2 := Lib.hid (fun (W : World) (hW : Below w.heap.size w W) => HF.out W hW t)
    have er : rangeL f t P = (P.drop (lo Pr.key f P)).take (max (lo Pr.key f P) (lo Pr.key t P) - lo Pr.key f P) := rfl
    obtain ⟨i, hi⟩ : ∃ i, i = lo Pr.key f P := ⟨_, rfl⟩
    obtain ⟨j, hj⟩ : ∃ j, j = lo Pr.key t P := ⟨_, rfl⟩
    rw [← hi] at HF1 hlf er
    rw [← hj] at HF2 hlt er
    obtain ⟨M, hM⟩ : ∃ M, M = max i j := ⟨_, rfl⟩
    have hmx : max (i : Int) (j : Int) = (M : Int) := by rw [hM]; omega
    have hMi : i ≤ M := by omega
    have hMn : M ≤ n := by omega
    rw [← hM] at er
    have HD := Lib.hid (And.intro hn er)
    clear hM
    generalize (at? Pr.key f P).isSome = is at *
    generalize (at? Pr.key t P).isSome = is2 at *
    clear h hr hv hrow hn hi hj HF er
    go_enter Tryz.func21, Tryz.ntmps21
    go_wp2_with fail
    refine HF1.out.mono ?_
    rintro e w1 ⟨rfl, hb1⟩
    have d2 := HC.out w1 hb1
    have HB1 := Lib.hid hb1
    have HF3 := Lib.hid (HF2.out w1 hb1)
    clear hb1
    go_wp2_with fail
    refine HF3.out.mono ?_
    rintro e w2 ⟨rfl, hb2⟩
    have HB2 := Lib.hid (HB1.out.trans (hb2.mono HB1.out.size))
    have d2 := HC.out w2 HB2.out
    clear hb2 c2
    have hrow2 := HRW.out w2 HB2.out
    have hcl : ∀ (u : Value), ReadsP w2 u ((P.drop i).take (M - i)) → Calls Tryz.prog 44 #[u] w2 (ListPost w2 (rangeL f t P)) := fun u hu => by
      have := cloneP_any w2 u _ hu (by rw [List.length_take, List.length_drop]; omega)
      rw [HD.out.2]
      exact this
    have HCL := Lib.hid hcl
    by_cases hfc : i = cap
    · have hM0 : M - i = 0 := by omega
      have hpt : ReadsP w2 (.slice (some ⟨b, off, none⟩) 0 0) ((P.drop i).take (M - i)) := by
        rw [hM0, List.take_zero]
        exact hrow2.empty (Nat.zero_le _)
      have HPT := Lib.hid (HCL.out _ hpt)
      clear hpt hrow2 hcl HCL
      subst hfc
      go_wp2_with fail
      refine HPT.out.mono ?_
      rintro e w3 ⟨u, rfl, ho, hb3⟩
      have HH := Lib.hid (And.intro ho hb3)
      clear ho hb3
      go_wp2_with fail
      go_ret
      exact ⟨u, rfl, Wal.owns_low HH.out.1 HB2.out.size, HB2.out.trans (HH.out.2.mono HB2.out.size)⟩
    · have hpt := HCL.out _ (hrow2.part hMi (by rw [← HD.out.1]; exact hMn))
      have hne : ¬ (cap = i) := by omega
      have HPT := Lib.hid hpt
      clear hpt hrow2 hcl HCL hfc
      go_wp2_with fail
      refine HPT.out.mono ?_
      rintro e w3 ⟨u, rfl, ho, hb3⟩
      have HH := Lib.hid (And.intro ho hb3)
      clear ho hb3
      go_wp2_with fail
      go_ret
      exact ⟨u, rfl, Wal.owns_low HH.out.1 HB2.out.size, HB2.out.trans (HH.out.2.mono HB2.out.size)⟩
end
end Go.Proofs.YtghpohiinnallaaGreatDoor.Kv

/-
  Walks of the document's store: Same, Used, Get.
-/
namespace Go.Proofs.YtghpohiinnallaaGreatDoor.Kv
open Go Go.RowKit
open Go.Proofs.YtghpohiinnallaaGreatDoor.Batch (less Rising at? Chg ptr key_eq)

set_option maxHeartbeats 2000000 in
theorem same_any (v u : Value) (P Q : List Pr) (w : World) (hv : ReadsP w v P) (hu : ReadsP w u Q) (hl : P.length ≤ 100000) (hm : Q.length ≤ 100000) :
    Calls Tryz.prog 11 #[v, u] w (AlikePost w P Q) := by
  obtain ⟨va, vc, rfl⟩ := hv.shape
  obtain ⟨ua, uc, rfl⟩ := hu.shape
  by_cases hne : P.length = Q.length
  · obtain ⟨n, hn⟩ : ∃ n, n = P.length := ⟨_, rfl⟩
    have hn2 : n = Q.length := by omega
    rw [← hn] at hv hl ⊢
    rw [← hn2] at hu ⊢
    have hee : ((n : Int) == n) = true := beq_self_eq_true _
    have HV : Hid (∀ k a, P[k]? = some a → ∃ b off, va = some ⟨b, off, none⟩ ∧ b < w.heap.size ∧ w.rangeAt b (off + k * 2) (prC a)) := Lib.hid (fun k a ha => by
      rcases hv with ⟨e, rfl⟩ | ⟨b, off, cap, e, h1, h2, h3, h4⟩
      · simp at ha
      · obtain ⟨rfl, -, -⟩ := Value.slice.inj e
        exact ⟨b, off, rfl, h3, h4 k a ha⟩)
    have HU : Hid (∀ k a, Q[k]? = some a → ∃ b off, ua = some ⟨b, off, none⟩ ∧ b < w.heap.size ∧ w.rangeAt b (off + k * 2) (prC a)) := Lib.hid (fun k a ha => by
      rcases hu with ⟨e, rfl⟩ | ⟨b, off, cap, e, h1, h2, h3, h4⟩
      · simp at ha
      · obtain ⟨rfl, -, -⟩ := Value.slice.inj e
        exact ⟨b, off, rfl, h3, h4 k a ha⟩)
    have HNN := Lib.hid (And.intro hn hn2)
    clear hv hu hn hn2 hne hm
    go_enter Tryz.func11, Tryz.ntmps11
    go_wp2_with fail
    go_loopw [5, 6] (fun s i wr => ∃ k : Nat, k ≤ n ∧ i = .int .i64 k ∧ s = .bool (decide (P.take k = Q.take k)) ∧ Below w.heap.size w wr) (fun _ i _ => n - (intOf i).toNat)
    case atStart => exact ⟨0, Nat.zero_le _, rfl, by simp, Below.refl _ _⟩
    case round =>
      obtain ⟨k, hk, rfl, rfl, hb⟩ := hrel
      by_cases hs : P.take k = Q.take k
      · have HQ := Lib.hid hs
        have hd : decide (P.take k = Q.take k) = true := decide_eq_true hs
        rw [hd]
        clear hs hd
        by_cases hlt : k < n
        · obtain ⟨a, ha⟩ : ∃ a, P[k]? = some a := ⟨P[k]'(by have := HNN.out; omega), List.getElem?_eq_getElem _⟩
          obtain ⟨c, hc⟩ : ∃ a, Q[k]? = some a := ⟨Q[k]'(by have := HNN.out; omega), List.getElem?_eq_getElem _⟩
          obtain ⟨b1, o1, rfl, hb1, r1⟩ := HV.out k a ha
          obtain ⟨b2, o2, rfl, hb2, r2⟩ := HU.out k c hc
          obtain ⟨c0, c1⟩ := two (Batch.range_below r1 hb1 hb)
          obtain ⟨d0, d1⟩ := two (Batch.range_below r2 hb2 hb)
          have HG := Lib.hid (alike_step ha hc HQ.out)
          have HEQ := Lib.hid (fun W => eql_pr W a c)
          clear ha hc r1 r2
          go_wp2_with fail
          obtain ⟨vk, hvk⟩ : ∃ vk, decide (a.key = c.key) = vk := ⟨_, rfl⟩
          obtain ⟨vv, hvv⟩ : ∃ vv, decide (a.val = c.val) = vv := ⟨_, rfl⟩
          have e1 := (key_eq a.key c.key).trans hvk
          have e2 := (key_eq a.val c.val).trans hvv
          have HAC : Hid (decide (a = c) = (vk && vv)) := Lib.hid (by
            subst hvk hvv
            obtain ⟨a1, a2⟩ := a
            obtain ⟨b1, b2⟩ := c
            by_cases h1 : a1 = b1 <;> by_cases h2 : a2 = b2 <;> simp [h1, h2])
          clear hvk hvv HEQ
          cases vk
          all_goals
            go_quiet (fail)
            have hb2 := below_drewN hb nq
            have HB2 := Lib.hid hb2
            clear hb2
            go_wp2_with fail
            go_roundw
            case rel => exact ⟨k + 1, by omega, by simp, by rw [HG.out, HAC.out]; simp, HB2.out⟩
            case measure => simp [intOf]; omega
        · have HG := Lib.hid (show decide (P = Q) = true from decide_eq_true (by
            have := HQ.out
            rwa [List.take_of_length_le (by have := HNN.out; omega), List.take_of_length_le (by have := HNN.out; omega)] at this))
          go_wp2_with fail
          go_ret
          exact ⟨by rw [HG.out]; rfl, hb⟩
      · have HG := Lib.hid (show decide (P = Q) = false from decide_eq_false fun e => hs (by rw [e]))
        have hd : decide (P.take k = Q.take k) = false := decide_eq_false hs
        rw [hd]
        clear hs hd
        go_wp2_with fail
        go_ret
        exact ⟨by rw [HG.out]; rfl, hb⟩
  · have hne' : ((P.length : Int) == (Q.length : Int)) = false := beq_eq_false_iff_ne.2 (by omega)
    have HG := Lib.hid (show decide (P = Q) = false from decide_eq_false fun e => hne (by rw [e]))
    generalize P.length = n at *
    generalize Q.length = m at *
    clear hv hu
    go_enter Tryz.func11, Tryz.ntmps11
    go_wp2_with fail
    go_loopw [5, 6] (fun s i wr => s = .bool false ∧ i = .int .i64 0 ∧ wr = w) (fun _ i _ => 0 - (intOf i).toNat)
    case atStart => exact ⟨rfl, rfl, rfl⟩
    case round =>
      obtain ⟨rfl, rfl, rfl⟩ := hrel
      go_wp2_with fail
      go_ret
      exact ⟨by rw [HG.out]; rfl, Below.refl _ _⟩

set_option maxHeartbeats 2000000 in
theorem refUsed_any (v : Value) (P : List Pr) (w : World) (h : ReadsP w v P) (hl : P.length ≤ 100000) (hu : used P ≤ 1000000000000) :
    Calls Tryz.prog 14 #[v] w fun e w' => e = .returned (.int .i64 (used P)) ∧ Below w.heap.size w w' := by
  obtain ⟨va, vc, rfl⟩ := h.shape
  obtain ⟨n, hn⟩ : ∃ n, n = P.length := ⟨_, rfl⟩
  rw [← hn] at h hl ⊢
  have HV : Hid (∀ k a, P[k]? = some a → ∃ b off, va = some ⟨b, off, none⟩ ∧ b < w.heap.size ∧ w.rangeAt b (off + k * 2) (prC a)) := Lib.hid (fun k a ha => by
    rcases h with ⟨e, rfl⟩ | ⟨b, off, cap, e, h1, h2, h3, h4⟩
    · simp at ha
    · obtain ⟨rfl, -, -⟩ := Value.slice.inj e
      exact ⟨b, off, rfl, h3, h4 k a ha⟩)
  have HN := Lib.hid (And.intro hn hu)
  clear h hn hu
  go_enter Tryz.func14, Tryz.ntmps14
  go_wp2_with fail
  go_loopw [3, 4] (fun s i wr => ∃ k m : Nat, k ≤ n ∧ i = .int .i64 k ∧ s = .int .i64 m ∧ m = used (P.take k) ∧ Below w.heap.size w wr) (fun _ i _ => n - (intOf i).toNat)
  case atStart => exact ⟨0, 0, Nat.zero_le _, rfl, rfl, rfl, Below.refl _ _⟩
  case round =>
    obtain ⟨k, m, hk, rfl, rfl, hm, hb⟩ := hrel
    by_cases hlt : k < n
    · obtain ⟨a, ha⟩ : ∃ a, P[k]? = some a := ⟨P[k]'(by have := HN.out.1; omega), List.getElem?_eq_getElem _⟩
      obtain ⟨b1, o1, rfl, hb1, r1⟩ := HV.out k a ha
      obtain ⟨c0, c1⟩ := two (Batch.range_below r1 hb1 hb)
      have hs := used_take ha
      rw [← hm] at hs
      have hle := used_take_le P (k + 1)
      have hu := HN.out.2
      have HS := Lib.hid hs
      have hz : m + (a.key.size + a.val.size) ≤ 1000000000000 := by omega
      clear ha r1 hs hle hu hm
      go_wp2_with fail
      go_quiet (fail)
      have hb2 := below_drewN hb nq
      have HB2 := Lib.hid hb2
      clear hb2
      go_wp2_with fail
      go_roundw
      case rel => exact ⟨k + 1, m + (a.key.size + a.val.size), by omega, by simp, by simp; omega, HS.out.symm, HB2.out⟩
      case measure => simp [intOf]; omega
    · have hq : k = n := by omega
      have HM : Hid (m = used P) := Lib.hid (by rw [hm, hq, HN.out.1, List.take_length])
      clear hm
      go_wp2_with fail
      go_ret
      exact ⟨by rw [HM.out]; rfl, hb⟩
theorem getV_hit {k : ByteArray} {P : List Pr} {i : Nat} {p : Pr} (hp : P[i]? = some p) (hn : ∀ x ∈ P.take i, x.key ≠ k) (he : p.key = k) : at? Pr.key k P = some p := by
  have hs : P = P.take i ++ p :: P.drop (i + 1) := by
    obtain ⟨h1, h2⟩ := List.getElem?_eq_some_iff.1 hp
    rw [← h2, List.getElem_cons_drop, List.take_append_drop]
  unfold at?
  rw [hs, List.find?_append, List.find?_eq_none.2 (fun x hx => by simpa using hn x hx)]
  simp [he]
set_option maxHeartbeats 2000000 in
theorem refGet_any (v : Value) (P : List Pr) (key : ByteArray) (w : World) (h : ReadsP w v P) (hl : P.length ≤ 100000) :
    Calls Tryz.prog 19 #[v, .string key] w fun e w' => e = .returned (.tuple #[.string (getV key P), .bool (at? Pr.key key P).isSome]) ∧ Below w.heap.size w w' := by
  obtain ⟨va, vc, rfl⟩ := h.shape
  obtain ⟨n, hn⟩ : ∃ n, n = P.length := ⟨_, rfl⟩
  rw [← hn] at h hl ⊢
  have HV : Hid (∀ k a, P[k]? = some a → ∃ b off, va = some ⟨b, off, none⟩ ∧ b < w.heap.size ∧ w.rangeAt b (off + k * 2) (prC a)) := Lib.hid (fun k a ha => by
    rcases h with ⟨e, rfl⟩ | ⟨b, off, cap, e, h1, h2, h3, h4⟩
    · simp at ha
    · obtain ⟨rfl, -, -⟩ := Value.slice.inj e
      exact ⟨b, off, rfl, h3, h4 k a ha⟩)
  have HN := Lib.hid hn
  clear h hn
  go_enter Tryz.func19, Tryz.ntmps19
  go_wp2_with fail
  go_loopw [6] (fun i wr => ∃ k : Nat, k ≤ n ∧ i = .int .i64 k ∧ (∀ x ∈ P.take k, x.key ≠ key) ∧ Below w.heap.size w wr) (fun i _ => n - (intOf i).toNat)
  case atStart => exact ⟨0, Nat.zero_le _, rfl, by simp, Below.refl _ _⟩
  case round =>
    obtain ⟨k, hk, rfl, hno, hb⟩ := hrel
    have HNO := Lib.hid hno
    clear hno
    by_cases hlt : k < n
    · obtain ⟨a, ha⟩ : ∃ a, P[k]? = some a := ⟨P[k]'(by have := HN.out; omega), List.getElem?_eq_getElem _⟩
      obtain ⟨b1, o1, rfl, hb1, r1⟩ := HV.out k a ha
      obtain ⟨c0, c1⟩ := two (Batch.range_below r1 hb1 hb)
      have hke := key_eq a.key key
      by_cases he : a.key = key
      · have hat := getV_hit ha HNO.out he
        have HR : Hid (getV key P = a.val ∧ (at? Pr.key key P).isSome = true) := Lib.hid ⟨by unfold getV; rw [hat], by rw [hat]; rfl⟩
        rw [decide_eq_true he] at hke
        clear ha r1 he hat
        go_wp2_with fail
        go_ret2
        exact ⟨by rw [HR.out.1, HR.out.2]; rfl, hb⟩
      · rw [decide_eq_false he] at hke
        have HT := Lib.hid (take_next (p := fun x : Pr => x.key ≠ key) ha HNO.out he)
        clear ha r1 he
        go_wp2_with fail
        go_roundw
        case rel => exact ⟨k + 1, by omega, by simp, HT.out, hb⟩
        case measure => simp [intOf]; omega
    · have hq : P.take k = P := List.take_of_length_le (by have := HN.out; omega)
      have HR : Hid (getV key P = ⟨#[]⟩ ∧ (at? Pr.key key P).isSome = false) := Lib.hid (by
        have hno := HNO.out
        rw [hq] at hno
        have hat : at? Pr.key key P = none := List.find?_eq_none.2 (fun x hx => by simpa using hno x hx)
        exact ⟨by unfold getV; rw [hat], by rw [hat]; rfl⟩)
      clear hq
      go_wp2_with fail
      go_ret2
      exact ⟨by rw [HR.out.1, HR.out.2]; rfl, hb⟩
end Go.Proofs.YtghpohiinnallaaGreatDoor.Kv

/-
  Walk of the document's One: pairs with a change done.
-/
namespace Go.Proofs.YtghpohiinnallaaGreatDoor.Kv
open Go Go.RowKit
open Go.Proofs.YtghpohiinnallaaGreatDoor.Batch (less Rising at? Chg ReadsC refT chC chV boxC sets outs flag outs_snoc flag_snoc outs_end outs_nil outs_length)

theorem append_onef (mo : Nat) {us : List Pr} (hn : us.length = mo) (W : World) (B : Nat) (ou : Value) (y : Pr) (ho : W.ownsRow B rfT 2 ou mo (us.flatMap prC)) (hl : mo ≤ 100000) (hB : B ≤ W.heap.size) :
    ∃ a c w', (Builtin.append_ #[rfsT, rfsT] rfsT #[ou, .slice (some ⟨W.heap.size, 0, none⟩) 1 1]).run Tryz.prog (W.alloc (boxP rfT y)) = .ok (.slice a (mo + 1) c) w' ∧
      Hid (w'.ownsRow B rfT 2 (.slice a (mo + 1) c) (mo + 1) ((us ++ [y]).flatMap prC) ∧ Below B W w') := by
  subst hn
  have hal : Below B W (W.alloc (boxP rfT y)) := (Below.refl _ _).alloc hB _
  obtain ⟨i0, hi, hz0, hz1, hz2⟩ := info_parts infoF
  obtain ⟨v', w', hr, h2, h3, h4⟩ := run_append_own (P := Tryz.prog) (W.alloc (boxP rfT y)) B rfsT rfsT rfT i0 _ 2 32 Tryz.underlying31 hi hz0 hz1 hz2 rfl (by decide) ou us.length _ (ho.alloc _) ⟨W.heap.size, 0, none⟩ 1 1 (prC y) rfl (fun j u hu => by rw [Batch.addr_add]; exact new_boxP W rfT y j u hu) (one_cell2 y) (by unfold maxLen; omega) (by omega) (by simp; omega)
  obtain ⟨a, c, rfl⟩ := Batch.owns_slice h2
  refine ⟨a, c, w', hr, Lib.hid ⟨?_, ?_⟩⟩
  · rw [flat2_snoc]; exact h2
  · exact hal.grown h3 (by simp; omega) fun k hk => ((ho.alloc (boxP rfT y)).lt k hk).1
set_option maxRecDepth 100000 in
set_option maxHeartbeats 4000000 in
theorem refOne_any (v : Value) (A : List Pr) (ch : Chg) (w : World) (h : ReadsP w v A) (hA : Rising Pr.key A) (hAl : A.length ≤ 5000) :
    Calls Tryz.prog 108 #[v, chV ch] w fun e w' => ∃ u, e = .returned u ∧ w'.ownsRow w.heap.size rfT 2 u (one A ch).length ((one A ch).flatMap prC) ∧ Below w.heap.size w w' := by
  obtain ⟨a, c, rfl⟩ := h.shape
  obtain ⟨m, hm⟩ : ∃ m, A.length = m := ⟨_, rfl⟩
  rw [hm] at h ⊢
  have hBX : Below w.heap.size w (w.alloc (boxC refT ch)) := (Below.refl _ _).alloc (Nat.le_refl _) _
  have HBX := Lib.hid (And.intro hBX (And.intro (h.below hBX) (Batch.new_box w refT ch)))
  go_enter Tryz.func108, Tryz.ntmps108
  obtain ⟨d0, d1, d2⟩ := Batch.three HBX.out.2.2
  simp only [Nat.zero_add] at d1 d2
  have hg : w.heap.size < (w.alloc (boxC refT ch)).heap.size := by simp
  have HG := Lib.hid hg
  have HT := Lib.hid (And.intro hm hA)
  clear h hA hBX hg
  go_wp2_with fail
  generalize w.alloc (boxC refT ch) = W1 at *
  generalize hgw : w.heap.size = g at *
  obtain ⟨x, hx⟩ : ∃ x, x = prOf ch := ⟨_, rfl⟩
  obtain ⟨ok, hok⟩ : ∃ ok, ok = !ch.gone := ⟨_, rfl⟩
  have HX := Lib.hid (And.intro hx (And.intro hok hgw))
  clear hx hok d0 d1 d2 hgw
  go_loopw [5, 6, 7] (fun ou pv kv wr => ∃ j mo : Nat, j ≤ m ∧ kv = .int .i64 j ∧ (outs Pr.key ok x (A.take j)).length = mo ∧ mo ≤ m + 1 ∧ pv = .bool (flag Pr.key ok x (A.take j)) ∧ wr.ownsRow W1.heap.size rfT 2 ou mo ((outs Pr.key ok x (A.take j)).flatMap prC) ∧ Below W1.heap.size W1 wr) (fun _ _ kv _ => m - (intOf kv).toNat)
  case atStart =>
    refine ⟨0, 0, Nat.zero_le _, rfl, ?_, by omega, ?_, ?_, Below.refl _ _⟩
    · rw [List.take_zero, outs_nil]; rfl
    · rw [List.take_zero, HX.out.2.1]; simp [flag]
    · rw [List.take_zero, outs_nil]; exact World.ownsRow_nil _ _ _ _
  case round =>
    obtain ⟨j, mo, hj, rfl, hmo, hmo2, rfl, ho, hb2⟩ := hrel
    obtain ⟨ua, uc, hu⟩ := Batch.owns_slice ho
    subst hu
    obtain ⟨fl, hfl⟩ : ∃ fl, flag Pr.key ok x (A.take j) = fl := ⟨_, rfl⟩
    rw [hfl]
    by_cases hlj : j < m
    · obtain ⟨y, hy⟩ : ∃ y, A[j]? = some y := ⟨A[j]'(by have := HT.out.1; omega), List.getElem?_eq_getElem _⟩
      have HRY := Lib.hid (fun (W : World) (hW : Below W1.heap.size W1 W) => (by
        have hr := HBX.out.2.1.below hW
        rcases hr with ⟨e, hq⟩ | ⟨b, off, cap, e, h1, h2, h3, h4⟩
        · rw [hq] at hy; simp at hy
        · obtain ⟨rfl, -, -⟩ := Value.slice.inj e
          obtain ⟨k0, k1⟩ := two (h4 j y hy)
          exact ⟨b, off, rfl, k0, k1⟩ : ∃ b off, a = some ⟨b, off, none⟩ ∧ W.cell? ⟨b, off + j * 2, none⟩ = some (.string y.key) ∧ W.cell? ⟨b, off + j * 2 + 1, none⟩ = some (.string y.val)))
      have HCX := Lib.hid (fun (W : World) (hW : Below W1.heap.size W1 W) => Batch.three (Batch.range_below HBX.out.2.2 HG.out hW))
      have et : A.take j ++ [y] = A.take (j + 1) := by rw [List.take_add_one, hy]; rfl
      have hsn := outs_snoc Pr.key ok x (A.take j) y (by
        rw [et]
        exact HT.out.2.sublist (List.take_sublist _ _))
      have hfs := flag_snoc Pr.key ok x (A.take j) y
      rw [et] at hsn hfs
      rw [hfl] at hsn hfs
      obtain ⟨ly, hly⟩ : ∃ ly, less y.key x.key = ly := ⟨_, rfl⟩
      rw [hly] at hsn hfs
      have HS := Lib.hid (And.intro hsn (And.intro hfs (And.intro hmo (And.intro ho hb2))))
      obtain ⟨b, off, rfl, k0, k1⟩ := HRY.out _ hb2
      have HRB := Lib.hid (fun (W : World) (hW : Below W1.heap.size W1 W) => (by
        obtain ⟨b', off', e, k0, k1⟩ := HRY.out W hW
        obtain ⟨rfl, rfl⟩ : b = b' ∧ off = off' := by simpa using e
        exact ⟨k0, k1⟩ : W.cell? ⟨b, off + j * 2, none⟩ = some (.string y.key) ∧ W.cell? ⟨b, off + j * 2 + 1, none⟩ = some (.string y.val)))
      obtain ⟨d0, d1, d2⟩ := HCX.out _ hb2
      clear hsn hfs hmo ho hb2 hy hfl et
      simp only [Nat.zero_add] at d1 d2
      obtain ⟨ek, hek⟩ : ∃ ek, decide (y.key = ch.key) = ek := ⟨_, rfl⟩
      have hke := (Batch.key_eq y.key ch.key).trans hek
      have hlb := Batch.less_toList y.key ch.key
      rw [show less y.key ch.key = ly by rw [← hly, HX.out.1]; rfl] at hlb
      have hge : ly = true → ek = false := fun e => by
        cases ek
        · rfl
        · have h1 : y.key = ch.key := by simpa using hek
          have h2 := Batch.less_irrefl ch.key
          rw [Batch.less_toList, h1, h2, e] at hlb
          cases hlb
      have HE := Lib.hid hek
      clear hek hly
      go_wp2_with fail
      cases fl
      · go_quiet (fail)
        have hbq : Below wr.heap.size wr (wr.drewN nq) := below_drewN (Below.refl _ _) nq
        have HW2 := Lib.hid (And.intro (Nets.owns_below HS.out.2.2.2.1 hbq) (HS.out.2.2.2.2.trans (hbq.mono HS.out.2.2.2.2.size)))
        clear hbq k0 k1 d0 d1 d2
        generalize wr.drewN nq = W2 at *
        obtain ⟨d0, d1, d2⟩ := HCX.out _ HW2.out.2
        obtain ⟨k0, k1⟩ := HRB.out _ HW2.out.2
        simp only [Nat.zero_add] at d1 d2
        cases ly
        · obtain ⟨a4, c4, w4, hr4, hh4⟩ := append_onef (us := outs Pr.key ok x (A.take j)) mo HS.out.2.2.1 W2 W1.heap.size (.slice ua mo uc) (⟨ch.key, ch.val⟩ : Pr) HW2.out.1 (by omega) HW2.out.2.size
          have HRUN4 := Lib.hid hr4
          have HA4 := Lib.hid (And.intro hh4.out.1 (HW2.out.2.trans hh4.out.2))
          clear hr4 hh4
          go_wp2_with (at_builtin; refine Lib.wpList_append_run _ rfl _ _ _ _ rfl _ _ rfl rfl _ _ HRUN4.out ?_)
          clear HRUN4 d0 d1 d2 k0 k1
          cases ek
          · obtain ⟨d0, d1, d2⟩ := HCX.out _ HA4.out.2
            obtain ⟨k0, k1⟩ := HRB.out _ HA4.out.2
            simp only [Nat.zero_add] at d1 d2
            go_quiet (fail)
            have hbq : Below w4.heap.size w4 (w4.drewN nq) := below_drewN (Below.refl _ _) nq
            have HW5 := Lib.hid (And.intro (Nets.owns_below HA4.out.1 hbq) (HA4.out.2.trans (hbq.mono HA4.out.2.size)))
            clear hbq d0 d1 d2 k0 k1
            generalize w4.drewN nq = W5 at *
            obtain ⟨d0, d1, d2⟩ := HCX.out _ HW5.out.2
            obtain ⟨k0, k1⟩ := HRB.out _ HW5.out.2
            simp only [Nat.zero_add] at d1 d2
            obtain ⟨a6, c6, w6, hr6, hh6⟩ := append_onef (us := outs Pr.key ok x (A.take j) ++ [(⟨ch.key, ch.val⟩ : Pr)]) (mo + 1) (by rw [List.length_append, HS.out.2.2.1]; rfl) W5 W1.heap.size (.slice a4 (mo + 1) c4) (⟨y.key, y.val⟩ : Pr) HW5.out.1 (by omega) HW5.out.2.size
            have HRUN6 := Lib.hid hr6
            have HA6 := Lib.hid (And.intro hh6.out.1 (HW5.out.2.trans hh6.out.2))
            clear hr6 hh6
            go_wp2_with (at_builtin; refine Lib.wpList_append_run _ rfl _ _ _ _ rfl _ _ rfl rfl _ _ HRUN6.out ?_)
            clear HRUN6 d0 d1 d2 k0 k1
            go_roundw
            case rel =>
              obtain ⟨hsn, hfs, hmo, -, -⟩ := HS.out
              have hxe : x = (⟨ch.key, ch.val⟩ : Pr) := HX.out.1
              have hxk : x.key = ch.key := by rw [hxe]
              have hln := outs_length Pr.key ok x (A.take (j + 1))
              have htl : (A.take (j + 1)).length = j + 1 := by rw [List.length_take]; have := HT.out.1; omega
              have e : outs Pr.key ok x (A.take (j + 1)) = outs Pr.key ok x (A.take j) ++ [x] ++ [(⟨y.key, y.val⟩ : Pr)] := by
                rw [hsn]
                rw [if_pos (by simp)]
                rw [if_neg (by rw [hxk]; have := HE.out; simpa using this)]
              refine ⟨j + 1, mo + 1 + 1, by omega, by simp, ?_, ?_, ?_, ?_, HA6.out.2⟩
              · rw [e]; simp [hmo]
              · have h1 := congrArg List.length e
                simp [hmo] at h1
                omega
              · rw [hfs]; simp
              · rw [e]
                have h9 := HA6.out.1
                rw [← hxe] at h9
                exact h9
            case measure => simp [intOf]; omega
          · obtain ⟨d0, d1, d2⟩ := HCX.out _ HA4.out.2
            obtain ⟨k0, k1⟩ := HRB.out _ HA4.out.2
            simp only [Nat.zero_add] at d1 d2
            go_quiet (fail)
            have hbq : Below w4.heap.size w4 (w4.drewN nq) := below_drewN (Below.refl _ _) nq
            have HW5 := Lib.hid (And.intro (Nets.owns_below HA4.out.1 hbq) (HA4.out.2.trans (hbq.mono HA4.out.2.size)))
            clear hbq d0 d1 d2 k0 k1
            generalize w4.drewN nq = W5 at *
            obtain ⟨d0, d1, d2⟩ := HCX.out _ HW5.out.2
            obtain ⟨k0, k1⟩ := HRB.out _ HW5.out.2
            simp only [Nat.zero_add] at d1 d2
            go_wp2_with fail
            go_roundw
            case rel =>
              obtain ⟨hsn, hfs, hmo, -, -⟩ := HS.out
              have hxe : x = (⟨ch.key, ch.val⟩ : Pr) := HX.out.1
              have hxk : x.key = ch.key := by rw [hxe]
              have hln := outs_length Pr.key ok x (A.take (j + 1))
              have htl : (A.take (j + 1)).length = j + 1 := by rw [List.length_take]; have := HT.out.1; omega
              have e : outs Pr.key ok x (A.take (j + 1)) = outs Pr.key ok x (A.take j) ++ [x] := by
                rw [hsn]
                rw [if_pos (by simp)]
                rw [if_pos (by rw [hxk]; have := HE.out; simpa using this), List.append_nil]
              refine ⟨j + 1, mo + 1, by omega, by simp, ?_, ?_, ?_, ?_, HW5.out.2⟩
              · rw [e]; simp [hmo]
              · have h1 := congrArg List.length e
                simp [hmo] at h1
                omega
              · rw [hfs]; simp
              · rw [e]
                have h9 := HW5.out.1
                rw [← hxe] at h9
                exact h9
            case measure => simp [intOf]; omega
        · have HEK := hge rfl
          subst HEK
          go_wp2_with fail
          clear d0 d1 d2 k0 k1
          obtain ⟨d0, d1, d2⟩ := HCX.out _ HW2.out.2
          obtain ⟨k0, k1⟩ := HRB.out _ HW2.out.2
          simp only [Nat.zero_add] at d1 d2
          go_quiet (fail)
          have hbq : Below W2.heap.size W2 (W2.drewN nq) := below_drewN (Below.refl _ _) nq
          have HW5 := Lib.hid (And.intro (Nets.owns_below HW2.out.1 hbq) (HW2.out.2.trans (hbq.mono HW2.out.2.size)))
          clear hbq d0 d1 d2 k0 k1
          generalize W2.drewN nq = W5 at *
          obtain ⟨d0, d1, d2⟩ := HCX.out _ HW5.out.2
          obtain ⟨k0, k1⟩ := HRB.out _ HW5.out.2
          simp only [Nat.zero_add] at d1 d2
          obtain ⟨a6, c6, w6, hr6, hh6⟩ := append_onef (us := outs Pr.key ok x (A.take j)) mo HS.out.2.2.1 W5 W1.heap.size (.slice ua mo uc) (⟨y.key, y.val⟩ : Pr) HW5.out.1 (by omega) HW5.out.2.size
          have HRUN6 := Lib.hid hr6
          have HA6 := Lib.hid (And.intro hh6.out.1 (HW5.out.2.trans hh6.out.2))
          clear hr6 hh6
          go_wp2_with (at_builtin; refine Lib.wpList_append_run _ rfl _ _ _ _ rfl _ _ rfl rfl _ _ HRUN6.out ?_)
          clear HRUN6 d0 d1 d2 k0 k1
          go_roundw
          case rel =>
            obtain ⟨hsn, hfs, hmo, -, -⟩ := HS.out
            have hxe : x = (⟨ch.key, ch.val⟩ : Pr) := HX.out.1
            have hxk : x.key = ch.key := by rw [hxe]
            have hln := outs_length Pr.key ok x (A.take (j + 1))
            have htl : (A.take (j + 1)).length = j + 1 := by rw [List.length_take]; have := HT.out.1; omega
            have e : outs Pr.key ok x (A.take (j + 1)) = outs Pr.key ok x (A.take j) ++ [(⟨y.key, y.val⟩ : Pr)] := by
              rw [hsn]
              rw [if_neg (by simp)]
              rw [if_neg (by rw [hxk]; have := HE.out; simpa using this)]
            refine ⟨j + 1, mo + 1, by omega, by simp, ?_, ?_, ?_, ?_, HA6.out.2⟩
            · rw [e]; simp [hmo]
            · have h1 := congrArg List.length e
              simp [hmo] at h1
              omega
            · rw [hfs]; simp
            · rw [e]
              have h9 := HA6.out.1
              exact h9
          case measure => simp [intOf]; omega
      · go_quiet (fail)
        have hbq : Below wr.heap.size wr (wr.drewN nq) := below_drewN (Below.refl _ _) nq
        have HW2 := Lib.hid (And.intro (Nets.owns_below HS.out.2.2.2.1 hbq) (HS.out.2.2.2.2.trans (hbq.mono HS.out.2.2.2.2.size)))
        clear hbq k0 k1 d0 d1 d2
        generalize wr.drewN nq = W2 at *
        obtain ⟨d0, d1, d2⟩ := HCX.out _ HW2.out.2
        obtain ⟨k0, k1⟩ := HRB.out _ HW2.out.2
        simp only [Nat.zero_add] at d1 d2
        go_wp2_with fail
        clear d0 d1 d2 k0 k1
        cases ek
        · obtain ⟨d0, d1, d2⟩ := HCX.out _ HW2.out.2
          obtain ⟨k0, k1⟩ := HRB.out _ HW2.out.2
          simp only [Nat.zero_add] at d1 d2
          go_quiet (fail)
          have hbq : Below W2.heap.size W2 (W2.drewN nq) := below_drewN (Below.refl _ _) nq
          have HW5 := Lib.hid (And.intro (Nets.owns_below HW2.out.1 hbq) (HW2.out.2.trans (hbq.mono HW2.out.2.size)))
          clear hbq d0 d1 d2 k0 k1
          generalize W2.drewN nq = W5 at *
          obtain ⟨d0, d1, d2⟩ := HCX.out _ HW5.out.2
          obtain ⟨k0, k1⟩ := HRB.out _ HW5.out.2
          simp only [Nat.zero_add] at d1 d2
          obtain ⟨a6, c6, w6, hr6, hh6⟩ := append_onef (us := outs Pr.key ok x (A.take j)) mo HS.out.2.2.1 W5 W1.heap.size (.slice ua mo uc) (⟨y.key, y.val⟩ : Pr) HW5.out.1 (by omega) HW5.out.2.size
          have HRUN6 := Lib.hid hr6
          have HA6 := Lib.hid (And.intro hh6.out.1 (HW5.out.2.trans hh6.out.2))
          clear hr6 hh6
          go_wp2_with (at_builtin; refine Lib.wpList_append_run _ rfl _ _ _ _ rfl _ _ rfl rfl _ _ HRUN6.out ?_)
          clear HRUN6 d0 d1 d2 k0 k1
          go_roundw
          case rel =>
            obtain ⟨hsn, hfs, hmo, -, -⟩ := HS.out
            have hxe : x = (⟨ch.key, ch.val⟩ : Pr) := HX.out.1
            have hxk : x.key = ch.key := by rw [hxe]
            have hln := outs_length Pr.key ok x (A.take (j + 1))
            have htl : (A.take (j + 1)).length = j + 1 := by rw [List.length_take]; have := HT.out.1; omega
            have e : outs Pr.key ok x (A.take (j + 1)) = outs Pr.key ok x (A.take j) ++ [(⟨y.key, y.val⟩ : Pr)] := by
              rw [hsn]
              rw [if_neg (by simp)]
              rw [if_neg (by rw [hxk]; have := HE.out; simpa using this)]
            refine ⟨j + 1, mo + 1, by omega, by simp, ?_, ?_, ?_, ?_, HA6.out.2⟩
            · rw [e]; simp [hmo]
            · have h1 := congrArg List.length e
              simp [hmo] at h1
              omega
            · rw [hfs]; simp
            · rw [e]
              have h9 := HA6.out.1
              exact h9
          case measure => simp [intOf]; omega
        · obtain ⟨d0, d1, d2⟩ := HCX.out _ HW2.out.2
          obtain ⟨k0, k1⟩ := HRB.out _ HW2.out.2
          simp only [Nat.zero_add] at d1 d2
          go_quiet (fail)
          have hbq : Below W2.heap.size W2 (W2.drewN nq) := below_drewN (Below.refl _ _) nq
          have HW5 := Lib.hid (And.intro (Nets.owns_below HW2.out.1 hbq) (HW2.out.2.trans (hbq.mono HW2.out.2.size)))
          clear hbq d0 d1 d2 k0 k1
          generalize W2.drewN nq = W5 at *
          obtain ⟨d0, d1, d2⟩ := HCX.out _ HW5.out.2
          obtain ⟨k0, k1⟩ := HRB.out _ HW5.out.2
          simp only [Nat.zero_add] at d1 d2
          go_wp2_with fail
          go_roundw
          case rel =>
            obtain ⟨hsn, hfs, hmo, -, -⟩ := HS.out
            have hxe : x = (⟨ch.key, ch.val⟩ : Pr) := HX.out.1
            have hxk : x.key = ch.key := by rw [hxe]
            have hln := outs_length Pr.key ok x (A.take (j + 1))
            have htl : (A.take (j + 1)).length = j + 1 := by rw [List.length_take]; have := HT.out.1; omega
            have e : outs Pr.key ok x (A.take (j + 1)) = outs Pr.key ok x (A.take j) := by
              rw [hsn]
              rw [if_neg (by simp)]
              rw [if_pos (by rw [hxk]; have := HE.out; simpa using this), List.append_nil]
            refine ⟨j + 1, mo, by omega, by simp, ?_, ?_, ?_, ?_, HW5.out.2⟩
            · rw [e]; simp [hmo]
            · have h1 := congrArg List.length e
              simp [hmo] at h1
              omega
            · rw [hfs]; simp
            · rw [e]
              have h9 := HW5.out.1
              exact h9
          case measure => simp [intOf]; omega
    · obtain rfl : j = m := by omega
      have hta : A.take j = A := by rw [← HT.out.1, List.take_length]
      rw [hta] at hfl hmo ho
      have hend := outs_end Pr.key ok x A
      rw [hfl] at hend
      have hone : one A ch = sets Pr.key ok x A := by rw [HX.out.1, HX.out.2.1]; rfl
      have HZ := Lib.hid (And.intro hend (And.intro hone (And.intro hmo (And.intro ho hb2))))
      obtain ⟨d0, d1, d2⟩ := Batch.three (Batch.range_below HBX.out.2.2 HG.out hb2)
      simp only [Nat.zero_add] at d1 d2
      clear hend hone hta hfl
      cases fl
      · obtain ⟨a4, c4, w4, hr4, hh4⟩ := append_onef mo hmo wr W1.heap.size (.slice ua mo uc) (⟨ch.key, ch.val⟩ : Pr) ho (by omega) hb2.size
        have HRUN := Lib.hid hr4
        have HA := Lib.hid (And.intro hh4.out.1 (hb2.trans hh4.out.2))
        clear hr4 hh4 ho hb2 hmo
        go_wp2_with (at_builtin; refine Lib.wpList_append_run _ rfl _ _ _ _ rfl _ _ rfl rfl _ _ HRUN.out ?_)
        go_ret
        have hgw := HX.out.2.2
        subst hgw
        obtain ⟨hend, hone, hmo, -, -⟩ := HZ.out
        have hxe : x = (⟨ch.key, ch.val⟩ : Pr) := HX.out.1
        have e : one A ch = outs Pr.key ok x A ++ [x] := by rw [hone, hend]; simp
        have hlen : (one A ch).length = mo + 1 := by rw [e, List.length_append, hmo]; rfl
        have h9 := HA.out.1
        rw [← hxe, ← e] at h9
        exact ⟨_, rfl, by rw [hlen]; exact Wal.owns_low h9 (by have := HBX.out.1.size; omega), HBX.out.1.trans (HA.out.2.mono (by have := HBX.out.1.size; omega))⟩
      · clear ho hb2 hmo
        go_wp2_with fail
        go_ret
        have hgw := HX.out.2.2
        subst hgw
        obtain ⟨hend, hone, hmo, ho, hb2⟩ := HZ.out
        have e : one A ch = outs Pr.key ok x A := by rw [hone, hend]; simp
        have hlen : (one A ch).length = mo := by rw [e, hmo]
        have h9 := ho
        rw [← e] at h9
        exact ⟨_, rfl, by rw [hlen]; exact Wal.owns_low h9 (by have := HBX.out.1.size; omega), HBX.out.1.trans (hb2.mono (by have := HBX.out.1.size; omega))⟩
end Go.Proofs.YtghpohiinnallaaGreatDoor.Kv

/-
  Walk of the document's Done: pairs with changes done.
-/
namespace Go.Proofs.YtghpohiinnallaaGreatDoor.Kv
open Go Go.RowKit
open Go.Proofs.YtghpohiinnallaaGreatDoor.Batch (less Rising at? Chg ReadsC refT chC chV boxC)

set_option maxRecDepth 100000 in
set_option maxHeartbeats 4000000 in
theorem refDone_any (v cv : Value) (P : List Pr) (l : List Chg) (w : World) (h : ReadsP w v P) (hc : ReadsC w cv l) (hP : Rising Pr.key P) (hPl : P.length ≤ 4900) (hll : l.length ≤ 40) :
    Calls Tryz.prog 68 #[v, cv] w (NextPost w v (done P l)) := by
  obtain ⟨va, vc, hv⟩ := h.shape
  obtain ⟨ca, cc, rfl⟩ := Batch.reads_form hc
  obtain ⟨n, hn⟩ : ∃ n, n = l.length := ⟨_, rfl⟩
  rw [← hn]
  have HC : Hid (∀ k c, l[k]? = some c → ∃ b off, ca = some ⟨b, off, none⟩ ∧ b < w.heap.size ∧ w.rangeAt b (off + k * 3) (chC c)) := Lib.hid (fun k c hx => by
    rcases hc with ⟨a, cap, e, rfl⟩ | ⟨h0, b, off, cap, e, h3, h4⟩
    · simp at hx
    · obtain ⟨rfl, -, -⟩ := Value.slice.inj e
      exact ⟨b, off, rfl, h3, h4 k c hx⟩)
  have HN := Lib.hid (And.intro hn (And.intro hP (And.intro hPl (And.intro h hv))))
  have hn40 : n ≤ 40 := by omega
  clear h hc hn hP hll hv
  go_enter Tryz.func68, Tryz.ntmps68
  go_wp2_with fail
  go_loopw [0, 5] (fun lv iv wr => ∃ (i : Nat) (u : Value), i ≤ n ∧ iv = .int .i64 i ∧ (done P (l.take i)).length ≤ 4900 + i ∧ u = lv ∧ ReadsP wr u (done P (l.take i)) ∧ (∀ b, u.ownBlock = some b → v.ownBlock = some b ∨ w.heap.size ≤ b) ∧ Below w.heap.size w wr) (fun _ i _ => n - (intOf i).toNat)
  case atStart => exact ⟨0, v, Nat.zero_le _, rfl, hPl, rfl, HN.out.2.2.2.1, fun b hb => .inl hb, Below.refl _ _⟩
  case round =>
    obtain ⟨i, u, hi, rfl, hm, rfl, hr, hob, hb⟩ := hrel
    by_cases hlt : i < n
    · obtain ⟨ch, hch⟩ : ∃ ch, l[i]? = some ch := ⟨l[i]'(by have := HN.out.1; omega), List.getElem?_eq_getElem _⟩
      obtain ⟨cb, co, rfl, hcb, hcr⟩ := HC.out i ch hch
      obtain ⟨c0, c1, c2⟩ := Batch.three (Batch.range_below hcr hcb hb)
      have hris : Rising Pr.key (done P (l.take i)) := done_rising HN.out.2.1 _
      have ht : done P (l.take (i + 1)) = one (done P (l.take i)) ch := by rw [List.take_add_one, hch]; exact done_snoc _ _ _
      have HONE := Lib.hid (refOne_any u (done P (l.take i)) ch wr hr hris (by omega))
      have hol := one_length (done P (l.take i)) ch
      rw [← ht] at hol
      have HT := Lib.hid (And.intro ht (And.intro hb (show (done P (l.take (i + 1))).length ≤ 4900 + (i + 1) by omega)))
      clear hcr hch hr hris ht hol hm hob hb
      go_wp2_with fail
      refine HONE.out.mono ?_
      rintro e w1 ⟨u1, rfl, ho1, hb1⟩
      have HO := Lib.hid (And.intro ho1 hb1)
      clear ho1 hb1 HONE
      go_wp2_with fail
      go_roundw
      case rel =>
        obtain ⟨ht, hb, hln⟩ := HT.out
        refine ⟨i + 1, u1, by omega, by simp, hln, rfl, ?_, fun b hb2 => .inr ?_, hb.trans (HO.out.2.mono hb.size)⟩
        · rw [ht]; exact owns_readsP HO.out.1
        · have := (HO.out.1.lt b hb2).1
          have := hb.size
          omega
      case measure => simp [intOf]; omega
    · have htk : l.take i = l := List.take_of_length_le (by have := HN.out.1; omega)
      rw [htk] at hr
      have HO := Lib.hid (And.intro hr (And.intro hb hob))
      clear hr hb hob htk hm
      go_wp2_with fail
      go_ret
      exact ⟨_, rfl, HO.out.1, HO.out.2.1, HO.out.2.2⟩
end Go.Proofs.YtghpohiinnallaaGreatDoor.Kv

/-
  Walks of the document's store: Range; what its list is.
-/
namespace Go.Proofs.YtghpohiinnallaaGreatDoor.Kv
open Go Go.RowKit
open Go.Proofs.YtghpohiinnallaaGreatDoor.Batch (less Rising at? Chg lo lo_le lo_below less_toList)

def inR (f t : ByteArray) (p : Pr) : Bool := !less p.key f && less p.key t
theorem range_eq {f t : ByteArray} {P : List Pr} (hr : Rising Pr.key P) : rangeL f t P = P.filter (inR f t) := by
  have hb : ∀ (n : ByteArray) i (hi : i < P.length), less P[i].key n = decide (i < lo Pr.key n P) := fun n i hi => lo_below Pr.key hr (n := n) hi
  have h1 := lo_le Pr.key f P
  have h2 := lo_le Pr.key t P
  unfold rangeL
  obtain ⟨a, ha⟩ : ∃ a, a = lo Pr.key f P := ⟨_, rfl⟩
  obtain ⟨M, hM⟩ : ∃ M, M = max (lo Pr.key f P) (lo Pr.key t P) := ⟨_, rfl⟩
  rw [← hM, ← ha]
  have haM : a ≤ M := by omega
  have hMl : M ≤ P.length := by omega
  have e : P = P.take a ++ ((P.drop a).take (M - a) ++ P.drop M) := by
    have e2 : P.drop a = (P.drop a).take (M - a) ++ P.drop M := by
      conv => lhs; rw [← List.take_append_drop (M - a) (P.drop a)]
      rw [List.drop_drop, show a + (M - a) = M by omega]
    conv => lhs; rw [← List.take_append_drop a P]
    rw [← e2]
  conv => rhs; rw [e]
  rw [List.filter_append, List.filter_append]
  have f1 : (P.take a).filter (inR f t) = [] := by
    rw [List.filter_eq_nil_iff]
    intro x hx
    obtain ⟨i, hi, rfl⟩ := List.getElem_of_mem hx
    rw [List.length_take] at hi
    rw [List.getElem_take]
    unfold inR
    rw [hb f i (by omega), decide_eq_true (by omega)]
    simp
  have f2 : ((P.drop a).take (M - a)).filter (inR f t) = (P.drop a).take (M - a) := by
    rw [List.filter_eq_self]
    intro x hx
    obtain ⟨i, hi, rfl⟩ := List.getElem_of_mem hx
    rw [List.length_take, List.length_drop] at hi
    rw [List.getElem_take, List.getElem_drop]
    unfold inR
    rw [hb f _ (by omega), hb t _ (by omega), decide_eq_false (by omega), decide_eq_true (by omega)]
    rfl
  have f3 : (P.drop M).filter (inR f t) = [] := by
    rw [List.filter_eq_nil_iff]
    intro x hx
    obtain ⟨i, hi, rfl⟩ := List.getElem_of_mem hx
    rw [List.length_drop] at hi
    rw [List.getElem_drop]
    unfold inR
    rw [hb t _ (by omega), decide_eq_false (by omega)]
    simp
  rw [f1, f2, f3]
  simp
theorem filter_next {p : Pr → Bool} {P : List Pr} {k : Nat} {a : Pr} (h : P[k]? = some a) : (P.take (k + 1)).filter p = (P.take k).filter p ++ (if p a then [a] else []) := by
  rw [List.take_add_one, h]
  cases hp : p a <;> simp [List.filter_append, hp]
set_option maxRecDepth 100000 in
set_option maxHeartbeats 4000000 in
theorem refRange_any (v : Value) (P : List Pr) (f t : ByteArray) (w : World) (h : ReadsP w v P) (hl : P.length ≤ 5000) :
    Calls Tryz.prog 22 #[v, .string f, .string t] w fun e w' => ∃ u, e = .returned u ∧ w'.ownsRow w.heap.size rfT 2 u (P.filter (inR f t)).length ((P.filter (inR f t)).flatMap prC) ∧ Below w.heap.size w w' := by
  obtain ⟨va, vc, rfl⟩ := h.shape
  obtain ⟨n, hn⟩ : ∃ n, n = P.length := ⟨_, rfl⟩
  rw [← hn] at h hl ⊢
  have HV : Hid (∀ k a, P[k]? = some a → ∃ b off, va = some ⟨b, off, none⟩ ∧ b < w.heap.size ∧ w.rangeAt b (off + k * 2) (prC a)) := Lib.hid (fun k a ha => by
    rcases h with ⟨e, rfl⟩ | ⟨b, off, cap, e, h1, h2, h3, h4⟩
    · simp at ha
    · obtain ⟨rfl, -, -⟩ := Value.slice.inj e
      exact ⟨b, off, rfl, h3, h4 k a ha⟩)
  have HN := Lib.hid hn
  clear h hn
  go_enter Tryz.func22, Tryz.ntmps22
  go_wp2_with fail
  go_loopw [7, 8] (fun u i wr => ∃ k m : Nat, k ≤ n ∧ m ≤ k ∧ i = .int .i64 k ∧ ((P.take k).filter (inR f t)).length = m ∧ wr.ownsRow w.heap.size rfT 2 u m (((P.take k).filter (inR f t)).flatMap prC) ∧ Below w.heap.size w wr) (fun _ i _ => n - (intOf i).toNat)
  case atStart => exact ⟨0, 0, Nat.zero_le _, Nat.zero_le _, rfl, rfl, World.ownsRow_nil _ _ _ _, Below.refl _ _⟩
  case round =>
    obtain ⟨k, m, hk, hmk, rfl, hm, ho, hb⟩ := hrel
    obtain ⟨ua, uc, hu⟩ := Batch.owns_slice ho
    subst hu
    by_cases hlt : k < n
    · obtain ⟨a, ha⟩ : ∃ a, P[k]? = some a := ⟨P[k]'(by have := HN.out; omega), List.getElem?_eq_getElem _⟩
      obtain ⟨b1, o1, rfl, hb1, r1⟩ := HV.out k a ha
      obtain ⟨c0, c1⟩ := two (Batch.range_below r1 hb1 hb)
      have HCW := Lib.hid (fun (W : World) (hW : Below w.heap.size w W) => two (Batch.range_below r1 hb1 hW))
      have hfn := filter_next (p := inR f t) ha
      obtain ⟨g1, hg1⟩ : ∃ g1, less a.key f = g1 := ⟨_, rfl⟩
      obtain ⟨g2, hg2⟩ : ∃ g2, less a.key t = g2 := ⟨_, rfl⟩
      have e1 := (less_toList a.key f).trans hg1
      have e2 := (less_toList a.key t).trans hg2
      rw [show inR f t a = (!g1 && g2) by unfold inR; rw [hg1, hg2]] at hfn
      have HS := Lib.hid (And.intro hfn (And.intro hm (And.intro ho hb)))
      clear ha r1 hfn hm ho hb hg1 hg2
      cases g1
      · cases g2
        · go_wp2_with fail
          go_roundw
          case rel =>
            have e := HS.out.1
            rw [if_neg (by simp), List.append_nil] at e
            exact ⟨k + 1, m, by omega, by omega, by simp, by rw [e]; exact HS.out.2.1, by rw [e]; exact HS.out.2.2.1, HS.out.2.2.2⟩
          case measure => simp [intOf]; omega
        · obtain ⟨a4, c4, w4, hr4, hh4⟩ := append_onef m HS.out.2.1 wr w.heap.size (.slice ua m uc) (⟨a.key, a.val⟩ : Pr) HS.out.2.2.1 (by omega) HS.out.2.2.2.size
          have HRUN := Lib.hid hr4
          have HA := Lib.hid (And.intro hh4.out.1 (HS.out.2.2.2.trans hh4.out.2))
          clear hr4 hh4
          go_wp2_with (at_builtin; refine Lib.wpList_append_run _ rfl _ _ _ _ rfl _ _ rfl rfl _ _ HRUN.out ?_)
          go_roundw
          case rel =>
            have e := HS.out.1
            rw [if_pos (by simp)] at e
            exact ⟨k + 1, m + 1, by omega, by omega, by simp, by rw [e, List.length_append, HS.out.2.1]; rfl, by rw [e]; exact HA.out.1, HA.out.2⟩
          case measure => simp [intOf]; omega
      · go_wp2_with fail
        go_roundw
        case rel =>
          have e := HS.out.1
          rw [if_neg (by simp), List.append_nil] at e
          exact ⟨k + 1, m, by omega, by omega, by simp, by rw [e]; exact HS.out.2.1, by rw [e]; exact HS.out.2.2.1, HS.out.2.2.2⟩
        case measure => simp [intOf]; omega
    · have htk : P.take k = P := List.take_of_length_le (by have := HN.out; omega)
      rw [htk] at hm ho
      have ho2 : wr.ownsRow w.heap.size rfT 2 (.slice ua m uc) (P.filter (inR f t)).length ((P.filter (inR f t)).flatMap prC) := by rw [hm]; exact ho
      have HO := Lib.hid (And.intro ho2 hb)
      clear hm ho hb htk ho2
      go_wp2_with fail
      go_ret
      exact ⟨_, rfl, HO.out.1, HO.out.2⟩
end Go.Proofs.YtghpohiinnallaaGreatDoor.Kv

/-
  Walk of the document's store: Scan.
-/
namespace Go.Proofs.YtghpohiinnallaaGreatDoor.Kv
open Go Go.RowKit
open Go.Proofs.YtghpohiinnallaaGreatDoor.Batch (less Rising at? Chg)

set_option maxRecDepth 100000 in
set_option maxHeartbeats 4000000 in
theorem refScan_any (v : Value) (P : List Pr) (p : ByteArray) (w : World) (h : ReadsP w v P) (hl : P.length ≤ 5000) (_hp : p.size ≤ 9223372036854775807) (hks : ∀ y ∈ P, y.key.size ≤ 9223372036854775807) :
    Calls Tryz.prog 20 #[v, .string p] w fun e w' => ∃ u, e = .returned u ∧ w'.ownsRow w.heap.size rfT 2 u (scanL p P).length ((scanL p P).flatMap prC) ∧ Below w.heap.size w w' := by
  obtain ⟨va, vc, rfl⟩ := h.shape
  obtain ⟨n, hn⟩ : ∃ n, n = P.length := ⟨_, rfl⟩
  rw [← hn] at h hl ⊢
  have HV : Hid (∀ k a, P[k]? = some a → ∃ b off, va = some ⟨b, off, none⟩ ∧ b < w.heap.size ∧ w.rangeAt b (off + k * 2) (prC a)) := Lib.hid (fun k a ha => by
    rcases h with ⟨e, rfl⟩ | ⟨b, off, cap, e, h1, h2, h3, h4⟩
    · simp at ha
    · obtain ⟨rfl, -, -⟩ := Value.slice.inj e
      exact ⟨b, off, rfl, h3, h4 k a ha⟩)
  have HN := Lib.hid hn
  have HKS := Lib.hid hks
  clear h hn hks
  go_enter Tryz.func20, Tryz.ntmps20
  go_wp2_with fail
  go_loopw [5, 6] (fun u i wr => ∃ k m : Nat, k ≤ n ∧ m ≤ k ∧ i = .int .i64 k ∧ (scanL p (P.take k)).length = m ∧ wr.ownsRow w.heap.size rfT 2 u m ((scanL p (P.take k)).flatMap prC) ∧ Below w.heap.size w wr) (fun _ i _ => n - (intOf i).toNat)
  case atStart => exact ⟨0, 0, Nat.zero_le _, Nat.zero_le _, rfl, rfl, World.ownsRow_nil _ _ _ _, Below.refl _ _⟩
  case round =>
    obtain ⟨k, m, hk, hmk, rfl, hm, ho, hb⟩ := hrel
    obtain ⟨ua, uc, hu⟩ := Batch.owns_slice ho
    subst hu
    by_cases hlt : k < n
    · obtain ⟨a, ha⟩ : ∃ a, P[k]? = some a := ⟨P[k]'(by have := HN.out; omega), List.getElem?_eq_getElem _⟩
      obtain ⟨b1, o1, rfl, hb1, r1⟩ := HV.out k a ha
      obtain ⟨c0, c1⟩ := two (Batch.range_below r1 hb1 hb)
      have HCW := Lib.hid (fun (W : World) (hW : Below w.heap.size w W) => two (Batch.range_below r1 hb1 hW))
      have hfn : scanL p (P.take (k + 1)) = scanL p (P.take k) ++ (if hasP p a.key then [a] else []) := filter_next (p := fun x => hasP p x.key) ha
      have hkz := HKS.out a (List.mem_of_getElem? ha)
      obtain ⟨g1, hg1⟩ : ∃ g1, hasP p a.key = g1 := ⟨_, rfl⟩
      rw [hg1] at hfn
      have HS := Lib.hid (And.intro hfn (And.intro hm (And.intro ho hb)))
      clear ha r1 hfn hm ho hb
      by_cases hl2 : p.size ≤ a.key.size
      · have he := (hasP_eq hl2).trans hg1
        have hd : decide ((p.size : Int) ≤ (a.key.size : Int)) = true := decide_eq_true (by omega)
        have hd2 : decide (p.size ≤ a.key.size) = true := decide_eq_true hl2
        clear hg1
        cases g1
        · go_wp2_with fail
          go_roundw
          case rel =>
            have e := HS.out.1
            rw [if_neg (by simp), List.append_nil] at e
            exact ⟨k + 1, m, by omega, by omega, by simp, by rw [e]; exact HS.out.2.1, by rw [e]; exact HS.out.2.2.1, HS.out.2.2.2⟩
          case measure => simp [intOf]; omega
        · obtain ⟨a4, c4, w4, hr4, hh4⟩ := append_onef m HS.out.2.1 wr w.heap.size (.slice ua m uc) (⟨a.key, a.val⟩ : Pr) HS.out.2.2.1 (by omega) HS.out.2.2.2.size
          have HRUN := Lib.hid hr4
          have HA := Lib.hid (And.intro hh4.out.1 (HS.out.2.2.2.trans hh4.out.2))
          clear hr4 hh4
          go_wp2_with (at_builtin; refine Lib.wpList_append_run _ rfl _ _ _ _ rfl _ _ rfl rfl _ _ HRUN.out ?_)
          go_roundw
          case rel =>
            have e := HS.out.1
            rw [if_pos (by simp)] at e
            exact ⟨k + 1, m + 1, by omega, by omega, by simp, by rw [e, List.length_append, HS.out.2.1]; rfl, by rw [e]; exact HA.out.1, HA.out.2⟩
          case measure => simp [intOf]; omega
      · obtain rfl : g1 = false := by rw [← hg1]; exact hasP_len (by omega)
        have hd : decide ((p.size : Int) ≤ (a.key.size : Int)) = false := decide_eq_false (by omega)
        have hd2 : decide (p.size ≤ a.key.size) = false := decide_eq_false hl2
        clear hg1
        go_wp2_with fail
        go_roundw
        case rel =>
          have e := HS.out.1
          rw [if_neg (by simp), List.append_nil] at e
          exact ⟨k + 1, m, by omega, by omega, by simp, by rw [e]; exact HS.out.2.1, by rw [e]; exact HS.out.2.2.1, HS.out.2.2.2⟩
        case measure => simp [intOf]; omega
    · have htk : P.take k = P := List.take_of_length_le (by have := HN.out; omega)
      rw [htk] at hm ho
      have ho2 : wr.ownsRow w.heap.size rfT 2 (.slice ua m uc) (scanL p P).length ((scanL p P).flatMap prC) := by rw [hm]; exact ho
      have HO := Lib.hid (And.intro ho2 hb)
      clear hm ho hb htk ho2
      go_wp2_with fail
      go_ret
      exact ⟨_, rfl, HO.out.1, HO.out.2⟩
end Go.Proofs.YtghpohiinnallaaGreatDoor.Kv

/-
  Walk of the document's texts: puts of all pairs; how much they take.
-/
namespace Go.Proofs.YtghpohiinnallaaGreatDoor.Kv
open Go Go.RowKit
open Go.Proofs.YtghpohiinnallaaGreatDoor.Disk (Lies step_append_run)
open Go.Proofs.YtghpohiinnallaaGreatDoor.Wal (payS)
open Go.Proofs.YtghpohiinnallaaGreatDoor.Batch (Chg chV Fine writeS refWrite_any owns_slice)
open Go.Proofs.YtghpohiinnallaaGreatDoor.Nets (Reads Small str)

abbrev Cells2 (W : World) (b o : Nat) (p : Pr) : Prop := W.cell? ⟨b, o, none⟩ = some (.string p.key) ∧ W.cell? ⟨b, o + 1, none⟩ = some (.string p.val)
abbrev strsT' : TypeId := 28
set_option maxRecDepth 100000 in
set_option maxHeartbeats 4000000 in
theorem refTextsP_any (v : Value) (ps : List Pr) (w : World) (h : ReadsP w v ps) (hl : ps.length ≤ 100000) (hf : ∀ p ∈ ps, Fine (putC p)) :
    Calls Tryz.prog 72 #[v] w fun e w' => ∃ u, e = .returned u ∧ w'.ownsRow w.heap.size 9 1 u ps.length ((ptexts ps).map Value.string) ∧ Below w.heap.size w w' := by
  obtain ⟨va, vc, rfl⟩ := h.shape
  obtain ⟨N, hN⟩ : ∃ N, N = ps.length := ⟨_, rfl⟩
  rw [← hN] at h hl ⊢
  have HV : Hid (∀ k a, ps[k]? = some a → ∃ b off, va = some ⟨b, off, none⟩ ∧ b < w.heap.size ∧ w.rangeAt b (off + k * 2) (prC a)) := Lib.hid (fun k a ha => by
    rcases h with ⟨e, rfl⟩ | ⟨b, off, cap, e, h1, h2, h3, h4⟩
    · simp at ha
    · obtain ⟨rfl, -, -⟩ := Value.slice.inj e
      exact ⟨b, off, rfl, h3, h4 k a ha⟩)
  have HN := Lib.hid (And.intro hN hf)
  clear h hN hf
  go_enter Tryz.func72, Tryz.ntmps72
  go_wp2_with fail
  go_loopw [3, 4] (fun u i wr => ∃ k : Nat, k ≤ N ∧ i = .int .i64 k ∧ wr.ownsRow w.heap.size 9 1 u k ((ptexts (ps.take k)).map Value.string) ∧ Below w.heap.size w wr) (fun _ i _ => N - (intOf i).toNat)
  case atStart => exact ⟨0, Nat.zero_le _, rfl, World.ownsRow_nil _ _ _ _, Below.refl _ _⟩
  case round =>
    obtain ⟨k, hk, rfl, ho, hb⟩ := hrel
    obtain ⟨ua, uc, rfl⟩ := owns_slice ho
    by_cases hlt : k < N
    · obtain ⟨p, hp⟩ : ∃ p, ps[k]? = some p := ⟨ps[k]'(by rw [← HN.out.1]; exact hlt), List.getElem?_eq_getElem _⟩
      obtain ⟨b1, o1, rfl, hb1, r1⟩ := HV.out k p hp
      obtain ⟨c0, c1⟩ := two (Batch.range_below r1 hb1 hb)
      have hbd : Below wr.heap.size wr wr.drew := (Below.refl _ _).drew
      have HWR := Lib.hid (show Calls Tryz.prog 109 #[chV (putC p)] wr.drew (fun e w' => e = .returned (.string (texB (putC p))) ∧ Below wr.drew.heap.size wr.drew w') from refWrite_any (putC p) wr.drew (HN.out.2 p (List.mem_of_getElem? hp)))
      have e1 : ptexts (ps.take (k + 1)) = ptexts (ps.take k) ++ [texB (putC p)] := by
        unfold ptexts
        rw [List.take_add_one, hp]
        simp
      have HE := Lib.hid e1
      have HAP : Hid (∀ V2, Below wr.drew.heap.size wr.drew V2 → (Cells2 V2 b1 (o1 + k * 2) p ∧ Cells2 (V2.alloc (.cells #[.string (texB (putC p))] 9)) b1 (o1 + k * 2) p) ∧ ∃ a c w3, (Builtin.append_ #[strsT', strsT'] strsT' #[.slice ua k uc, .slice (some ⟨V2.heap.size, 0, none⟩) 1 1]).run Tryz.prog (V2.alloc (.cells #[.string (texB (putC p))] 9)) = .ok (.slice a (k + 1) c) w3 ∧ Cells2 w3 b1 (o1 + k * 2) p ∧ Hid (w3.ownsRow w.heap.size 9 1 (.slice a (k + 1) c) (k + 1) ((ptexts (ps.take (k + 1))).map Value.string) ∧ Below w.heap.size w w3)) := Lib.hid (fun V2 hV => by
        have hV' : Below wr.heap.size wr V2 := hbd.trans hV
        have hwv : Below w.heap.size w V2 := hb.trans (hV'.mono hb.size)
        obtain ⟨a3, c3, w3, hrun, hh⟩ := append_text V2 w.heap.size k (k + 1) _ _ (texB (putC p)) (Nets.owns_below ho hV') (by omega) rfl hwv.size
        refine ⟨⟨two (Batch.range_below r1 hb1 hwv), two (Batch.range_below r1 hb1 (hwv.alloc hwv.size _))⟩, a3, c3, w3, hrun, two (Batch.range_below r1 hb1 (hwv.trans hh.out.2)), Lib.hid ⟨?_, hwv.trans hh.out.2⟩⟩
        rw [HE.out, List.map_append]
        exact hh.out.1)
      clear hp r1 ho hb e1 hbd
      go_wp2_with fail
      have hS0 : Cells2 wr.drew b1 (o1 + k * 2) p := ⟨c0, c1⟩
      go_region_held_law (fun W => W.cell? ⟨b1, o1 + k * 2, none⟩ = some (.string p.key) ∧ W.cell? ⟨b1, o1 + k * 2 + 1, none⟩ = some (.string p.val)) (first | (with_reducible exact hS3) | (with_reducible exact hSA) | (with_reducible exact hS2) | (with_reducible exact hS0))
        (first
          | (refine step_append_run (by rfl) _ _ _ (by rfl) _ _ _ (by rfl) (by rfl) hrun ?_)
          | (go_at_call 109; (refine HWR.out.mono ?_); rintro e V2 ⟨rfl, hb2⟩; obtain ⟨⟨hS2, hSA⟩, a3, c3, w3, hrun, hS3, hh⟩ := HAP.out _ hb2))
      all_goals
        go_wp2_with fail
        go_roundw
        case rel => exact ⟨k + 1, by omega, by simp, hh.out.1, hh.out.2⟩
        case measure => simp [intOf]; omega
    · obtain rfl : k = N := by omega
      have hcl : ps.take k = ps := by rw [HN.out.1, List.take_length]
      rw [hcl] at ho
      have HO := Lib.hid (And.intro ho hb)
      clear ho hb hcl
      go_wp2_with fail
      go_ret
      exact ⟨_, rfl, HO.out.1, HO.out.2⟩
/-! How long texts are. -/
theorem put_len2 (l : List UInt8) (h : l.length ≤ 100000) : (Nets.putS l).length ≤ l.length + 22 := by
  have h1 : (Lib.decDigits l.length).length ≤ 20 := by rw [Lib.decDigits_length]; exact Lib.nDigits_le20 _ (by omega)
  unfold Nets.putS
  simp
  omega
theorem write_len {x : Chg} (h1 : x.key.size ≤ 2000) (h2 : x.val.size ≤ 2000) : (texB x).size ≤ x.key.size + x.val.size + 67 := by
  have hk := put_len2 (Batch.bl x.key) (by rw [Batch.bl_length]; omega)
  have hv := put_len2 (Batch.bl x.val) (by rw [Batch.bl_length]; omega)
  have hp := put_len2 (Batch.bl ⟨#[43]⟩) (by decide)
  have hq := put_len2 (Batch.bl ⟨#[45]⟩) (by decide)
  have h43 : (Batch.bl ⟨#[43]⟩).length = 1 := rfl
  have h45 : (Batch.bl ⟨#[45]⟩).length = 1 := rfl
  rw [Batch.bl_length] at hk hv
  have e : (texB x).size = (writeS x).length := by
    show (Batch.ba (writeS x)).size = _
    rw [← Batch.bl_length, Batch.bl_ba]
  rw [e]
  unfold writeS Batch.parts Nets.rowS
  split <;> simp <;> omega
theorem pay_used : ∀ (l : List Pr), (∀ p ∈ l, p.key.size ≤ 2000 ∧ p.val.size ≤ 2000) → (payS (ptexts l)).length ≤ used l + 89 * l.length
  | [], _ => Nat.le_refl _
  | p :: l, h => by
    have ih := pay_used l fun x hx => h x (by simp [hx])
    have h1 := write_len (x := putC p) (h p (by simp)).1 (h p (by simp)).2
    have h2 := put_len2 (Batch.bl (texB (putC p))) (by have := h p (by simp); rw [Batch.bl_length]; change (texB (putC p)).size ≤ p.key.size + p.val.size + 67 at h1; omega)
    rw [Batch.bl_length] at h2
    change (texB (putC p)).size ≤ p.key.size + p.val.size + 67 at h1
    have e : (payS (ptexts (p :: l))).length = (Nets.putS (Batch.bl (texB (putC p)))).length + (payS (ptexts l)).length := by
      unfold payS ptexts Nets.rowS
      simp
    have e2 : used (p :: l) = p.key.size + p.val.size + used l := by simp [used]
    rw [e, e2, List.length_cons, Nat.mul_add]
    omega
theorem texts_readsB {w : World} {B : Nat} {v : Value} {b : List Chg} (h : w.ownsRow B 9 1 v b.length (Batch.textV b)) : Reads w v (b.map texB) := by
  refine Nets.reads_owns (B := B) ?_
  rw [← textV_eq, List.length_map]
  exact h
theorem texts_readsP {w : World} {B : Nat} {v : Value} {P : List Pr} (h : w.ownsRow B 9 1 v P.length ((ptexts P).map Value.string)) : Reads w v (ptexts P) := by
  refine Nets.reads_owns (B := B) ?_
  unfold ptexts at h ⊢
  rw [List.length_map]
  exact h
end Go.Proofs.YtghpohiinnallaaGreatDoor.Kv
