/-
  Walks of head, the fourth part.
-/
import Derived.Test.YtegbkfloiiilfaaGreatDoorMgHeadC
import Derived.Deep.RegionHeld

/-
  Walks: slices.Grow and slices.Concat over fields, Put.
-/
namespace Go.Proofs.YtegbkfloiiilfaaGreatDoor.Head
open Go Go.RowKit
open Go.Proofs.YtegbkfloiiilfaaGreatDoor.Glyph (foldL fold_any)

set_option maxRecDepth 100000 in
set_option maxHeartbeats 1000000 in
theorem grow_any (n : Nat) (w : World) (hn : n ≤ 1000000) :
    Calls Tryz.prog 114 #[.slice none 0 0, .int .i64 n] w fun e w' => ∃ u, e = .returned u ∧ FdsAt w w' u [] := by
  by_cases h0 : 0 < n
  · obtain ⟨i0, hi, hz, hs, hb⟩ := info_parts infoFd
    have hr := Lib.run_append_nil_zeros (P := Tryz.prog) w fdsT 3 fdsT fdT i0 _ .i64 .i64 Tryz.underlying23 Tryz.underlying3 hi hz n h0 (by omega) (by omega) (by rw [hb]; omega)
    have hge := grownCap_ge w n 0 fdT
    have hle := grownCap_le_maxLen w n 0 fdT (by simp only [maxLen]; omega)
    have HR := Lib.hid hr
    have HN : Hid (FdsAt w (w.drew.alloc (.cells (Builtin.zeroCells (Value.agg #[.string ⟨#[]⟩, .string ⟨#[]⟩]).cells n ++ Builtin.zeroCells (Value.agg #[.string ⟨#[]⟩, .string ⟨#[]⟩]).cells (grownCap w n 0 fdT - n)) fdT)) (.slice (some ⟨w.heap.size, 0, none⟩) 0 (grownCap w n 0 fdT)) []) := Lib.hid ⟨World.ownsRow_made w.drew _ _ (Nat.le_refl _) hle (by
      have z1 := zero_size n
      have z2 := zero_size (grownCap w n 0 fdT - n)
      rw [Array.length_toList] at z1 z2
      rw [Array.size_append, z1, z2, ← Nat.add_mul]
      congr 1
      omega), ((Below.refl _ w).drew).alloc (Nat.le_refl _) _⟩
    have hcap0 : 0 ≤ grownCap w n 0 fdT := Nat.zero_le _
    clear hr hi hz hs hb
    generalize grownCap w n 0 fdT = cp at *
    have h0' : (0 : Int) < (n : Int) := by omega
    have hsub : (n : Int) - 0 = (n : Int) := by omega
    go_enter Tryz.func114, Tryz.ntmps114
    go_wp2_with (at_builtin; refine Lib.wpList_append_run _ rfl _ _ _ _ rfl _ _ rfl rfl _ _ HR.out ?_)
    go_ret
    exact ⟨_, rfl, HN.out⟩
  · obtain rfl : n = 0 := by omega
    go_enter Tryz.func114, Tryz.ntmps114
    go_wp2_with fail
    go_ret
    exact ⟨_, rfl, FdsAt.start w⟩
/-- The value reads as these lists of fields. -/
def ReadsFF (w : World) (v : Value) (qs : List (List Fd)) : Prop :=
  ∃ b cap, v = .slice (some ⟨b, 0, none⟩) qs.length cap ∧ b < w.heap.size ∧ ∀ (i : Nat) (q : List Fd), qs[i]? = some q → ∃ u, w.cell? ⟨b, i, none⟩ = some u ∧ ReadsF w u q
def lenS (qs : List (List Fd)) : Nat := (qs.map List.length).sum
theorem lenS_snoc (us : List (List Fd)) (x : List Fd) : lenS (us ++ [x]) = lenS us + x.length := by simp [lenS]
theorem lenS_flat (qs : List (List Fd)) : qs.flatten.length = lenS qs := by rw [List.length_flatten]; rfl
theorem lenS_take (ws : List (List Fd)) (k : Nat) : lenS (ws.take k) ≤ lenS ws := by
  have h : lenS ws = lenS (ws.take k) + lenS (ws.drop k) := by
    conv => lhs; rw [← List.take_append_drop k ws]
    unfold lenS
    rw [List.map_append, List.sum_append]
  omega
theorem mem_lenS {ws : List (List Fd)} {x : List Fd} (h : x ∈ ws) : x.length ≤ lenS ws := by
  induction ws with
  | nil => cases h
  | cons u T ih =>
    unfold lenS at *
    simp only [List.map_cons, List.sum_cons] at *
    rcases List.mem_cons.1 h with rfl | h
    · omega
    · have := ih h; omega
set_option maxRecDepth 100000 in
set_option maxHeartbeats 2000000 in
theorem concat_any (v : Value) (qs : List (List Fd)) (w : World) (hv : ReadsFF w v qs) (hl : qs.length ≤ 1000) (hs : lenS qs ≤ 1000000) :
    Calls Tryz.prog 90 #[v] w fun e w' => ∃ u, e = .returned u ∧ FdsAt w w' u qs.flatten := by
  obtain ⟨b, cap, rfl, hb, hrd⟩ := hv
  obtain ⟨n, hn⟩ : ∃ n, n = qs.length := ⟨_, rfl⟩
  obtain ⟨z, hz⟩ : ∃ z, z = lenS qs := ⟨_, rfl⟩
  rw [← hn] at hl ⊢
  rw [← hz] at hs
  have HRD := Lib.hid hrd
  have HNN := Lib.hid hn
  have HZ := Lib.hid hz
  have HG := Lib.hid (fun W => grow_any z W hs)
  clear hn hz hrd
  go_enter Tryz.func90, Tryz.ntmps90
  go_wp2_with fail
  go_loopw [3, 11] (fun t i wr => ∃ k t0 : Nat, k ≤ n ∧ i = .int .i64 k ∧ t = .int .i64 t0 ∧ t0 ≤ 1000000 ∧ Hid (t0 = lenS (qs.take k)) ∧ w = wr) (fun _ i _ => n - (intOf i).toNat)
  case atStart => exact ⟨0, 0, Nat.zero_le _, rfl, rfl, by omega, Lib.hid (by simp [lenS]), rfl⟩
  case round =>
    obtain ⟨k, t0, hk, rfl, rfl, ht0, hT, rfl⟩ := hrel
    by_cases hlt : k < n
    · obtain ⟨q, hq⟩ : ∃ a, qs[k]? = some a := ⟨qs[k]'(by have := HNN.out; omega), List.getElem?_eq_getElem _⟩
      obtain ⟨u, hcu, hru⟩ := HRD.out k q hq
      obtain ⟨ua, uc, rfl⟩ := hru.shape
      have hstep : lenS (qs.take (k + 1)) = lenS (qs.take k) + q.length := by
        rw [List.take_add_one, hq]
        exact lenS_snoc _ _
      have hb1 := lenS_take qs (k + 1)
      have ht1 : t0 + q.length ≤ 1000000 := by have := hT.out; have := HZ.out; omega
      have HT : Hid (t0 + q.length = lenS (qs.take (k + 1))) := Lib.hid (by rw [hstep, ← hT.out])
      have hql : q.length ≤ 1000000 := by omega
      clear hstep hb1 hq hru
      generalize q.length = ql at *
      have hnn : ¬ ((t0 : Int) + (ql : Int) < 0) := by omega
      go_wp2_with fail
      go_roundw
      case rel => exact ⟨k + 1, t0 + ql, by omega, by simp, by simp, ht1, HT, trivial⟩
      case measure => simp [intOf]; omega
    · have ht2 : t0 = z := by
        have := hT.out
        rw [List.take_of_length_le (by have := HNN.out; omega)] at this
        rw [this, HZ.out]
      subst ht2
      clear hT
      go_wp2_with fail
      refine (HG.out _).mono ?_
      rintro e w1 ⟨u, rfl, hf⟩
      have HF := Lib.hid hf
      clear hf
      go_wp2_with fail
      go_loopw [6, 27] (fun t i wr => ∃ k : Nat, k ≤ n ∧ i = .int .i64 k ∧ Hid (FdsAt w wr t (qs.take k).flatten)) (fun _ i _ => n - (intOf i).toNat)
      case atStart => exact ⟨0, Nat.zero_le _, rfl, Lib.hid (by simpa using HF.out)⟩
      case round =>
        obtain ⟨k, hk, rfl, hB⟩ := hrel
        obtain ⟨ua, uc, rfl⟩ := owns_slice hB.out.1
        by_cases hlt : k < n
        · obtain ⟨q, hq⟩ : ∃ a, qs[k]? = some a := ⟨qs[k]'(by have := HNN.out; omega), List.getElem?_eq_getElem _⟩
          obtain ⟨u, hcu, hru⟩ := HRD.out k q hq
          have hcell : wr.cell? ⟨b, k, none⟩ = some u := by rw [hB.out.2.cell (p := ⟨b, k, none⟩) hb]; exact hcu
          have hfl : ((qs.take k).flatten).length ≤ 1000000 := by
            rw [lenS_flat]
            have h1 := lenS_take qs k
            have h2 := HZ.out
            omega
          have hql : q.length ≤ 1000000 := by
            have h1 := mem_lenS (List.mem_of_getElem? hq)
            have h2 := HZ.out
            omega
          obtain ⟨u', w', hr, hh⟩ := append_listF wr w.heap.size _ u (qs.take k).flatten q hB.out.1 (hru.below hB.out.2) hfl hql hB.out.2.size
          have HR := Lib.hid hr
          have HN : Hid (FdsAt w w' u' (qs.take (k + 1)).flatten) := Lib.hid (by
            have e : (qs.take (k + 1)).flatten = (qs.take k).flatten ++ q := by
              rw [List.take_add_one, hq]
              simp
            rw [e]
            exact ⟨hh.out.1, hB.out.2.trans hh.out.2⟩)
          clear hr hh hcu hru hq hfl
          generalize ((qs.take k).flatten).length = fl at *
          go_wp2_with (at_builtin; refine Lib.wpList_append_run _ rfl _ _ _ _ rfl _ _ rfl rfl _ _ HR.out ?_)
          go_roundw
          case rel => exact ⟨k + 1, by omega, by simp, HN⟩
          case measure => simp [intOf]; omega
        · have HE : Hid (FdsAt w wr (.slice ua ((qs.take k).flatten).length uc) qs.flatten) := Lib.hid (by
            have h := hB.out
            have e : qs.take k = qs := List.take_of_length_le (by have := HNN.out; omega)
            rw [e] at h ⊢
            exact h)
          go_wp2_with fail
          go_ret
          exact ⟨_, rfl, HE.out⟩
theorem bel_alloc {a w : World} {o : Obj} (h : Below a.heap.size a w) : Below a.heap.size a (w.alloc o) := h.alloc h.size o
theorem bel_drew {a w : World} (h : Below a.heap.size a w) : Below a.heap.size a w.drew := h.drew
theorem reads_take {w : World} {b off n cap : Nat} {q : List Fd} (h : ReadsF w (.slice (some ⟨b, off, none⟩) n cap) q) (hn : n = q.length) (k : Nat) (hk : k ≤ n) : ReadsF w (.slice (some ⟨b, off, none⟩) k cap) (q.take k) := by
  rcases h with ⟨a, c, h1, rfl⟩ | ⟨b', off', cap', h1, h2, h3, h4, h5⟩
  · obtain rfl : k = 0 := by simp at hn; omega
    exact .inl ⟨_, _, rfl, rfl⟩
  · obtain ⟨e1, _, rfl⟩ := Value.slice.inj h1
    obtain ⟨rfl, rfl⟩ : b = b' ∧ off = off' := by simpa using e1
    refine .inr ⟨b, off, cap, by rw [List.length_take, Nat.min_eq_left (by omega)], by rw [List.length_take]; omega, h3, h4, fun i e hi => ?_⟩
    rw [List.getElem?_take] at hi
    split at hi
    · exact h5 i e hi
    · cases hi
theorem reads_drop {w : World} {b off n cap : Nat} {q : List Fd} (h : ReadsF w (.slice (some ⟨b, off, none⟩) n cap) q) (hn : n = q.length) (k : Nat) (hk : k ≤ n) : ReadsF w (.slice (some ⟨b, off + k * 2, none⟩) (n - k) (cap - k)) (q.drop k) := by
  rcases h with ⟨a, c, h1, rfl⟩ | ⟨b', off', cap', h1, h2, h3, h4, h5⟩
  · obtain rfl : n = 0 := by simpa using hn
    refine .inl ⟨_, _, by rw [Nat.zero_sub], by simp⟩
  · obtain ⟨e1, _, rfl⟩ := Value.slice.inj h1
    obtain ⟨rfl, rfl⟩ : b = b' ∧ off = off' := by simpa using e1
    refine .inr ⟨b, off + k * 2, cap - k, by rw [List.length_drop, hn], by rw [List.length_drop]; omega, by omega, h4, fun i e hi => ?_⟩
    rw [List.getElem?_drop] at hi
    have := h5 (k + i) e hi
    rw [show off + k * 2 + i * 2 = off + (k + i) * 2 by omega]
    exact this
theorem cell_keep {X w' : World} {b o : Nat} {v : Value} (h : Below X.heap.size X w') (hx : X.cell? ⟨b, o, none⟩ = some v) : w'.cell? ⟨b, o, none⟩ = some v := by
  rw [h.cell (p := ⟨b, o, none⟩) (cell_lt hx)]
  exact hx
/-- The fields with one put. -/
def putL (p : List UInt8) (f : Fd) (q : List Fd) : List Fd :=
  if q.any (nmB p) = true then q.take (q.findIdx (nmB p)) ++ (f :: lessL p (q.drop (q.findIdx (nmB p) + 1))) else q ++ [f]
set_option maxRecDepth 100000 in
set_option maxHeartbeats 4000000 in
theorem put_any (v : Value) (q : List Fd) (f : Fd) (w : World) (hv : ReadsF w v q) (hl : q.length ≤ 400000) (hs : ∀ f ∈ q, f.n.size ≤ 1000000) (hz : f.n.size ≤ 1000000) :
    Calls Tryz.prog 58 #[v, fdV f] w fun e w' => ∃ u, e = .returned u ∧ FdsAt w w' u (putL (foldL (bl f.n)) f q) := by
  obtain ⟨va, vc, rfl⟩ := hv.shape
  obtain ⟨n, hn⟩ : ∃ n, n = q.length := ⟨_, rfl⟩
  have HX : Hid (∀ w1 cv, Below w.heap.size w w1 → ClAt w1 cv (foldL (bl f.n)) → Calls Tryz.prog 76 #[.slice va n vc, cv] w1 fun e w' => e = .returned (.int .i64 (idxL (foldL (bl f.n)) q)) ∧ Below w1.heap.size w1 w') := Lib.hid (fun w1 cv hb hc => by
    rw [hn]
    exact indexF_any _ cv q _ w1 (hv.below hb) hc (by omega) hs)
  have HA : Hid (Below w.heap.size w (w.alloc (boxF fdT f))) := Lib.hid ((Below.refl _ _).alloc (Nat.le_refl _) _)
  have HNB := Lib.hid (new_boxF w fdT f)
  have HL : Hid (w.heap.size < (w.alloc (boxF fdT f)).heap.size) := Lib.hid (by simp)
  obtain ⟨q0, q1⟩ := two HNB.out
  have HN := Lib.hid (named_any f.n (w.alloc (boxF fdT f)) hz)
  rw [← hn] at hv ⊢
  have HV := Lib.hid (And.intro hv hn)
  cases ha : q.any (nmB (foldL (bl f.n)))
  · have HI : Hid (idxL (foldL (bl f.n)) q = -1 ∧ putL (foldL (bl f.n)) f q = q ++ [f]) := Lib.hid ⟨by unfold idxL; rw [ha, if_neg (by decide)], by unfold putL; rw [ha, if_neg (by decide)]⟩
    rw [HI.out.1] at HX
    have hln : n ≤ 400000 := by omega
    have HCC : Hid (∀ W, Below w.heap.size w W → Calls Tryz.prog 90 #[.slice (some ⟨W.heap.size + 1, 0, none⟩) 2 2] ((W.alloc (boxF fdT f)).alloc (.cells #[.slice va n vc, .slice (some ⟨W.heap.size, 0, none⟩) 1 1] fdsT)) fun e w' => ∃ u, e = .returned u ∧ FdsAt w w' u (q ++ [f])) := Lib.hid (fun W hb => by
      have hb1 : Below W.heap.size W ((W.alloc (boxF fdT f)).alloc (.cells #[.slice va n vc, .slice (some ⟨W.heap.size, 0, none⟩) 1 1] fdsT)) := ((Below.refl _ _).alloc (Nat.le_refl _) _).alloc (by simp) _
      have hb2 : Below w.heap.size w ((W.alloc (boxF fdT f)).alloc (.cells #[.slice va n vc, .slice (some ⟨W.heap.size, 0, none⟩) 1 1] fdsT)) := hb.trans (hb1.mono hb.size)
      refine (concat_any _ [q, [f]] _ ⟨W.heap.size + 1, 2, rfl, by simp, fun i q' hi => ?_⟩ (by simp) (by simp [lenS]; have := HV.out.2; omega)).mono ?_
      · have e0 := heap_alloc_new (W.alloc (boxF fdT f)) (.cells #[.slice va n vc, .slice (some ⟨W.heap.size, 0, none⟩) 1 1] fdsT)
        have e1 : (W.alloc (boxF fdT f)).heap.size = W.heap.size + 1 := by simp
        rw [e1] at e0
        match i, hi with
        | 0, hi =>
          obtain rfl : q = q' := by simpa using hi
          exact ⟨_, (cell_of_row _ _ _ _ _ _ e0).trans rfl, by have := HV.out.1.below hb2; exact this⟩
        | 1, hi =>
          obtain rfl : [f] = q' := by simpa using hi
          refine ⟨_, (cell_of_row _ _ _ _ _ _ e0).trans rfl, .inr ⟨W.heap.size, 0, 1, rfl, by simp, by omega, by simp; omega, fun j x hj => ?_⟩⟩
          match j, hj with
          | 0, hj =>
            obtain rfl : f = x := by simpa using hj
            exact range_below (new_boxF W fdT f) (by simp) ((Below.refl _ _).alloc (Nat.le_refl _) _)
          | j + 1, hj => simp at hj
        | i + 2, hi => simp at hi
      · rintro e w' ⟨u, rfl, hf⟩
        refine ⟨u, rfl, ?_⟩
        have e : [q, [f]].flatten = q ++ [f] := by simp
        rw [e] at hf
        refine ⟨?_, hb2.trans (hf.2.mono hb2.size)⟩
        rcases hf.1 with ⟨h1, h2⟩
        refine ⟨h1, ?_⟩
        rcases h2 with h2 | ⟨g, cap, cur, h3, h4, h5⟩
        · exact .inl h2
        · exact .inr ⟨g, cap, cur, h3, Nat.le_trans hb2.size h4, h5⟩)
    have HCE : Hid (∀ w', Below (w.alloc (boxF fdT f)).heap.size (w.alloc (boxF fdT f)) w' → w'.cell? ⟨w.heap.size, 0, none⟩ = some (.string f.n) ∧ w'.cell? ⟨w.heap.size, 0 + 1, none⟩ = some (.string f.v)) := Lib.hid (fun w' hb => two (range_below HNB.out HL.out hb))
    clear ha hv hn hl hs
    generalize foldL (bl f.n) = p at *
    go_enter Tryz.func58, Tryz.ntmps58
    go_wp2_with fail
    refine HN.out.mono ?_
    rintro e w1 ⟨g, rfl, _, hcg, hb⟩
    have HX1 := Lib.hid (HX.out w1 _ (HA.out.trans (hb.mono HA.out.size)) ⟨g, rfl, hcg⟩)
    have HB1 := Lib.hid hb
    clear hb hcg q0 q1
    go_wp2_with fail
    refine HX1.out.mono ?_
    rintro e w2 ⟨rfl, hb⟩
    have HB2 := Lib.hid (HB1.out.trans (hb.mono HB1.out.size))
    obtain ⟨c0, c1⟩ := HCE.out w2 HB2.out
    have HC2 := Lib.hid (HCC.out w2 (HA.out.trans (HB2.out.mono HA.out.size)))
    clear hb
    go_wp2_with fail
    refine HC2.out.mono ?_
    rintro e w3 ⟨u, rfl, hf⟩
    have HF := Lib.hid hf
    clear hf
    go_wp2_with fail
    go_ret
    exact ⟨_, rfl, by rw [HI.out.2]; exact HF.out⟩
  · obtain ⟨f0, hf0, _⟩ := idx_get ha
    obtain ⟨k, hk⟩ : ∃ k, k = q.findIdx (nmB (foldL (bl f.n))) := ⟨_, rfl⟩
    rw [← hk] at hf0
    have hkn : k < n := by rw [hn]; exact (List.getElem?_eq_some_iff.1 hf0).1
    have HI : Hid (idxL (foldL (bl f.n)) q = (k : Int) ∧ putL (foldL (bl f.n)) f q = q.take k ++ (f :: lessL (foldL (bl f.n)) (q.drop (k + 1)))) := Lib.hid ⟨by unfold idxL; rw [ha, if_pos rfl, hk], by unfold putL; rw [ha, if_pos rfl, hk]⟩
    rw [HI.out.1] at HX
    have hln : n ≤ 400000 := by omega
    have hcp : n ≤ vc := by
      rcases HV.out.1 with ⟨a, c, h1, h2⟩ | ⟨b', off', cap', h1, h2, _⟩
      · rw [h2] at hn; simp at hn; omega
      · obtain ⟨_, _, rfl⟩ := Value.slice.inj h1
        omega
    obtain ⟨b1, o1, rfl, hb1, _⟩ := HV.out.1.at_ k f0 hf0
    have HR2 : Hid (∀ W, Below w.heap.size w W → ReadsF W (.slice (some ⟨b1, o1, none⟩) k vc) (q.take k)) := Lib.hid (fun W hb => (reads_take HV.out.1 hn k (by omega)).below hb)
    have HR1 : Hid (∀ a m c, (ReadsF w (.slice a m c) (q.drop (k + 1))) → ∀ W, Below w.heap.size w W → Calls Tryz.prog 91 #[.slice a m c, .string f.n] W fun e w' => ∃ u, e = .returned u ∧ FdsAt W w' u (lessL (foldL (bl f.n)) (q.drop (k + 1)))) := Lib.hid (fun a m c h W hb => by
      exact without_any _ _ f.n W (h.below hb) (by rw [List.length_drop]; omega) (fun x hx => hs x (List.mem_of_mem_drop hx)) hz)
    have HDR := Lib.hid (reads_drop HV.out.1 hn (k + 1) (by omega))
    have HDN : Hid (vc = k + 1 → q.drop (k + 1) = []) := Lib.hid (fun e => List.drop_eq_nil_of_le (by omega))
    have hnk : vc = k + 1 → n = k + 1 := fun e => by omega
    have s1 : (k : Int) ≤ (vc : Int) := by omega
    have s2 : (k : Int) + 1 ≤ (n : Int) := by omega
    have s3 : (0 : Int) ≤ (k : Int) + 1 := by omega
    have s5 : (0 : Int) ≤ (k : Int) := by omega
    have HCE : Hid (∀ w', Below (w.alloc (boxF fdT f)).heap.size (w.alloc (boxF fdT f)) w' → w'.cell? ⟨w.heap.size, 0, none⟩ = some (.string f.n) ∧ w'.cell? ⟨w.heap.size, 0 + 1, none⟩ = some (.string f.v)) := Lib.hid (fun w' hb => two (range_below HNB.out HL.out hb))
    have hlk : (q.take k).length + (lessL (foldL (bl f.n)) (q.drop (k + 1))).length ≤ 400000 := by
      unfold lessL
      have h1 := (List.filter_sublist (p := fun x => !nmB (foldL (bl f.n)) x) (l := q.drop (k + 1))).length_le
      rw [List.length_drop] at h1
      rw [List.length_take]
      omega
    have HLK := Lib.hid hlk
    clear ha hv hn hl hs hf0 hk hlk
    generalize foldL (bl f.n) = p at *
    generalize hLq : lessL p (q.drop (k + 1)) = L at *
    generalize q.take k = Q at *
    generalize q.drop (k + 1) = D at *
    clear hLq
    /- what Concat is handed, the box laid ahead of the call of Without or behind it -/
    have HCC : Hid (∀ (X : World) (b gB : Nat) (u : Value), Below w.heap.size w X → b < X.heap.size → X.cell? ⟨b, 0, none⟩ = some (.slice (some ⟨b1, o1, none⟩) k vc) → X.cell? ⟨b, 1, none⟩ = some (.slice (some ⟨gB, 0, none⟩) 1 1) → X.cell? ⟨b, 2, none⟩ = some u → gB < X.heap.size → X.rangeAt gB 0 (fdC f) → ReadsF X u L → Calls Tryz.prog 90 #[.slice (some ⟨b, 0, none⟩) 3 3] X fun e w' => ∃ u, e = .returned u ∧ Hid (FdsAt w w' u (Q ++ (f :: L))) ∧ Below X.heap.size X w') := Lib.hid (fun X b gB u hb hbX x0 x1 x2 hgB hrf hru => by
      refine (concat_any _ [Q, [f], L] X ⟨b, 3, rfl, hbX, fun i q' hi => ?_⟩ (by simp) (by have := HLK.out; simp [lenS]; omega)).mono ?_
      · match i, hi with
        | 0, hi =>
          obtain rfl : Q = q' := by simpa using hi
          exact ⟨_, x0, HR2.out X hb⟩
        | 1, hi =>
          obtain rfl : [f] = q' := by simpa using hi
          refine ⟨_, x1, .inr ⟨gB, 0, 1, rfl, by simp, by omega, hgB, fun j x hj => ?_⟩⟩
          match j, hj with
          | 0, hj =>
            obtain rfl : f = x := by simpa using hj
            exact hrf
          | j + 1, hj => simp at hj
        | 2, hi =>
          obtain rfl : L = q' := by simpa using hi
          exact ⟨_, x2, hru⟩
        | i + 3, hi => simp at hi
      · rintro e w' ⟨u, rfl, hf⟩
        refine ⟨u, rfl, ?_⟩
        have e : [Q, [f], L].flatten = Q ++ (f :: L) := by simp
        rw [e] at hf
        refine ⟨?_, hf.2⟩
        refine Lib.hid ⟨?_, hb.trans (hf.2.mono hb.size)⟩
        rcases hf.1 with ⟨h1, h2⟩
        refine ⟨h1, ?_⟩
        rcases h2 with h2 | ⟨g, cap, cur, h3, h4, h5⟩
        · exact .inl h2
        · exact .inr ⟨g, cap, cur, h3, Nat.le_trans hb.size h4, h5⟩)
    by_cases hvk : vc = k + 1
    · obtain rfl := hnk hvk
      subst hvk
      have HWO := Lib.hid (HR1.out (some ⟨b1, o1, none⟩) 0 0 (by rw [HDN.out rfl]; exact .inl ⟨_, _, rfl, rfl⟩))
      go_enter Tryz.func58, Tryz.ntmps58
      go_wp2_with fail
      refine HN.out.mono ?_
      rintro e w1 ⟨g, rfl, _, hcg, hb⟩
      have HX1 := Lib.hid (HX.out w1 _ (HA.out.trans (hb.mono HA.out.size)) ⟨g, rfl, hcg⟩)
      have HB1 := Lib.hid hb
      clear hb hcg q0 q1
      go_wp2_with fail
      refine HX1.out.mono ?_
      rintro e w2 ⟨rfl, hb⟩
      have HB2 := Lib.hid (HB1.out.trans (hb.mono HB1.out.size))
      obtain ⟨c0, c1⟩ := HCE.out w2 HB2.out
      have HB2w := Lib.hid (HA.out.trans (HB2.out.mono HA.out.size))
      have hne : w.heap.size ≠ w2.heap.size := by have := HB2.out.size; have := HL.out; omega
      have hne2 : ¬ w2.heap.size = w.heap.size := fun e => hne e.symm
      have hwr : IntKind.i64.wrap ((k : Int) + 1) = (k : Int) + 1 := by rw [IntKind.wrap_i64]; omega
      clear hb
      go_wp2_with fail
      have HW2 : Hid (∀ W, Below w2.heap.size w2 W → Calls Tryz.prog 91 #[.slice (some ⟨b1, o1, none⟩) 0 0, .string f.n] W fun e w' => ∃ ua uc, e = .returned (.slice ua L.length uc) ∧ w'.cell? ⟨w.heap.size, 0, none⟩ = some (.string f.n) ∧ w'.cell? ⟨w.heap.size, 0 + 1, none⟩ = some (.string f.v) ∧
          Hid (Calls Tryz.prog 90 #[.slice (some ⟨w'.heap.size + 1, 0, none⟩) 3 3] ((w'.alloc (boxF fdT f)).alloc (.cells #[.slice (some ⟨b1, o1, none⟩) k (k + 1), .slice (some ⟨w'.heap.size, 0, none⟩) 1 1, .slice ua L.length uc] fdsT)) fun e w' => ∃ u, e = .returned u ∧ Hid (FdsAt w w' u (Q ++ (f :: L))) ∧ w'.cell? ⟨w.heap.size, 0, none⟩ = some (.string f.n) ∧ w'.cell? ⟨w.heap.size, 0 + 1, none⟩ = some (.string f.v)) ∧
          (W = w2.drew.alloc (boxF fdT f) → Hid (Calls Tryz.prog 90 #[.slice (some ⟨w'.heap.size, 0, none⟩) 3 3] (w'.alloc (.cells #[.slice (some ⟨b1, o1, none⟩) k (k + 1), .slice (some ⟨w2.heap.size, 0, none⟩) 1 1, .slice ua L.length uc] fdsT)) fun e w' => ∃ u, e = .returned u ∧ Hid (FdsAt w w' u (Q ++ (f :: L))) ∧ w'.cell? ⟨w.heap.size, 0, none⟩ = some (.string f.n) ∧ w'.cell? ⟨w.heap.size, 0 + 1, none⟩ = some (.string f.v)))) := Lib.hid (fun W hb => by
        have hbw : Below w.heap.size w W := HB2w.out.trans (hb.mono HB2w.out.size)
        refine (HWO.out W hbw).mono ?_
        rintro e w' ⟨u, rfl, hf⟩
        obtain ⟨ua, uc, rfl⟩ := owns_slice hf.1
        have hbw' : Below w.heap.size w w' := hbw.trans (hf.2.mono hbw.size)
        obtain ⟨d0, d1⟩ := HCE.out w' (HB2.out.trans ((hb.trans (hf.2.mono hb.size)).mono HB2.out.size))
        refine ⟨ua, uc, rfl, d0, d1, Lib.hid ?_, fun hW => Lib.hid ?_⟩
        · have a1 : Below w'.heap.size w' ((w'.alloc (boxF fdT f)).alloc (.cells #[.slice (some ⟨b1, o1, none⟩) k (k + 1), .slice (some ⟨w'.heap.size, 0, none⟩) 1 1, .slice ua L.length uc] fdsT)) := ((Below.refl _ _).alloc (Nat.le_refl _) _).alloc (by simp) _
          have e0 := heap_alloc_new (w'.alloc (boxF fdT f)) (.cells #[.slice (some ⟨b1, o1, none⟩) k (k + 1), .slice (some ⟨w'.heap.size, 0, none⟩) 1 1, .slice ua L.length uc] fdsT)
          have e1 : (w'.alloc (boxF fdT f)).heap.size = w'.heap.size + 1 := by simp
          rw [e1] at e0
          refine (HCC.out _ (w'.heap.size + 1) w'.heap.size (.slice ua L.length uc) (hbw'.trans (a1.mono hbw'.size)) (by simp) ((cell_of_row _ _ _ _ _ _ e0).trans rfl) ((cell_of_row _ _ _ _ _ _ e0).trans rfl) ((cell_of_row _ _ _ _ _ _ e0).trans rfl) (by simp; omega) (range_below (new_boxF w' fdT f) (by simp) ((Below.refl _ _).alloc (Nat.le_refl _) _)) ((owns_readsF hf.1).below a1)).mono fun e9 w9 ⟨u9, h8, h9, h10⟩ => ⟨u9, h8, h9, cell_keep h10 (cell_keep a1 d0), cell_keep h10 (cell_keep a1 d1)⟩
        · subst hW
          have a1 : Below w'.heap.size w' (w'.alloc (.cells #[.slice (some ⟨b1, o1, none⟩) k (k + 1), .slice (some ⟨w2.heap.size, 0, none⟩) 1 1, .slice ua L.length uc] fdsT)) := (Below.refl _ _).alloc (Nat.le_refl _) _
          have e0 := heap_alloc_new w' (.cells #[.slice (some ⟨b1, o1, none⟩) k (k + 1), .slice (some ⟨w2.heap.size, 0, none⟩) 1 1, .slice ua L.length uc] fdsT)
          have hz2 : w2.heap.size < w'.heap.size := by have := hf.2.size; simp at this; omega
          have hnb : (w2.drew.alloc (boxF fdT f)).rangeAt w2.heap.size 0 (fdC f) := new_boxF w2.drew fdT f
          refine (HCC.out _ w'.heap.size w2.heap.size (.slice ua L.length uc) (hbw'.trans (a1.mono hbw'.size)) (by simp) ((cell_of_row _ _ _ _ _ _ e0).trans rfl) ((cell_of_row _ _ _ _ _ _ e0).trans rfl) ((cell_of_row _ _ _ _ _ _ e0).trans rfl) (by simp; omega) (range_below (range_below hnb (by simp) hf.2) hz2 a1) ((owns_readsF hf.1).below a1)).mono fun e9 w9 ⟨u9, h8, h9, h10⟩ => ⟨u9, h8, h9, cell_keep h10 (cell_keep a1 d0), cell_keep h10 (cell_keep a1 d1)⟩)
      go_region_held (fun W => W.cell? ⟨w.heap.size, 0, none⟩ = some (.string f.n) ∧ W.cell? ⟨w.heap.size, 0 + 1, none⟩ = some (.string f.v)) (first | go_keep | (all_goals assumption)) ((first
        | (go_at_call 91; with_reducible refine (HW2.out _ (by (repeat (first | exact Below.refl _ _ | with_reducible refine bel_alloc ?_ | with_reducible refine bel_drew ?_)))).mono ?_; rintro e w4 ⟨ua, uc, rfl, d0, d1, hcB, hcA⟩)
        | (go_at_call 90; (first | (with_reducible refine hcB.out.mono ?_) | (with_reducible refine (hcA rfl).out.mono ?_)); rintro e w5 ⟨u5, rfl, hf5, d5, d6⟩)))
      all_goals (go_wp2_with fail; go_ret; exact ⟨_, rfl, by rw [HI.out.2]; exact hf5.out⟩)
    · clear hnk
      have HWO := Lib.hid (HR1.out (some ⟨b1, o1 + (k + 1) * 2, none⟩) (n - (k + 1)) (vc - (k + 1)) HDR.out)
      go_enter Tryz.func58, Tryz.ntmps58
      go_wp2_with fail
      refine HN.out.mono ?_
      rintro e w1 ⟨g, rfl, _, hcg, hb⟩
      have HX1 := Lib.hid (HX.out w1 _ (HA.out.trans (hb.mono HA.out.size)) ⟨g, rfl, hcg⟩)
      have HB1 := Lib.hid hb
      clear hb hcg q0 q1
      go_wp2_with fail
      refine HX1.out.mono ?_
      rintro e w2 ⟨rfl, hb⟩
      have HB2 := Lib.hid (HB1.out.trans (hb.mono HB1.out.size))
      obtain ⟨c0, c1⟩ := HCE.out w2 HB2.out
      have HB2w := Lib.hid (HA.out.trans (HB2.out.mono HA.out.size))
      have hne : w.heap.size ≠ w2.heap.size := by have := HB2.out.size; have := HL.out; omega
      have hne2 : ¬ w2.heap.size = w.heap.size := fun e => hne e.symm
      have hwr : IntKind.i64.wrap ((k : Int) + 1) = (k : Int) + 1 := by rw [IntKind.wrap_i64]; omega
      clear hb
      go_wp2_with fail
      have HW2 : Hid (∀ W, Below w2.heap.size w2 W → Calls Tryz.prog 91 #[.slice (some ⟨b1, o1 + (k + 1) * 2, none⟩) (n - (k + 1)) (vc - (k + 1)), .string f.n] W fun e w' => ∃ ua uc, e = .returned (.slice ua L.length uc) ∧ w'.cell? ⟨w.heap.size, 0, none⟩ = some (.string f.n) ∧ w'.cell? ⟨w.heap.size, 0 + 1, none⟩ = some (.string f.v) ∧
          Hid (Calls Tryz.prog 90 #[.slice (some ⟨w'.heap.size + 1, 0, none⟩) 3 3] ((w'.alloc (boxF fdT f)).alloc (.cells #[.slice (some ⟨b1, o1, none⟩) k vc, .slice (some ⟨w'.heap.size, 0, none⟩) 1 1, .slice ua L.length uc] fdsT)) fun e w' => ∃ u, e = .returned u ∧ Hid (FdsAt w w' u (Q ++ (f :: L))) ∧ w'.cell? ⟨w.heap.size, 0, none⟩ = some (.string f.n) ∧ w'.cell? ⟨w.heap.size, 0 + 1, none⟩ = some (.string f.v)) ∧
          (W = w2.drew.alloc (boxF fdT f) → Hid (Calls Tryz.prog 90 #[.slice (some ⟨w'.heap.size, 0, none⟩) 3 3] (w'.alloc (.cells #[.slice (some ⟨b1, o1, none⟩) k vc, .slice (some ⟨w2.heap.size, 0, none⟩) 1 1, .slice ua L.length uc] fdsT)) fun e w' => ∃ u, e = .returned u ∧ Hid (FdsAt w w' u (Q ++ (f :: L))) ∧ w'.cell? ⟨w.heap.size, 0, none⟩ = some (.string f.n) ∧ w'.cell? ⟨w.heap.size, 0 + 1, none⟩ = some (.string f.v)))) := Lib.hid (fun W hb => by
        have hbw : Below w.heap.size w W := HB2w.out.trans (hb.mono HB2w.out.size)
        refine (HWO.out W hbw).mono ?_
        rintro e w' ⟨u, rfl, hf⟩
        obtain ⟨ua, uc, rfl⟩ := owns_slice hf.1
        have hbw' : Below w.heap.size w w' := hbw.trans (hf.2.mono hbw.size)
        obtain ⟨d0, d1⟩ := HCE.out w' (HB2.out.trans ((hb.trans (hf.2.mono hb.size)).mono HB2.out.size))
        refine ⟨ua, uc, rfl, d0, d1, Lib.hid ?_, fun hW => Lib.hid ?_⟩
        · have a1 : Below w'.heap.size w' ((w'.alloc (boxF fdT f)).alloc (.cells #[.slice (some ⟨b1, o1, none⟩) k vc, .slice (some ⟨w'.heap.size, 0, none⟩) 1 1, .slice ua L.length uc] fdsT)) := ((Below.refl _ _).alloc (Nat.le_refl _) _).alloc (by simp) _
          have e0 := heap_alloc_new (w'.alloc (boxF fdT f)) (.cells #[.slice (some ⟨b1, o1, none⟩) k vc, .slice (some ⟨w'.heap.size, 0, none⟩) 1 1, .slice ua L.length uc] fdsT)
          have e1 : (w'.alloc (boxF fdT f)).heap.size = w'.heap.size + 1 := by simp
          rw [e1] at e0
          refine (HCC.out _ (w'.heap.size + 1) w'.heap.size (.slice ua L.length uc) (hbw'.trans (a1.mono hbw'.size)) (by simp) ((cell_of_row _ _ _ _ _ _ e0).trans rfl) ((cell_of_row _ _ _ _ _ _ e0).trans rfl) ((cell_of_row _ _ _ _ _ _ e0).trans rfl) (by simp; omega) (range_below (new_boxF w' fdT f) (by simp) ((Below.refl _ _).alloc (Nat.le_refl _) _)) ((owns_readsF hf.1).below a1)).mono fun e9 w9 ⟨u9, h8, h9, h10⟩ => ⟨u9, h8, h9, cell_keep h10 (cell_keep a1 d0), cell_keep h10 (cell_keep a1 d1)⟩
        · subst hW
          have a1 : Below w'.heap.size w' (w'.alloc (.cells #[.slice (some ⟨b1, o1, none⟩) k vc, .slice (some ⟨w2.heap.size, 0, none⟩) 1 1, .slice ua L.length uc] fdsT)) := (Below.refl _ _).alloc (Nat.le_refl _) _
          have e0 := heap_alloc_new w' (.cells #[.slice (some ⟨b1, o1, none⟩) k vc, .slice (some ⟨w2.heap.size, 0, none⟩) 1 1, .slice ua L.length uc] fdsT)
          have hz2 : w2.heap.size < w'.heap.size := by have := hf.2.size; simp at this; omega
          have hnb : (w2.drew.alloc (boxF fdT f)).rangeAt w2.heap.size 0 (fdC f) := new_boxF w2.drew fdT f
          refine (HCC.out _ w'.heap.size w2.heap.size (.slice ua L.length uc) (hbw'.trans (a1.mono hbw'.size)) (by simp) ((cell_of_row _ _ _ _ _ _ e0).trans rfl) ((cell_of_row _ _ _ _ _ _ e0).trans rfl) ((cell_of_row _ _ _ _ _ _ e0).trans rfl) (by simp; omega) (range_below (range_below hnb (by simp) hf.2) hz2 a1) ((owns_readsF hf.1).below a1)).mono fun e9 w9 ⟨u9, h8, h9, h10⟩ => ⟨u9, h8, h9, cell_keep h10 (cell_keep a1 d0), cell_keep h10 (cell_keep a1 d1)⟩)
      go_region_held (fun W => W.cell? ⟨w.heap.size, 0, none⟩ = some (.string f.n) ∧ W.cell? ⟨w.heap.size, 0 + 1, none⟩ = some (.string f.v)) (first | go_keep | (all_goals assumption)) ((first
        | (go_at_call 91; with_reducible refine (HW2.out _ (by (repeat (first | exact Below.refl _ _ | with_reducible refine bel_alloc ?_ | with_reducible refine bel_drew ?_)))).mono ?_; rintro e w4 ⟨ua, uc, rfl, d0, d1, hcB, hcA⟩)
        | (go_at_call 90; (first | (with_reducible refine hcB.out.mono ?_) | (with_reducible refine (hcA rfl).out.mono ?_)); rintro e w5 ⟨u5, rfl, hf5, d5, d6⟩)))
      all_goals (go_wp2_with fail; go_ret; exact ⟨_, rfl, by rw [HI.out.2]; exact hf5.out⟩)
end Go.Proofs.YtegbkfloiiilfaaGreatDoor.Head
