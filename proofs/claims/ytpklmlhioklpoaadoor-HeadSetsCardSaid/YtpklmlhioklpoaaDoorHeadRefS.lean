/-
  The document's Same, All, Get, Without, Put.
-/
import Derived.Test.YtpklmlhioklpoaaDoorHeadPut
import Derived.Test.YtpklmlhioklpoaaDoorGlyphRFold
namespace Go.Proofs.YtpklmlhioklpoaaDoor.Head
open Go Go.RowKit
open Go.Proofs.YtpklmlhioklpoaaDoor.Glyph (foldL refFold_any)
open Go.Proofs.YtpklmlhioklpoaaDoor.Sha (Kept wp_region_kept wp_region_kept_tail quiet_load_row)

def sameN (a b : ByteArray) : Bool := decide (foldL (bl a) = foldL (bl b))
set_option maxRecDepth 100000 in
set_option maxHeartbeats 1000000 in
theorem rsame_any (a b : ByteArray) (w : World) (ha : a.size ≤ 1000000) (hb : b.size ≤ 1000000) :
    Calls Tryd.prog 27 #[.string a, .string b] w fun e w' => e = .returned (.bool (sameN a b)) ∧ Below w.heap.size w w' := by
  have HA := Lib.hid (fun W => refFold_any a W ha)
  have HB := Lib.hid (fun W => refFold_any b W hb)
  have HQ : Hid (((ba (foldL (bl a))).toList == (ba (foldL (bl b))).toList) = sameN a b) := Lib.hid (by
    rw [str_eq]
    unfold sameN
    rw [decide_eq_decide]
    exact ⟨ba_inj, fun h => by rw [h]⟩)
  have HA2 : Hid (∀ W, Calls Tryd.prog 49 #[.string a] W fun e w' => e = .returned (.string (ba (foldL (bl a)))) ∧ Below W.heap.size W w') := HA
  have HB2 : Hid (∀ W, Calls Tryd.prog 49 #[.string b] W fun e w' => e = .returned (.string (ba (foldL (bl b)))) ∧ Below W.heap.size W w') := HB
  clear HA HB
  generalize ba (foldL (bl a)) = x at *
  generalize ba (foldL (bl b)) = y at *
  go_enter Tryd.func27, Tryd.ntmps27
  go_wp2_with fail
  refine (HA2.out _).mono ?_
  rintro e w1 ⟨rfl, hb1⟩
  have H1 := Lib.hid hb1
  clear hb1
  go_wp2_with fail
  refine (HB2.out _).mono ?_
  rintro e w2 ⟨rfl, hb2⟩
  have H2 := Lib.hid (H1.out.trans (hb2.mono H1.out.size))
  clear hb2
  go_wp2_with fail
  go_ret
  exact ⟨ret_bool (by rw [← HQ.out]), H2.out⟩
def FdsR (w wr : World) (v : Value) (q : List Fd) : Prop := wr.ownsRow w.heap.size rfT 2 v q.length (q.flatMap fdC) ∧ Below w.heap.size w wr
theorem FdsR.start (w : World) : FdsR w w (.slice none 0 0) [] := ⟨World.ownsRow_nil _ _ _ _, Below.refl _ _⟩
theorem FdsR.on {w wr w' : World} {v : Value} {q : List Fd} (h : FdsR w wr v q) (hb : Below wr.heap.size wr w') : FdsR w w' v q := ⟨owns_below h.1 hb, h.2.trans (hb.mono h.2.size)⟩
theorem FdsR.add {w W : World} {n c : Nat} {a : Option Addr} {q : List Fd} (h : FdsR w W (.slice a n c) q) (hn : q.length = n) (y : Fd) (hl : n ≤ 100000000) :
    ∃ a' c' w', (Builtin.append_ #[rfsT, rfsT] rfsT #[.slice a n c, .slice (some ⟨W.heap.size, 0, none⟩) 1 1]).run Tryd.prog (W.alloc (boxF rfT y)) = .ok (.slice a' (n + 1) c') w' ∧ Hid (FdsR w w' (.slice a' (n + 1) c') (q ++ [y]) ∧ Below W.heap.size W W) := by
  have ho := h.1
  rw [hn] at ho
  obtain ⟨a', c', w', hr, hh⟩ := append_oneR n (us := q) hn W w.heap.size _ y ho hl h.2.size
  refine ⟨a', c', w', hr, Lib.hid ⟨⟨?_, h.2.trans hh.out.2⟩, Below.refl _ _⟩⟩
  rw [List.length_append, hn]
  exact hh.out.1
/-- One field appended; what else lies there stays. -/
theorem FdsR.add2 {w W : World} {n c : Nat} {a : Option Addr} {q : List Fd} (h : FdsR w W (.slice a n c) q) (hn : q.length = n) (y : Fd) (hl : n ≤ 100000000) :
    ∃ a' c' w', (Builtin.append_ #[rfsT, rfsT] rfsT #[.slice a n c, .slice (some ⟨W.heap.size, 0, none⟩) 1 1]).run Tryd.prog (W.alloc (boxF rfT y)) = .ok (.slice a' (n + 1) c') w' ∧ Hid (FdsR w w' (.slice a' (n + 1) c') (q ++ [y]) ∧ W.heap.size ≤ w'.heap.size ∧
      ∀ (g : Nat), (∀ k, (Value.slice a n c).ownBlock = some k → k ≠ g) → g < W.heap.size → (∀ cs, W.rangeAt g 0 cs → w'.rangeAt g 0 cs) ∧ ∀ k, (Value.slice a' (n + 1) c').ownBlock = some k → k ≠ g) := by
  subst hn
  have ho := h.1
  have hal : Below W.heap.size W (W.alloc (boxF rfT y)) := (Below.refl _ _).alloc (Nat.le_refl _) _
  obtain ⟨i0, hi, hz0, hz1, hz2⟩ := info_parts infoR
  obtain ⟨v', w', hr, h2, h3, _, h5⟩ := run_append_own_at (P := Tryd.prog) (W.alloc (boxF rfT y)) w.heap.size rfsT rfsT rfT i0 _ 2 32 Tryd.underlying27 hi hz0 hz1 hz2 rfl (by decide) (.slice a q.length c) q.length _ (ho.alloc _) ⟨W.heap.size, 0, none⟩ 1 1 (fdC y) rfl (fun j u hu => by rw [addr_add]; exact new_boxF W rfT y j u hu) (one_cell2 y) (by unfold maxLen; omega) (by omega) (by have := h.2.size; simp; omega)
  obtain ⟨a', c', rfl⟩ := owns_slice h2
  refine ⟨a', c', w', hr, Lib.hid ⟨⟨?_, (h.2.trans (hal.mono h.2.size)).grown h3 (by have := h.2.size; simp; omega) fun k hk => ((ho.alloc (boxF rfT y)).lt k hk).1⟩, by have := h3.size; simp at this; omega, fun g hg hgl => ⟨fun cs hc j v hv => ?_, fun k hk e => ?_⟩⟩⟩
  · rw [List.length_append, List.flatMap_append]
    simpa using h2
  · have h6 := hc j v hv
    rw [h3.cell (a := ⟨g, 0 + j, none⟩) (v := v) (by rw [hal.cell (p := ⟨g, 0 + j, none⟩) hgl]; exact h6) (fun e => hg g e.symm rfl)]
  · subst e
    rcases h5 with e | e
    · rw [e] at hk; exact hg k hk rfl
    · rw [e] at hk
      have := Option.some.inj hk
      simp at this
      omega
theorem sameN_nm (s : ByteArray) (f : Fd) : sameN f.n s = nmB (foldL (bl s)) f := rfl
theorem all_le (p : List UInt8) (q : List Fd) : (allL p q).length ≤ q.length := by
  unfold allL
  rw [List.length_map]
  exact (List.filter_sublist).length_le
theorem less_le (p : List UInt8) (q : List Fd) : (lessL p q).length ≤ q.length := by
  unfold lessL
  exact (List.filter_sublist).length_le
theorem take_len_le {α : Type} (l : List α) (k : Nat) : (l.take k).length ≤ k := by rw [List.length_take]; omega
set_option maxRecDepth 100000 in
set_option maxHeartbeats 2000000 in
theorem rall_any (v : Value) (q : List Fd) (s : ByteArray) (w : World) (hv : ReadsF w v q) (hl : q.length ≤ 1000000) (hs : ∀ f ∈ q, f.n.size ≤ 1000000) (hz : s.size ≤ 1000000) :
    Calls Tryd.prog 21 #[v, .string s] w fun e w' => ∃ u, e = .returned u ∧ TxAt w w' u (allL (foldL (bl s)) q) := by
  obtain ⟨va, vc, rfl⟩ := hv.shape
  obtain ⟨n, hn⟩ : ∃ n, n = q.length := ⟨_, rfl⟩
  rw [← hn] at hv hl ⊢
  have HV := Lib.hid (fun k a ha => hv.at_ k a ha)
  have HNN := Lib.hid hn
  have HSM := Lib.hid (fun (f : Fd) (hf : f ∈ q) W => rsame_any f.n s W (hs f hf) hz)
  simp only [sameN_nm] at HSM
  have HS := Lib.hid (TxAt.start w)
  clear hv hn hs
  generalize foldL (bl s) = p at *
  go_enter Tryd.func21, Tryd.ntmps21
  go_wp2_with fail
  go_loopw [5, 6] (fun u i wr => ∃ k : Nat, k ≤ n ∧ i = .int .i64 k ∧ Hid (TxAt w wr u (allL p (q.take k)))) (fun _ i _ => n - (intOf i).toNat)
  case atStart => exact ⟨0, Nat.zero_le _, rfl, HS⟩
  case round =>
    clear HS
    obtain ⟨k, hk, rfl, hB⟩ := hrel
    obtain ⟨ua, uc, rfl⟩ := owns_slice hB.out.1
    obtain ⟨m, hm⟩ : ∃ m, m = (allL p (q.take k)).length := ⟨_, rfl⟩
    have hmk : m ≤ k := by
      rw [hm]
      exact Nat.le_trans (all_le _ _) (take_len_le _ _)
    rw [← hm] at hB ⊢
    have HMM := Lib.hid hm
    clear hm
    by_cases hlt : k < n
    · obtain ⟨f, hf⟩ : ∃ a, q[k]? = some a := ⟨q[k]'(by have := HNN.out; omega), List.getElem?_eq_getElem _⟩
      obtain ⟨b1, o1, rfl, hb1, r1⟩ := HV.out k f hf
      obtain ⟨c0, c1⟩ := two (range_below r1 hb1 hB.out.2)
      have HT := Lib.hid (HSM.out f (List.mem_of_getElem? hf) wr)
      have HR1 := Lib.hid (And.intro r1 hb1)
      have HNX : Hid (allL p (q.take (k + 1)) = if nmB p f = true then allL p (q.take k) ++ [f.v] else allL p (q.take k)) := Lib.hid (by
        rw [List.take_add_one, hf]
        exact allL_snoc _ _ _)
      clear hf r1
      cases hb : nmB p f
      · rw [hb] at HT HNX
        clear hb
        go_wp2_with fail
        refine HT.out.mono ?_
        rintro e w2 ⟨rfl, hb⟩
        have HB3 : Hid (TxAt w w2 (.slice ua m uc) (allL p (q.take (k + 1)))) := Lib.hid (by
          rw [HNX.out, if_neg (by decide)]
          exact hB.out.on hb)
        clear hb
        go_wp2_with fail
        go_roundw
        case rel => exact ⟨k + 1, by omega, by simp, HB3⟩
        case measure => simp [intOf]; omega
      · rw [hb] at HT HNX
        clear hb c0 c1
        have hc1 := HR1.out.1
        obtain ⟨c0, c1⟩ := two (range_below HR1.out.1 hb1 hB.out.2)
        go_wp2_with fail
        refine HT.out.mono ?_
        rintro e w2 ⟨rfl, hb⟩
        clear c0 c1 hc1
        obtain ⟨d0, d1⟩ := two (range_below HR1.out.1 hb1 (hB.out.2.trans (hb.mono hB.out.2.size)))
        obtain ⟨a', c', w4, hr, hh⟩ := (hB.out.on hb).add HMM.out.symm f.v (by omega)
        have HR := Lib.hid hr
        have HB4 : Hid (TxAt w w4 (.slice a' (m + 1) c') (allL p (q.take (k + 1)))) := Lib.hid (by
          rw [HNX.out, if_pos trivial]
          exact hh.out)
        clear hb hr hh
        go_wp2_with (at_builtin; refine Lib.wpList_append_run _ rfl _ _ _ _ rfl _ _ rfl rfl _ _ HR.out ?_)
        go_roundw
        case rel => exact ⟨k + 1, by omega, by simp, HB4⟩
        case measure => simp [intOf]; omega
    · have HE : Hid (TxAt w wr (.slice ua m uc) (allL p q)) := Lib.hid (by
        have h := hB.out
        rw [List.take_of_length_le (by have := HNN.out; omega)] at h
        exact h)
      go_wp2_with fail
      go_ret
      exact ⟨_, rfl, HE.out⟩
theorem all_get (p : List UInt8) : ∀ q : List Fd, (allL p q)[0]? = if q.any (nmB p) = true then some (getL p q) else none
  | [] => rfl
  | f :: q => by
    have ih := all_get p q
    unfold allL getL at *
    rw [List.filter_cons, List.any_cons, List.find?_cons]
    cases h : nmB p f
    · simpa using ih
    · simp
theorem all_none {p : List UInt8} {q : List Fd} : (allL p q).length = 0 ↔ q.any (nmB p) = false := by
  have h := all_get p q
  constructor
  · intro h0
    rw [List.getElem?_eq_none (by omega)] at h
    cases ha : q.any (nmB p)
    · rfl
    · rw [ha] at h; cases h
  · intro h0
    rw [h0, if_neg (by decide)] at h
    have := List.getElem?_eq_none_iff.1 h
    omega
set_option maxRecDepth 100000 in
set_option maxHeartbeats 1000000 in
theorem rget_any (v : Value) (q : List Fd) (s : ByteArray) (w : World) (hv : ReadsF w v q) (hl : q.length ≤ 1000000) (hs : ∀ f ∈ q, f.n.size ≤ 1000000) (hz : s.size ≤ 1000000) :
    Calls Tryd.prog 16 #[v, .string s] w fun e w' => e = .returned (.tuple #[.string (getL (foldL (bl s)) q), .bool (q.any (nmB (foldL (bl s))))]) ∧ Below w.heap.size w w' := by
  have HA := Lib.hid (rall_any v q s w hv hl hs hz)
  have hle := all_le (foldL (bl s)) q
  have HG := Lib.hid (all_get (foldL (bl s)) q)
  have HN := Lib.hid (all_none (p := foldL (bl s)) (q := q))
  have HGN := Lib.hid (fun h => idx_none (p := foldL (bl s)) (q := q) h)
  clear hv hs
  generalize foldL (bl s) = p at *
  go_enter Tryd.func16, Tryd.ntmps16
  go_wp2_with fail
  refine HA.out.mono ?_
  rintro e w1 ⟨u, rfl, ht⟩
  obtain ⟨ua, uc, rfl⟩ := owns_slice ht.1
  have HT := Lib.hid ht
  cases ha : q.any (nmB p)
  · have hz0 := HN.out.2 ha
    have HE := Lib.hid (And.intro (HGN.out ha) ha)
    rw [hz0]
    clear ht ha
    go_wp2_with fail
    go_ret2
    exact ⟨by rw [HE.out.1, HE.out.2]; rfl, HT.out.2⟩
  · have hz0 : (((allL p q).length : Int) == 0) = false := by
      rw [beq_eq_false_iff_ne]
      intro e
      have := HN.out.1 (by omega)
      rw [ha] at this
      cases this
    have h0 := HG.out
    rw [ha, if_pos rfl] at h0
    have hlen : 0 < (allL p q).length := (List.getElem?_eq_some_iff.1 h0).1
    obtain ⟨b, c0⟩ : ∃ b, ua = some ⟨b, 0, none⟩ ∧ w1.cell? ⟨b, 0, none⟩ = some (.string (getL p q)) := by
      rcases owns_readsS ht.1 with ⟨a, c, h1, h2⟩ | ⟨b, c, h1, _, _, _, h3⟩
      · rw [h2] at hlen; simp at hlen
      · obtain ⟨rfl, _, _⟩ := Value.slice.inj h1
        exact ⟨b, rfl, h3 0 _ h0⟩
    obtain ⟨rfl, c0⟩ := c0
    obtain ⟨g, hg⟩ : ∃ g, getL p q = g := ⟨_, rfl⟩
    rw [hg] at c0
    have HE := Lib.hid (And.intro hg ha)
    clear ht ha h0 hg
    generalize (allL p q).length = m at *
    go_wp2_with fail
    go_ret2
    exact ⟨by rw [HE.out.1, HE.out.2]; rfl, HT.out.2⟩
set_option maxRecDepth 100000 in
set_option maxHeartbeats 2000000 in
theorem rless_any (v : Value) (q : List Fd) (s : ByteArray) (w : World) (hv : ReadsF w v q) (hl : q.length ≤ 1000000) (hs : ∀ f ∈ q, f.n.size ≤ 1000000) (hz : s.size ≤ 1000000) :
    Calls Tryd.prog 23 #[v, .string s] w fun e w' => ∃ u, e = .returned u ∧ FdsR w w' u (lessL (foldL (bl s)) q) := by
  obtain ⟨va, vc, rfl⟩ := hv.shape
  obtain ⟨n, hn⟩ : ∃ n, n = q.length := ⟨_, rfl⟩
  rw [← hn] at hv hl ⊢
  have HV := Lib.hid (fun k a ha => hv.at_ k a ha)
  have HNN := Lib.hid hn
  have HSM := Lib.hid (fun (f : Fd) (hf : f ∈ q) W => rsame_any f.n s W (hs f hf) hz)
  simp only [sameN_nm] at HSM
  have HS := Lib.hid (FdsR.start w)
  clear hv hn hs
  generalize foldL (bl s) = p at *
  go_enter Tryd.func23, Tryd.ntmps23
  go_wp2_with fail
  go_loopw [5, 6] (fun u i wr => ∃ k : Nat, k ≤ n ∧ i = .int .i64 k ∧ Hid (FdsR w wr u (lessL p (q.take k)))) (fun _ i _ => n - (intOf i).toNat)
  case atStart => exact ⟨0, Nat.zero_le _, rfl, HS⟩
  case round =>
    clear HS
    obtain ⟨k, hk, rfl, hB⟩ := hrel
    obtain ⟨ua, uc, rfl⟩ := owns_slice hB.out.1
    obtain ⟨m, hm⟩ : ∃ m, m = (lessL p (q.take k)).length := ⟨_, rfl⟩
    have hmk : m ≤ k := by
      rw [hm]
      exact Nat.le_trans (less_le _ _) (take_len_le _ _)
    rw [← hm] at hB ⊢
    have HMM := Lib.hid hm
    clear hm
    by_cases hlt : k < n
    · obtain ⟨f, hf⟩ : ∃ a, q[k]? = some a := ⟨q[k]'(by have := HNN.out; omega), List.getElem?_eq_getElem _⟩
      obtain ⟨b1, o1, rfl, hb1, r1⟩ := HV.out k f hf
      obtain ⟨c0, c1⟩ := two (range_below r1 hb1 hB.out.2)
      have HT := Lib.hid (HSM.out f (List.mem_of_getElem? hf) wr)
      have HR1 := Lib.hid (And.intro r1 hb1)
      have HNX : Hid (lessL p (q.take (k + 1)) = if nmB p f = true then lessL p (q.take k) else lessL p (q.take k) ++ [f]) := Lib.hid (by
        rw [List.take_add_one, hf]
        exact less_snoc _ _ _)
      clear hf r1
      cases hb : nmB p f
      · rw [hb] at HT HNX
        clear hb
        go_wp2_with fail
        refine HT.out.mono ?_
        rintro e w2 ⟨rfl, hb⟩
        clear c0 c1
        obtain ⟨d0, d1⟩ := two (range_below HR1.out.1 hb1 (hB.out.2.trans (hb.mono hB.out.2.size)))
        obtain ⟨a', c', w4, hr, hh⟩ := (hB.out.on hb).add HMM.out.symm f (by omega)
        have HR := Lib.hid hr
        have HB4 : Hid (FdsR w w4 (.slice a' (m + 1) c') (lessL p (q.take (k + 1)))) := Lib.hid (by
          rw [HNX.out, if_neg (by decide)]
          exact hh.out.1)
        clear hb hr hh
        go_wp2_with (at_builtin; refine Lib.wpList_append_run _ rfl _ _ _ _ rfl _ _ rfl rfl _ _ HR.out ?_)
        go_roundw
        case rel => exact ⟨k + 1, by omega, by simp, HB4⟩
        case measure => simp [intOf]; omega
      · rw [hb] at HT HNX
        clear hb
        go_wp2_with fail
        refine HT.out.mono ?_
        rintro e w2 ⟨rfl, hb⟩
        have HB3 : Hid (FdsR w w2 (.slice ua m uc) (lessL p (q.take (k + 1)))) := Lib.hid (by
          rw [HNX.out, if_pos trivial]
          exact hB.out.on hb)
        clear hb
        go_wp2_with fail
        go_roundw
        case rel => exact ⟨k + 1, by omega, by simp, HB3⟩
        case measure => simp [intOf]; omega
    · have HE : Hid (FdsR w wr (.slice ua m uc) (lessL p q)) := Lib.hid (by
        have h := hB.out
        rw [List.take_of_length_le (by have := HNN.out; omega)] at h
        exact h)
      go_wp2_with fail
      go_ret
      exact ⟨_, rfl, HE.out⟩
/-- The fields so far, with one put. -/
def putK (p : List UInt8) (f : Fd) (l : List Fd) : List Fd := if l.any (nmB p) = true then putL p f l else l
theorem putK_end (p : List UInt8) (f : Fd) (l : List Fd) : putL p f l = if l.any (nmB p) = true then putK p f l else putK p f l ++ [f] := by
  unfold putK
  cases h : l.any (nmB p)
  · simp [putL, h]
  · simp
theorem putK_snoc (p : List UInt8) (f : Fd) (l : List Fd) (x : Fd) : putK p f (l ++ [x]) = if nmB p x = true then (if l.any (nmB p) = true then putK p f l else putK p f l ++ [f]) else putK p f l ++ [x] := by
  unfold putK
  rw [List.any_append]
  cases h : l.any (nmB p)
  · cases hx : nmB p x
    · simp [hx]
    · rw [show ([x].any (nmB p)) = true by simp [hx]]
      simp only [Bool.or_true, if_true, Bool.false_eq_true, if_false]
      unfold putL
      rw [List.any_append, show ([x].any (nmB p)) = true by simp [hx], Bool.or_true, if_pos rfl]
      have hf : (l ++ [x]).findIdx (nmB p) = l.length := by
        refine first_here (k := l.length) (t := x) (by simp) ?_ hx
        rw [List.take_left']
        · exact h
        · rfl
      rw [hf, List.take_left', List.drop_eq_nil_of_le (by simp)]
      · rfl
      · rfl
  · have hlt : l.findIdx (nmB p) < l.length := List.findIdx_lt_length.2 (List.any_eq_true.1 h)
    have hf : (l ++ [x]).findIdx (nmB p) = l.findIdx (nmB p) := by
      rw [List.findIdx_append, if_pos hlt]
    simp only [Bool.true_or, if_true]
    unfold putL
    rw [List.any_append, h, Bool.true_or, if_pos rfl, if_pos rfl, hf, List.take_append_of_le_length (by omega), List.drop_append_of_le_length (by omega), less_snoc]
    cases hx : nmB p x <;> simp
theorem putK_len (p : List UInt8) (f : Fd) (l : List Fd) : (putK p f l).length ≤ l.length + 1 := by
  unfold putK putL
  split
  · have := less_le p (l.drop (l.findIdx (nmB p) + 1))
    have h2 : l.any (nmB p) = true := by assumption
    have hlt : l.findIdx (nmB p) < l.length := List.findIdx_lt_length.2 (List.any_eq_true.1 h2)
    rw [List.length_append, List.length_cons, List.length_take]
    rw [List.length_drop] at this
    omega
  · omega
set_option maxRecDepth 100000 in
set_option maxHeartbeats 4000000 in
theorem rput_any (v : Value) (q : List Fd) (f : Fd) (w : World) (hv : ReadsF w v q) (hl : q.length ≤ 1000000) (hs : ∀ f ∈ q, f.n.size ≤ 1000000) (hz : f.n.size ≤ 1000000) :
    Calls Tryd.prog 22 #[v, fdV f] w fun e w' => ∃ u, e = .returned u ∧ FdsR w w' u (putL (foldL (bl f.n)) f q) := by
  obtain ⟨va, vc, rfl⟩ := hv.shape
  obtain ⟨n, hn⟩ : ∃ n, n = q.length := ⟨_, rfl⟩
  rw [← hn] at hv hl ⊢
  have HV := Lib.hid (fun k a ha => hv.at_ k a ha)
  have HNN := Lib.hid hn
  have HSM := Lib.hid (fun (x : Fd) (hx : x ∈ q) W => rsame_any x.n f.n W (hs x hx) hz)
  simp only [sameN_nm] at HSM
  have HA : Hid (Below w.heap.size w (w.alloc (boxF rfT f))) := Lib.hid ((Below.refl _ _).alloc (Nat.le_refl _) _)
  have HNB := Lib.hid (new_boxF w rfT f)
  have HS : Hid (FdsR w (w.alloc (boxF rfT f)) (.slice none 0 0) [] ∧ (w.alloc (boxF rfT f)).rangeAt w.heap.size 0 (fdC f) ∧ w.heap.size < (w.alloc (boxF rfT f)).heap.size) := Lib.hid ⟨(FdsR.start w).on HA.out, HNB.out, by simp⟩
  clear hv hn hs
  generalize foldL (bl f.n) = p at *
  go_enter Tryd.func22, Tryd.ntmps22
  go_wp2_with fail
  go_loopw [5, 6, 7] (fun u d i wr => ∃ k : Nat, k ≤ n ∧ i = .int .i64 k ∧ d = .bool ((q.take k).any (nmB p)) ∧ Hid (FdsR w wr u (putK p f (q.take k)) ∧ wr.rangeAt w.heap.size 0 (fdC f) ∧ w.heap.size < wr.heap.size ∧ (∀ g, u.ownBlock = some g → g ≠ w.heap.size))) (fun _ _ i _ => n - (intOf i).toNat)
  case atStart => exact ⟨0, Nat.zero_le _, rfl, rfl, Lib.hid ⟨HS.out.1, HS.out.2.1, HS.out.2.2, by simp [Value.ownBlock]⟩⟩
  case round =>
    clear HS
    obtain ⟨k, hk, rfl, rfl, hB⟩ := hrel
    obtain ⟨ua, uc, rfl⟩ := owns_slice hB.out.1.1
    obtain ⟨m, hm⟩ : ∃ m, m = (putK p f (q.take k)).length := ⟨_, rfl⟩
    have hmk : m ≤ k + 1 := by
      rw [hm]
      have := putK_len p f (q.take k)
      have := take_len_le q k
      omega
    rw [← hm] at hB ⊢
    have HMM := Lib.hid hm
    clear hm
    by_cases hlt : k < n
    · obtain ⟨x, hx⟩ : ∃ a, q[k]? = some a := ⟨q[k]'(by have := HNN.out; omega), List.getElem?_eq_getElem _⟩
      obtain ⟨b1, o1, rfl, hb1, r1⟩ := HV.out k x hx
      have HR1 := Lib.hid (And.intro (range_below r1 hb1 hB.out.1.2) (show b1 < wr.heap.size by have := hB.out.1.2.size; omega))
      have HRF := Lib.hid (And.intro hB.out.2.1 hB.out.2.2.1)
      have HT := Lib.hid (HSM.out x (List.mem_of_getElem? hx))
      have HNX : Hid (putK p f (q.take (k + 1)) = (if nmB p x = true then (if (q.take k).any (nmB p) = true then putK p f (q.take k) else putK p f (q.take k) ++ [f]) else putK p f (q.take k) ++ [x]) ∧ (q.take (k + 1)).any (nmB p) = ((q.take k).any (nmB p) || nmB p x)) := Lib.hid (by
        rw [List.take_add_one, hx]
        exact ⟨putK_snoc _ _ _ _, by simp⟩)
      clear hx r1
      generalize hdn : (q.take k).any (nmB p) = dn at *
      generalize hnb : nmB p x = nb at *
      clear hdn hnb
      go_wp2_with fail
      refine wp_region_kept (by kernel_rfl) (by kernel_rfl) ?_
      repeat (first
        | (go_big_quiet_want
           first
             | refine quiet_load_str 9 (.tmp 18) rfl ⟨b1, o1 + k * 2, none⟩ rfl (.string x.n) (fun w' hk => (two (range_below HR1.out.1 HR1.out.2 hk)).1) Tryd.underlying9 ?_
             | refine quiet_load_str 9 (.tmp 20) rfl ⟨w.heap.size, 0, none⟩ rfl (.string f.n) (fun w' hk => (two (range_below HRF.out.1 HRF.out.2 hk)).1) Tryd.underlying9 ?_
           go_simp
           go_big_quiet_on)
        | (go_big_quiet_step ((first | (exact fun _ => rfl) | (intro hk; go_at_call 27; exact hk.call (HT.out _))))))
      refine wpQuiet_nil ?_
      intro W2 hk2
      have HK := Lib.hid hk2.below
      have HB2 : Hid (FdsR w W2 (.slice ua m uc) (putK p f (q.take k)) ∧ W2.rangeAt w.heap.size 0 (fdC f) ∧ w.heap.size < W2.heap.size ∧ (∀ g, (Value.slice ua m uc).ownBlock = some g → g ≠ w.heap.size)) := Lib.hid ⟨hB.out.1.on HK.out, range_below HRF.out.1 HRF.out.2 HK.out, by have := HK.out.size; have := HRF.out.2; omega, hB.out.2.2.2⟩
      clear hk2
      cases nb
      · obtain ⟨c0, c1⟩ := two (range_below HR1.out.1 HR1.out.2 HK.out)
        obtain ⟨a', c', w4, hr, hh⟩ := HB2.out.1.add2 HMM.out.symm x (by omega)
        have HR := Lib.hid hr
        have HN : Hid (FdsR w w4 (.slice a' (m + 1) c') (putK p f (q.take (k + 1))) ∧ w4.rangeAt w.heap.size 0 (fdC f) ∧ w.heap.size < w4.heap.size ∧ (∀ g, (Value.slice a' (m + 1) c').ownBlock = some g → g ≠ w.heap.size)) := Lib.hid (by
          obtain ⟨h1, h2, h3⟩ := hh.out
          obtain ⟨h4, h5⟩ := h3 w.heap.size HB2.out.2.2.2 HB2.out.2.2.1
          exact ⟨by rw [HNX.out.1, if_neg (by decide)]; exact h1, h4 _ HB2.out.2.1, by have := HB2.out.2.2.1; omega, h5⟩)
        have hq : (q.take (k + 1)).any (nmB p) = dn := by rw [HNX.out.2, Bool.or_false]
        clear hr hh
        go_wp2_with (at_builtin; refine Lib.wpList_append_run _ rfl _ _ _ _ rfl _ _ rfl rfl _ _ HR.out ?_)
        go_roundw
        case rel => exact ⟨k + 1, by omega, by simp, by rw [hq], HN⟩
        case measure => simp [intOf]; omega
      · cases dn
        · obtain ⟨c0, c1⟩ := two HB2.out.2.1
          obtain ⟨a', c', w4, hr, hh⟩ := HB2.out.1.add2 HMM.out.symm f (by omega)
          have HR := Lib.hid hr
          have HN : Hid (FdsR w w4 (.slice a' (m + 1) c') (putK p f (q.take (k + 1))) ∧ w4.rangeAt w.heap.size 0 (fdC f) ∧ w.heap.size < w4.heap.size ∧ (∀ g, (Value.slice a' (m + 1) c').ownBlock = some g → g ≠ w.heap.size)) := Lib.hid (by
            obtain ⟨h1, h2, h3⟩ := hh.out
            obtain ⟨h4, h5⟩ := h3 w.heap.size HB2.out.2.2.2 HB2.out.2.2.1
            exact ⟨by rw [HNX.out.1, if_pos rfl, if_neg (by decide)]; exact h1, h4 _ HB2.out.2.1, by have := HB2.out.2.2.1; omega, h5⟩)
          have hq : (q.take (k + 1)).any (nmB p) = true := by rw [HNX.out.2]; rfl
          clear hr hh
          go_wp2_with (at_builtin; refine Lib.wpList_append_run _ rfl _ _ _ _ rfl _ _ rfl rfl _ _ HR.out ?_)
          go_roundw
          case rel => exact ⟨k + 1, by omega, by simp, by rw [hq], HN⟩
          case measure => simp [intOf]; omega
        · have HN : Hid (FdsR w W2 (.slice ua m uc) (putK p f (q.take (k + 1))) ∧ W2.rangeAt w.heap.size 0 (fdC f) ∧ w.heap.size < W2.heap.size ∧ (∀ g, (Value.slice ua m uc).ownBlock = some g → g ≠ w.heap.size)) := Lib.hid ⟨by rw [HNX.out.1, if_pos rfl, if_pos rfl]; exact HB2.out.1, HB2.out.2⟩
          have hq : (q.take (k + 1)).any (nmB p) = true := by rw [HNX.out.2]; rfl
          go_wp2_with fail
          go_roundw
          case rel => exact ⟨k + 1, by omega, by simp, by rw [hq], HN⟩
          case measure => simp [intOf]; omega
    · have HE : Hid (q.take k = q) := Lib.hid (List.take_of_length_le (by have := HNN.out; omega))
      have HPE := Lib.hid (putK_end p f q)
      rw [HE.out] at hB HMM ⊢
      cases hdn : q.any (nmB p)
      · obtain ⟨c0, c1⟩ := two hB.out.2.1
        obtain ⟨a', c', w4, hr, hh⟩ := hB.out.1.add2 HMM.out.symm f (by omega)
        have HR := Lib.hid hr
        have HN : Hid (FdsR w w4 (.slice a' (m + 1) c') (putL p f q)) := Lib.hid (by
          rw [HPE.out, hdn, if_neg (by decide)]
          exact hh.out.1)
        clear hr hh hdn
        go_wp2_with (at_builtin; refine Lib.wpList_append_run _ rfl _ _ _ _ rfl _ _ rfl rfl _ _ HR.out ?_)
        go_ret
        exact ⟨_, rfl, HN.out⟩
      · have HN : Hid (FdsR w wr (.slice ua m uc) (putL p f q)) := Lib.hid (by
          rw [HPE.out, hdn, if_pos rfl]
          exact hB.out.1)
        clear hdn
        go_wp2_with fail
        go_ret
        exact ⟨_, rfl, HN.out⟩
end Go.Proofs.YtpklmlhioklpoaaDoor.Head
