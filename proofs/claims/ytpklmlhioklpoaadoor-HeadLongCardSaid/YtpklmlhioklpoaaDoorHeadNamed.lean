/-
  Walks: named, its function literal, slices.IndexFunc over fields, Get, All.
-/
import Derived.Test.YtpklmlhioklpoaaDoorHeadPieces
import Derived.Test.YtpklmlhioklpoaaDoorHeadRight
import Derived.Test.YtpklmlhioklpoaaDoorGlyphFold
namespace Go.Proofs.YtpklmlhioklpoaaDoor.Head
open Go Go.RowKit
open Go.Proofs.YtpklmlhioklpoaaDoor.Sha (Kept wp_region_kept wp_region_kept_tail quiet_load_row)
open Go.Proofs.YtpklmlhioklpoaaDoor.Glyph (foldL fold_any)

/-- Does a field have this name, folded? -/
def nmB (p : List UInt8) (f : Fd) : Bool := decide (foldL (bl f.n) = p)
/-- The value is the function that tells the fields of this name. -/
def ClAt (w : World) (cv : Value) (p : List UInt8) : Prop := ∃ g, cv = .func (.func 54) #[] #[.pointer (some ⟨g, 0, none⟩)] ∧ w.cell? ⟨g, 0, none⟩ = some (.string (ba p))
theorem fold_size (s : List UInt8) : (foldL s).length = s.length := by unfold foldL; simp
set_option maxRecDepth 100000 in
set_option maxHeartbeats 1000000 in
theorem named_any (s : ByteArray) (w : World) (hs : s.size ≤ 1000000) :
    Calls Tryd.prog 38 #[.string s] w fun e w' => ∃ g, e = .returned (.func (.func 54) #[] #[.pointer (some ⟨g, 0, none⟩)]) ∧ w.heap.size ≤ g ∧ w'.cell? ⟨g, 0, none⟩ = some (.string (ba (foldL (bl s)))) ∧ Below w.heap.size w w' := by
  have HF := Lib.hid (fold_any s w hs)
  go_enter Tryd.func38, Tryd.ntmps38
  go_wp2_with fail
  refine HF.out.mono ?_
  rintro e w1 ⟨rfl, hb⟩
  have HB := Lib.hid hb
  have HC : Hid ((w1.alloc (.cells #[.string (ba (foldL (bl s)))] strT)).cell? ⟨w1.heap.size, 0, none⟩ = some (.string (ba (foldL (bl s))))) := Lib.hid (new_str w1 _)
  clear hb
  go_wp2_with fail
  go_ret
  exact ⟨_, rfl, HB.out.size, HC.out, HB.out.alloc HB.out.size _⟩
set_option maxRecDepth 100000 in
set_option maxHeartbeats 1000000 in
theorem told_any (f : Fd) (p : List UInt8) (g : Nat) (w : World) (hs : f.n.size ≤ 1000000) (hc : w.cell? ⟨g, 0, none⟩ = some (.string (ba p))) :
    Calls Tryd.prog 54 #[fdV f, .pointer (some ⟨g, 0, none⟩)] w fun e w' => e = .returned (.bool (nmB p f)) ∧ Below w.heap.size w w' := by
  have HA : Hid (Below w.heap.size w (w.alloc (boxF fdT f))) := Lib.hid ((Below.refl _ _).alloc (Nat.le_refl _) _)
  have HR := Lib.hid (new_boxF w fdT f)
  have HL : Hid (w.heap.size < (w.alloc (boxF fdT f)).heap.size ∧ g < w.heap.size) := Lib.hid ⟨by simp, cell_lt hc⟩
  have HC := Lib.hid hc
  have HF := Lib.hid (fun W => fold_any f.n W hs)
  have HQ : Hid (((ba (foldL (bl f.n))).toList == (ba p).toList) = nmB p f) := Lib.hid (by
    rw [str_eq]
    unfold nmB
    rw [decide_eq_decide]
    exact ⟨ba_inj, fun h => by rw [h]⟩)
  have hfc : Hid (∀ w' : World, Kept (w.alloc (boxF fdT f)) w' → w'.cell? ⟨g, 0, none⟩ = some (.string (ba p))) := Lib.hid (fun w' hk => by
    rw [hk.below.cell (p := ⟨g, 0, none⟩) (Nat.lt_trans HL.out.2 HL.out.1), HA.out.cell (p := ⟨g, 0, none⟩) HL.out.2]
    exact HC.out)
  generalize hfl : ba (foldL (bl f.n)) = fl at *
  have HF2 : Hid (∀ W, Calls Tryd.prog 53 #[.string f.n] W fun e w' => e = .returned (.string fl) ∧ Below W.heap.size W w') := Lib.hid (fun W => by rw [← hfl]; exact HF.out W)
  clear hc hfl HF
  generalize ba p = pb at *
  go_enter Tryd.func54, Tryd.ntmps54
  go_wp2_with fail
  refine wp_region_kept (by kernel_rfl) (by kernel_rfl) ?_
  repeat (first
    | (go_big_quiet_want
       first
         | refine quiet_load_str 9 (.tmp 4) rfl ⟨w.heap.size, 0, none⟩ rfl (.string f.n) (fun w' hk => (two (range_below HR.out HL.out.1 hk)).1) Tryd.underlying9 ?_
         | refine quiet_load_str 9 (.tmp 1) rfl ⟨g, 0, none⟩ rfl (.string pb) (fun w' hk => hfc.out w' hk) Tryd.underlying9 ?_
       go_simp
       go_big_quiet_on)
    | (go_big_quiet_step ((first | (exact fun _ => rfl) | (intro hk; go_at_call 53; exact hk.call (HF2.out _))))))
  refine wpQuiet_nil ?_
  intro W2 hk2
  have HK2 := Lib.hid (HA.out.trans (hk2.below.mono HA.out.size))
  clear hk2
  go_wp2_with fail
  go_ret
  exact ⟨ret_bool (by rw [← HQ.out]), HK2.out⟩
/-- The place of the first field of this name. -/
def idxL (p : List UInt8) (q : List Fd) : Int := if q.any (nmB p) = true then (q.findIdx (nmB p) : Int) else -1
theorem none_take {p : Fd → Bool} {T : List Fd} {k : Nat} {t : Fd} (hk : T[k]? = some t) (hall : (T.take k).any p = false) (h : p t = false) : (T.take (k + 1)).any p = false := by
  rw [List.take_add_one, hk, List.any_append, hall]
  simp [h]
theorem first_here {p : Fd → Bool} {T : List Fd} {k : Nat} {t : Fd} (hk : T[k]? = some t) (hall : (T.take k).any p = false) (h : p t = true) : T.findIdx p = k := by
  obtain ⟨h1, h2⟩ := List.getElem?_eq_some_iff.1 hk
  refine List.findIdx_eq (p := p) h1 |>.2 ⟨by rw [h2]; exact h, fun j hj => ?_⟩
  rw [List.any_eq_false] at hall
  have := hall (T[j]'(by omega)) (by
    rw [List.mem_iff_getElem?]
    exact ⟨j, by rw [List.getElem?_take, if_pos hj]; exact List.getElem?_eq_getElem _⟩)
  simpa using this
set_option maxRecDepth 100000 in
set_option maxHeartbeats 1000000 in
theorem indexF_any (v cv : Value) (q : List Fd) (p : List UInt8) (w : World) (hv : ReadsF w v q) (hc : ClAt w cv p) (hl : q.length ≤ 1000000) (hs : ∀ f ∈ q, f.n.size ≤ 1000000) :
    Calls Tryd.prog 37 #[v, cv] w fun e w' => e = .returned (.int .i64 (idxL p q)) ∧ Below w.heap.size w w' := by
  obtain ⟨va, vc, rfl⟩ := hv.shape
  obtain ⟨g, rfl, hcg⟩ := hc
  obtain ⟨n, hn⟩ : ∃ n, n = q.length := ⟨_, rfl⟩
  rw [← hn] at hv hl ⊢
  have HV := Lib.hid (fun k a ha => hv.at_ k a ha)
  have HNN := Lib.hid hn
  have HS := Lib.hid hs
  have HC := Lib.hid hcg
  clear hv hn hs hcg
  go_enter Tryd.func37, Tryd.ntmps37
  go_wp2_with fail
  go_loopw [8] (fun i wr => ∃ k : Nat, k ≤ n ∧ i = .int .i64 k ∧ Hid ((q.take k).any (nmB p) = false ∧ Below w.heap.size w wr)) (fun i _ => n - (intOf i).toNat)
  case atStart => exact ⟨0, Nat.zero_le _, rfl, Lib.hid ⟨by simp, Below.refl _ _⟩⟩
  case round =>
    obtain ⟨k, hk, rfl, hB⟩ := hrel
    by_cases hlt : k < n
    · obtain ⟨f, hf⟩ : ∃ a, q[k]? = some a := ⟨q[k]'(by have := HNN.out; omega), List.getElem?_eq_getElem _⟩
      obtain ⟨b1, o1, rfl, hb1, r1⟩ := HV.out k f hf
      obtain ⟨c0, c1⟩ := two (range_below r1 hb1 hB.out.2)
      have HT := Lib.hid (told_any f p g wr (HS.out f (List.mem_of_getElem? hf)) (by rw [hB.out.2.cell (p := ⟨g, 0, none⟩) (cell_lt HC.out)]; exact HC.out))
      cases hb : nmB p f
      · have HN := Lib.hid (none_take hf hB.out.1 hb)
        rw [hb] at HT
        clear hf hb r1
        go_wp2_with fail
        refine HT.out.mono ?_
        rintro e w1 ⟨rfl, hb⟩
        have HB2 := Lib.hid (And.intro HN.out (hB.out.2.trans (hb.mono hB.out.2.size)))
        clear hb
        go_wp2_with fail
        go_roundw
        case rel => exact ⟨k + 1, by omega, by simp, HB2⟩
        case measure => simp [intOf]; omega
      · have HE : Hid (idxL p q = (k : Int)) := Lib.hid (by
          unfold idxL
          rw [if_pos (List.any_eq_true.2 ⟨f, List.mem_of_getElem? hf, hb⟩), first_here hf hB.out.1 hb])
        rw [hb] at HT
        clear hf hb r1
        go_wp2_with fail
        refine HT.out.mono ?_
        rintro e w1 ⟨rfl, hb⟩
        have HB2 := Lib.hid (hB.out.2.trans (hb.mono hB.out.2.size))
        clear hb
        go_wp2_with fail
        go_ret
        exact ⟨by rw [HE.out]; rfl, HB2.out⟩
    · have HE : Hid (idxL p q = -1) := Lib.hid (by
        have h := hB.out.1
        rw [List.take_of_length_le (by have := HNN.out; omega)] at h
        unfold idxL
        rw [h, if_neg (by decide)])
      go_wp2_with fail
      go_ret
      exact ⟨by rw [HE.out]; rfl, hB.out.2⟩
/-- What Get tells. -/
def getL (p : List UInt8) (q : List Fd) : ByteArray := match q.find? (nmB p) with | some f => f.v | none => ⟨#[]⟩
theorem idx_get {p : List UInt8} {q : List Fd} (h : q.any (nmB p) = true) : ∃ f, q[q.findIdx (nmB p)]? = some f ∧ getL p q = f.v := by
  have hlt : q.findIdx (nmB p) < q.length := List.findIdx_lt_length.2 (List.any_eq_true.1 h)
  refine ⟨q[q.findIdx (nmB p)], List.getElem?_eq_getElem hlt, ?_⟩
  unfold getL
  have : q.find? (nmB p) = some (q[q.findIdx (nmB p)]) := by
    rw [List.find?_eq_getElem?_findIdx]
    exact List.getElem?_eq_getElem hlt
  rw [this]
theorem idx_none {p : List UInt8} {q : List Fd} (h : q.any (nmB p) = false) : getL p q = ⟨#[]⟩ := by
  unfold getL
  rw [List.find?_eq_none.2]
  intro x hx
  rw [List.any_eq_false] at h
  exact h x hx
set_option maxRecDepth 100000 in
set_option maxHeartbeats 1000000 in
theorem get_any (v : Value) (q : List Fd) (s : ByteArray) (w : World) (hv : ReadsF w v q) (hl : q.length ≤ 1000000) (hs : ∀ f ∈ q, f.n.size ≤ 1000000) (hz : s.size ≤ 1000000) :
    Calls Tryd.prog 15 #[v, .string s] w fun e w' => e = .returned (.tuple #[.string (getL (foldL (bl s)) q), .bool (q.any (nmB (foldL (bl s))))]) ∧ Below w.heap.size w w' := by
  obtain ⟨va, vc, rfl⟩ := hv.shape
  obtain ⟨n, hn⟩ : ∃ n, n = q.length := ⟨_, rfl⟩
  have HX : Hid (∀ w1 cv, Below w.heap.size w w1 → ClAt w1 cv (foldL (bl s)) → Calls Tryd.prog 37 #[.slice va n vc, cv] w1 fun e w' => e = .returned (.int .i64 (idxL (foldL (bl s)) q)) ∧ Below w1.heap.size w1 w') := Lib.hid (fun w1 cv hb hc => by
    rw [hn]
    exact indexF_any _ cv q _ w1 (hv.below hb) hc hl hs)
  rw [← hn] at hv ⊢
  have HV := Lib.hid (fun k a ha => hv.at_ k a ha)
  have HNN := Lib.hid hn
  have HN := Lib.hid (named_any s w hz)
  clear hv hn hl hs
  generalize foldL (bl s) = p at *
  cases ha : q.any (nmB p)
  · have HI : Hid (idxL p q = -1 ∧ getL p q = ⟨#[]⟩) := Lib.hid ⟨by unfold idxL; rw [ha, if_neg (by decide)], idx_none ha⟩
    rw [HI.out.1] at HX
    clear ha
    go_enter Tryd.func15, Tryd.ntmps15
    go_wp2_with fail
    refine HN.out.mono ?_
    rintro e w1 ⟨g, rfl, _, hcg, hb⟩
    have HX1 := Lib.hid (HX.out w1 _ hb ⟨g, rfl, hcg⟩)
    have HB1 := Lib.hid hb
    clear hb hcg
    go_wp2_with fail
    refine HX1.out.mono ?_
    rintro e w2 ⟨rfl, hb⟩
    have HB2 := Lib.hid (HB1.out.trans (hb.mono HB1.out.size))
    clear hb
    go_wp2_with fail
    go_ret2
    exact ⟨by rw [HI.out.2]; rfl, HB2.out⟩
  · obtain ⟨f, hf, hg⟩ := idx_get ha
    have HI : Hid (idxL p q = (q.findIdx (nmB p) : Int) ∧ getL p q = f.v) := Lib.hid ⟨by unfold idxL; rw [ha, if_pos rfl], hg⟩
    rw [HI.out.1] at HX
    obtain ⟨b1, o1, rfl, hb1, r1⟩ := HV.out _ f hf
    have hlt : q.findIdx (nmB p) < n := by rw [HNN.out]; exact (List.getElem?_eq_some_iff.1 hf).1
    have HR := Lib.hid r1
    clear ha hf hg r1
    generalize q.findIdx (nmB p) = k at *
    go_enter Tryd.func15, Tryd.ntmps15
    go_wp2_with fail
    refine HN.out.mono ?_
    rintro e w1 ⟨g, rfl, _, hcg, hb⟩
    have HX1 := Lib.hid (HX.out w1 _ hb ⟨g, rfl, hcg⟩)
    have HB1 := Lib.hid hb
    clear hb hcg
    go_wp2_with fail
    refine HX1.out.mono ?_
    rintro e w2 ⟨rfl, hb⟩
    have HB2 := Lib.hid (HB1.out.trans (hb.mono HB1.out.size))
    obtain ⟨c0, c1⟩ := two (range_below HR.out hb1 HB2.out)
    clear hb
    go_wp2_with fail
    go_ret2
    exact ⟨by rw [HI.out.2]; rfl, HB2.out⟩
theorem TxAt.add2 {w W : World} {n c : Nat} {a : Option Addr} {ws : List ByteArray} (h : TxAt w W (.slice a n c) ws) (hn : ws.length = n) (x : ByteArray) (hl : n ≤ 2000000) :
    ∃ a' c' w', (Builtin.append_ #[strsT, strsT] strsT #[.slice a n c, .slice (some ⟨W.heap.size, 0, none⟩) 1 1]).run Tryd.prog (W.alloc (.cells #[.string x] strT)) = .ok (.slice a' (n + 1) c') w' ∧ Hid (TxAt w w' (.slice a' (n + 1) c') (ws ++ [x]) ∧
      ∀ (g : Nat), (Value.slice a n c).ownBlock ≠ some g → ∀ {v : Value}, W.cell? ⟨g, 0, none⟩ = some v → w'.cell? ⟨g, 0, none⟩ = some v ∧ (Value.slice a' (n + 1) c').ownBlock ≠ some g) := by
  have ho := h.1
  obtain ⟨a', c', w', hr, hh⟩ := append_str W w.heap.size (.slice a n c) ws x (by rw [hn]; rw [hn] at ho; exact ho) (by omega) h.2.size
  rw [hn] at hr hh
  obtain ⟨h1, h2, h3, h4⟩ := hh.out
  refine ⟨a', c', w', hr, Lib.hid ⟨⟨?_, h.2.trans h2⟩, fun g hg v hv => ?_⟩⟩
  · rw [List.length_append, hn]
    exact h1
  · have hlt := cell_lt hv
    refine ⟨h3.cell (a := ⟨g, 0, none⟩) ?_ (fun e => hg e.symm), fun e => ?_⟩
    · rw [((Below.refl W.heap.size W).alloc (Nat.le_refl _) _).cell (p := ⟨g, 0, none⟩) hlt]
      exact hv
    · rcases h4 g e with e2 | e2
      · exact hg e2
      · omega
/-- The values of the fields of this name. -/
def allL (p : List UInt8) (q : List Fd) : List ByteArray := (q.filter (nmB p)).map (·.v)
theorem allL_snoc (p : List UInt8) (q : List Fd) (f : Fd) : allL p (q ++ [f]) = if nmB p f = true then allL p q ++ [f.v] else allL p q := by
  unfold allL
  rw [List.filter_append, List.map_append]
  cases h : nmB p f <;> simp [h]
set_option maxRecDepth 100000 in
set_option maxHeartbeats 2000000 in
theorem all_any (v : Value) (q : List Fd) (s : ByteArray) (w : World) (hv : ReadsF w v q) (hl : q.length ≤ 1000000) (hs : ∀ f ∈ q, f.n.size ≤ 1000000) (hz : s.size ≤ 1000000) :
    Calls Tryd.prog 20 #[v, .string s] w fun e w' => ∃ u, e = .returned u ∧ TxAt w w' u (allL (foldL (bl s)) q) := by
  obtain ⟨va, vc, rfl⟩ := hv.shape
  obtain ⟨n, hn⟩ : ∃ n, n = q.length := ⟨_, rfl⟩
  rw [← hn] at hv hl ⊢
  have HV := Lib.hid (fun k a ha => hv.at_ k a ha)
  have HNN := Lib.hid hn
  have HS := Lib.hid hs
  have HN := Lib.hid (named_any s w hz)
  clear hv hn hs
  generalize foldL (bl s) = p at *
  go_enter Tryd.func20, Tryd.ntmps20
  go_wp2_with fail
  refine HN.out.mono ?_
  rintro e w1 ⟨g, rfl, _, hcg, hb⟩
  have HC := Lib.hid hcg
  have HB1 := Lib.hid hb
  have HST : Hid (TxAt w w1 (.slice none 0 0) []) := Lib.hid ((TxAt.start w).on hb)
  clear hb hcg
  go_wp2_with fail
  go_loopw [6, 13] (fun u i wr => ∃ k : Nat, k ≤ n ∧ i = .int .i64 k ∧ Hid (TxAt w wr u (allL p (q.take k)) ∧ wr.cell? ⟨g, 0, none⟩ = some (.string (ba p)) ∧ u.ownBlock ≠ some g)) (fun _ i _ => n - (intOf i).toNat)
  case atStart => exact ⟨0, Nat.zero_le _, rfl, Lib.hid ⟨HST.out, HC.out, by simp [Value.ownBlock]⟩⟩
  case round =>
    obtain ⟨k, hk, rfl, hB⟩ := hrel
    obtain ⟨ua, uc, rfl⟩ := owns_slice hB.out.1.1
    obtain ⟨m, hm⟩ : ∃ m, m = (allL p (q.take k)).length := ⟨_, rfl⟩
    have hmk : m ≤ k := by
      rw [hm]
      unfold allL
      rw [List.length_map]
      have := (List.filter_sublist (p := nmB p) (l := q.take k)).length_le
      rw [List.length_take] at this
      omega
    rw [← hm] at hB ⊢
    have HMM := Lib.hid hm
    clear hm
    by_cases hlt : k < n
    · obtain ⟨f, hf⟩ : ∃ a, q[k]? = some a := ⟨q[k]'(by have := HNN.out; omega), List.getElem?_eq_getElem _⟩
      obtain ⟨b1, o1, rfl, hb1, r1⟩ := HV.out k f hf
      obtain ⟨c0, c1⟩ := two (range_below r1 hb1 hB.out.1.2)
      have hal : Below wr.heap.size wr (wr.alloc (boxF fdT f)) := (Below.refl _ _).alloc (Nat.le_refl _) _
      have HB2 := Lib.hid (And.intro (hB.out.1.on hal) hB.out.2.2)
      have hgc : (wr.alloc (boxF fdT f)).cell? ⟨g, 0, none⟩ = some (.string (ba p)) := by
        rw [hal.cell (p := ⟨g, 0, none⟩) (cell_lt hB.out.2.1)]
        exact hB.out.2.1
      have HGC := Lib.hid hgc
      have HNB := Lib.hid (new_boxF wr fdT f)
      have HT := Lib.hid (told_any f p g (wr.alloc (boxF fdT f)) (HS.out f (List.mem_of_getElem? hf)) hgc)
      have HNX : Hid (allL p (q.take (k + 1)) = if nmB p f = true then allL p (q.take k) ++ [f.v] else allL p (q.take k)) := Lib.hid (by
        rw [List.take_add_one, hf]
        exact allL_snoc _ _ _)
      clear hf r1 hgc hal
      cases hb : nmB p f
      · rw [hb] at HT HNX
        clear hb
        go_wp2_with fail
        refine HT.out.mono ?_
        rintro e w2 ⟨rfl, hb⟩
        have HB3 : Hid (TxAt w w2 (.slice ua m uc) (allL p (q.take (k + 1))) ∧ w2.cell? ⟨g, 0, none⟩ = some (.string (ba p)) ∧ (Value.slice ua m uc).ownBlock ≠ some g) := Lib.hid ⟨by
          rw [HNX.out, if_neg (by decide)]
          exact HB2.out.1.on hb, by rw [hb.cell (p := ⟨g, 0, none⟩) (cell_lt HGC.out)]; exact HGC.out, HB2.out.2⟩
        clear hb
        go_wp2_with fail
        go_roundw
        case rel => exact ⟨k + 1, by omega, by simp, HB3⟩
        case measure => simp [intOf]; omega
      · rw [hb] at HT HNX
        clear hb
        go_wp2_with fail
        refine HT.out.mono ?_
        rintro e w2 ⟨rfl, hb⟩
        obtain ⟨d0, d1⟩ := two (range_below HNB.out (by simp) hb)
        obtain ⟨a', c', w4, hr, hh⟩ := (HB2.out.1.on hb).add2 HMM.out.symm f.v (by omega)
        have HR := Lib.hid hr
        have HB4 : Hid (TxAt w w4 (.slice a' (m + 1) c') (allL p (q.take (k + 1))) ∧ w4.cell? ⟨g, 0, none⟩ = some (.string (ba p)) ∧ (Value.slice a' (m + 1) c').ownBlock ≠ some g) := Lib.hid ⟨by
          rw [HNX.out, if_pos trivial]
          exact hh.out.1, hh.out.2 g HB2.out.2 (by rw [hb.cell (p := ⟨g, 0, none⟩) (cell_lt HGC.out)]; exact HGC.out)⟩
        clear hb hr hh
        go_wp2_with (at_builtin; refine Lib.wpList_append_run _ rfl _ _ _ _ rfl _ _ rfl rfl _ _ HR.out ?_)
        go_roundw
        case rel => exact ⟨k + 1, by omega, by simp, HB4⟩
        case measure => simp [intOf]; omega
    · have HE : Hid (TxAt w wr (.slice ua m uc) (allL p q)) := Lib.hid (by
        have h := hB.out.1
        rw [List.take_of_length_le (by have := HNN.out; omega)] at h
        exact h)
      go_wp2_with fail
      go_ret
      exact ⟨_, rfl, HE.out⟩
end Go.Proofs.YtpklmlhioklpoaaDoor.Head
