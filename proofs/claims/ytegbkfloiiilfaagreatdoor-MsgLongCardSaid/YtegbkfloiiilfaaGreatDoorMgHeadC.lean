/-
  Walks of head, the third part.
-/
import Derived.Test.YtegbkfloiiilfaaGreatDoorMgHeadA
import Derived.Test.YtegbkfloiiilfaaGreatDoorMgGlyph
import Derived.Test.YtegbkfloiiilfaaGreatDoorMgHeadB

/-
  Walks: named, its function literal, slices.IndexFunc over fields, Get, All.
-/
namespace Go.Proofs.YtegbkfloiiilfaaGreatDoor.Head
open Go Go.RowKit
open Go.Proofs.YtegbkfloiiilfaaGreatDoor.Sha (Kept wp_region_kept wp_region_kept_tail quiet_load_row)
open Go.Proofs.YtegbkfloiiilfaaGreatDoor.Glyph (foldL fold_any)

/-- Does a field have this name, folded? -/
def nmB (p : List UInt8) (f : Fd) : Bool := decide (foldL (bl f.n) = p)
/-- The value is the function that tells the fields of this name. -/
def ClAt (w : World) (cv : Value) (p : List UInt8) : Prop := ∃ g, cv = .func (.func 100) #[] #[.pointer (some ⟨g, 0, none⟩)] ∧ w.cell? ⟨g, 0, none⟩ = some (.string (ba p))
theorem fold_size (s : List UInt8) : (foldL s).length = s.length := by unfold foldL; simp
set_option maxRecDepth 100000 in
set_option maxHeartbeats 1000000 in
theorem named_any (s : ByteArray) (w : World) (hs : s.size ≤ 1000000) :
    Calls Tryz.prog 77 #[.string s] w fun e w' => ∃ g, e = .returned (.func (.func 100) #[] #[.pointer (some ⟨g, 0, none⟩)]) ∧ w.heap.size ≤ g ∧ w'.cell? ⟨g, 0, none⟩ = some (.string (ba (foldL (bl s)))) ∧ Below w.heap.size w w' := by
  have HF := Lib.hid (fold_any s w hs)
  go_enter Tryz.func77, Tryz.ntmps77
  go_wp2_with fail
  refine HF.out.mono ?_
  rintro e w1 ⟨rfl, hb⟩
  have HB := Lib.hid hb
  have HC : Hid ((w1.alloc (.cells #[.string (ba (foldL (bl s)))] strT)).cell? ⟨w1.heap.size, 0, none⟩ = some (.string (ba (foldL (bl s))))) := Lib.hid (new_str w1 _)
  clear hb
  go_wp2_with fail
  go_ret
  exact ⟨_, rfl, HB.out.size, HC.out, HB.out.alloc HB.out.size _⟩
set_option maxRecDepth 100000 in
set_option maxHeartbeats 1000000 in
theorem told_any (f : Fd) (p : List UInt8) (g : Nat) (w : World) (hs : f.n.size ≤ 1000000) (hc : w.cell? ⟨g, 0, none⟩ = some (.string (ba p))) :
    Calls Tryz.prog 100 #[fdV f, .pointer (some ⟨g, 0, none⟩)] w fun e w' => e = .returned (.bool (nmB p f)) ∧ Below w.heap.size w w' := by
  have HA : Hid (Below w.heap.size w (w.alloc (boxF fdT f))) := Lib.hid ((Below.refl _ _).alloc (Nat.le_refl _) _)
  have HR := Lib.hid (new_boxF w fdT f)
  have HL : Hid (w.heap.size < (w.alloc (boxF fdT f)).heap.size ∧ g < w.heap.size) := Lib.hid ⟨by simp, cell_lt hc⟩
  have HC := Lib.hid hc
  have HF := Lib.hid (fun W => fold_any f.n W hs)
  have HQ : Hid (((ba (foldL (bl f.n))).toList == (ba p).toList) = nmB p f) := Lib.hid (by
    rw [str_eq]
    unfold nmB
    rw [decide_eq_decide]
    exact ⟨ba_inj, fun h => by rw [h]⟩)
  have hfc : Hid (∀ w' : World, Kept (w.alloc (boxF fdT f)) w' → w'.cell? ⟨g, 0, none⟩ = some (.string (ba p))) := Lib.hid (fun w' hk => by
    rw [hk.below.cell (p := ⟨g, 0, none⟩) (Nat.lt_trans HL.out.2 HL.out.1), HA.out.cell (p := ⟨g, 0, none⟩) HL.out.2]
    exact HC.out)
  generalize hfl : ba (foldL (bl f.n)) = fl at *
  have HF2 : Hid (∀ W, Calls Tryz.prog 50 #[.string f.n] W fun e w' => e = .returned (.string fl) ∧ Below W.heap.size W w') := Lib.hid (fun W => by rw [← hfl]; exact HF.out W)
  clear hc hfl HF
  generalize ba p = pb at *
  go_enter Tryz.func100, Tryz.ntmps100
  go_wp2_with fail
  refine wp_region_kept (by kernel_rfl) (by kernel_rfl) ?_
  repeat (first
    | (go_big_quiet_want
       first
         | refine quiet_load_str 9 (.tmp 4) rfl ⟨w.heap.size, 0, none⟩ rfl (.string f.n) (fun w' hk => (two (range_below HR.out HL.out.1 hk)).1) Tryz.underlying9 ?_
         | refine quiet_load_str 9 (.tmp 1) rfl ⟨g, 0, none⟩ rfl (.string pb) (fun w' hk => hfc.out w' hk) Tryz.underlying9 ?_
       go_simp
       go_big_quiet_on)
    | (go_big_quiet_step ((first | (exact fun _ => rfl) | (intro hk; go_at_call 50; exact hk.call (HF2.out _))))))
  refine wpQuiet_nil ?_
  intro W2 hk2
  have HK2 := Lib.hid (HA.out.trans (hk2.below.mono HA.out.size))
  clear hk2
  go_wp2_with fail
  go_ret
  exact ⟨ret_bool (by rw [← HQ.out]), HK2.out⟩
/-- The place of the first field of this name. -/
def idxL (p : List UInt8) (q : List Fd) : Int := if q.any (nmB p) = true then (q.findIdx (nmB p) : Int) else -1
theorem none_take {p : Fd → Bool} {T : List Fd} {k : Nat} {t : Fd} (hk : T[k]? = some t) (hall : (T.take k).any p = false) (h : p t = false) : (T.take (k + 1)).any p = false := by
  rw [List.take_add_one, hk, List.any_append, hall]
  simp [h]
theorem first_here {p : Fd → Bool} {T : List Fd} {k : Nat} {t : Fd} (hk : T[k]? = some t) (hall : (T.take k).any p = false) (h : p t = true) : T.findIdx p = k := by
  obtain ⟨h1, h2⟩ := List.getElem?_eq_some_iff.1 hk
  refine List.findIdx_eq (p := p) h1 |>.2 ⟨by rw [h2]; exact h, fun j hj => ?_⟩
  rw [List.any_eq_false] at hall
  have := hall (T[j]'(by omega)) (by
    rw [List.mem_iff_getElem?]
    exact ⟨j, by rw [List.getElem?_take, if_pos hj]; exact List.getElem?_eq_getElem _⟩)
  simpa using this
set_option maxRecDepth 100000 in
set_option maxHeartbeats 1000000 in
theorem indexF_any (v cv : Value) (q : List Fd) (p : List UInt8) (w : World) (hv : ReadsF w v q) (hc : ClAt w cv p) (hl : q.length ≤ 1000000) (hs : ∀ f ∈ q, f.n.size ≤ 1000000) :
    Calls Tryz.prog 76 #[v, cv] w fun e w' => e = .returned (.int .i64 (idxL p q)) ∧ Below w.heap.size w w' := by
  obtain ⟨va, vc, rfl⟩ := hv.shape
  obtain ⟨g, rfl, hcg⟩ := hc
  obtain ⟨n, hn⟩ : ∃ n, n = q.length := ⟨_, rfl⟩
  rw [← hn] at hv hl ⊢
  have HV := Lib.hid (fun k a ha => hv.at_ k a ha)
  have HNN := Lib.hid hn
  have HS := Lib.hid hs
  have HC := Lib.hid hcg
  clear hv hn hs hcg
  go_enter Tryz.func76, Tryz.ntmps76
  go_wp2_with fail
  go_loopw [8] (fun i wr => ∃ k : Nat, k ≤ n ∧ i = .int .i64 k ∧ Hid ((q.take k).any (nmB p) = false ∧ Below w.heap.size w wr)) (fun i _ => n - (intOf i).toNat)
  case atStart => exact ⟨0, Nat.zero_le _, rfl, Lib.hid ⟨by simp, Below.refl _ _⟩⟩
  case round =>
    obtain ⟨k, hk, rfl, hB⟩ := hrel
    by_cases hlt : k < n
    · obtain ⟨f, hf⟩ : ∃ a, q[k]? = some a := ⟨q[k]'(by have := HNN.out; omega), List.getElem?_eq_getElem _⟩
      obtain ⟨b1, o1, rfl, hb1, r1⟩ := HV.out k f hf
      obtain ⟨c0, c1⟩ := two (range_below r1 hb1 hB.out.2)
      have HT := Lib.hid (told_any f p g wr (HS.out f (List.mem_of_getElem? hf)) (by rw [hB.out.2.cell (p := ⟨g, 0, none⟩) (cell_lt HC.out)]; exact HC.out))
      cases hb : nmB p f
      · have HN := Lib.hid (none_take hf hB.out.1 hb)
        rw [hb] at HT
        clear hf hb r1
        go_wp2_with fail
        refine HT.out.mono ?_
        rintro e w1 ⟨rfl, hb⟩
        have HB2 := Lib.hid (And.intro HN.out (hB.out.2.trans (hb.mono hB.out.2.size)))
        clear hb
        go_wp2_with fail
        go_roundw
        case rel => exact ⟨k + 1, by omega, by simp, HB2⟩
        case measure => simp [intOf]; omega
      · have HE : Hid (idxL p q = (k : Int)) := Lib.hid (by
          unfold idxL
          rw [if_pos (List.any_eq_true.2 ⟨f, List.mem_of_getElem? hf, hb⟩), first_here hf hB.out.1 hb])
        rw [hb] at HT
        clear hf hb r1
        go_wp2_with fail
        refine HT.out.mono ?_
        rintro e w1 ⟨rfl, hb⟩
        have HB2 := Lib.hid (hB.out.2.trans (hb.mono hB.out.2.size))
        clear hb
        go_wp2_with fail
        go_ret
        exact ⟨by rw [HE.out]; rfl, HB2.out⟩
    · have HE : Hid (idxL p q = -1) := Lib.hid (by
        have h := hB.out.1
        rw [List.take_of_length_le (by have := HNN.out; omega)] at h
        unfold idxL
        rw [h, if_neg (by decide)])
      go_wp2_with fail
      go_ret
      exact ⟨by rw [HE.out]; rfl, hB.out.2⟩
/-- What Get tells. -/
def getL (p : List UInt8) (q : List Fd) : ByteArray := match q.find? (nmB p) with | some f => f.v | none => ⟨#[]⟩
theorem idx_get {p : List UInt8} {q : List Fd} (h : q.any (nmB p) = true) : ∃ f, q[q.findIdx (nmB p)]? = some f ∧ getL p q = f.v := by
  have hlt : q.findIdx (nmB p) < q.length := List.findIdx_lt_length.2 (List.any_eq_true.1 h)
  refine ⟨q[q.findIdx (nmB p)], List.getElem?_eq_getElem hlt, ?_⟩
  unfold getL
  have : q.find? (nmB p) = some (q[q.findIdx (nmB p)]) := by
    rw [List.find?_eq_getElem?_findIdx]
    exact List.getElem?_eq_getElem hlt
  rw [this]
theorem idx_none {p : List UInt8} {q : List Fd} (h : q.any (nmB p) = false) : getL p q = ⟨#[]⟩ := by
  unfold getL
  rw [List.find?_eq_none.2]
  intro x hx
  rw [List.any_eq_false] at h
  exact h x hx
set_option maxRecDepth 100000 in
set_option maxHeartbeats 1000000 in
theorem get_any (v : Value) (q : List Fd) (s : ByteArray) (w : World) (hv : ReadsF w v q) (hl : q.length ≤ 1000000) (hs : ∀ f ∈ q, f.n.size ≤ 1000000) (hz : s.size ≤ 1000000) :
    Calls Tryz.prog 42 #[v, .string s] w fun e w' => e = .returned (.tuple #[.string (getL (foldL (bl s)) q), .bool (q.any (nmB (foldL (bl s))))]) ∧ Below w.heap.size w w' := by
  obtain ⟨va, vc, rfl⟩ := hv.shape
  obtain ⟨n, hn⟩ : ∃ n, n = q.length := ⟨_, rfl⟩
  have HX : Hid (∀ w1 cv, Below w.heap.size w w1 → ClAt w1 cv (foldL (bl s)) → Calls Tryz.prog 76 #[.slice va n vc, cv] w1 fun e w' => e = .returned (.int .i64 (idxL (foldL (bl s)) q)) ∧ Below w1.heap.size w1 w') := Lib.hid (fun w1 cv hb hc => by
    rw [hn]
    exact indexF_any _ cv q _ w1 (hv.below hb) hc hl hs)
  rw [← hn] at hv ⊢
  have HV := Lib.hid (fun k a ha => hv.at_ k a ha)
  have HNN := Lib.hid hn
  have HN := Lib.hid (named_any s w hz)
  clear hv hn hl hs
  generalize foldL (bl s) = p at *
  cases ha : q.any (nmB p)
  · have HI : Hid (idxL p q = -1 ∧ getL p q = ⟨#[]⟩) := Lib.hid ⟨by unfold idxL; rw [ha, if_neg (by decide)], idx_none ha⟩
    rw [HI.out.1] at HX
    clear ha
    go_enter Tryz.func42, Tryz.ntmps42
    go_wp2_with fail
    refine HN.out.mono ?_
    rintro e w1 ⟨g, rfl, _, hcg, hb⟩
    have HX1 := Lib.hid (HX.out w1 _ hb ⟨g, rfl, hcg⟩)
    have HB1 := Lib.hid hb
    clear hb hcg
    go_wp2_with fail
    refine HX1.out.mono ?_
    rintro e w2 ⟨rfl, hb⟩
    have HB2 := Lib.hid (HB1.out.trans (hb.mono HB1.out.size))
    clear hb
    go_wp2_with fail
    go_ret2
    exact ⟨by rw [HI.out.2]; rfl, HB2.out⟩
  · obtain ⟨f, hf, hg⟩ := idx_get ha
    have HI : Hid (idxL p q = (q.findIdx (nmB p) : Int) ∧ getL p q = f.v) := Lib.hid ⟨by unfold idxL; rw [ha, if_pos rfl], hg⟩
    rw [HI.out.1] at HX
    obtain ⟨b1, o1, rfl, hb1, r1⟩ := HV.out _ f hf
    have hlt : q.findIdx (nmB p) < n := by rw [HNN.out]; exact (List.getElem?_eq_some_iff.1 hf).1
    have HR := Lib.hid r1
    clear ha hf hg r1
    generalize q.findIdx (nmB p) = k at *
    go_enter Tryz.func42, Tryz.ntmps42
    go_wp2_with fail
    refine HN.out.mono ?_
    rintro e w1 ⟨g, rfl, _, hcg, hb⟩
    have HX1 := Lib.hid (HX.out w1 _ hb ⟨g, rfl, hcg⟩)
    have HB1 := Lib.hid hb
    clear hb hcg
    go_wp2_with fail
    refine HX1.out.mono ?_
    rintro e w2 ⟨rfl, hb⟩
    have HB2 := Lib.hid (HB1.out.trans (hb.mono HB1.out.size))
    obtain ⟨c0, c1⟩ := two (range_below HR.out hb1 HB2.out)
    clear hb
    go_wp2_with fail
    go_ret2
    exact ⟨by rw [HI.out.2]; rfl, HB2.out⟩
theorem TxAt.add2 {w W : World} {n c : Nat} {a : Option Addr} {ws : List ByteArray} (h : TxAt w W (.slice a n c) ws) (hn : ws.length = n) (x : ByteArray) (hl : n ≤ 2000000) :
    ∃ a' c' w', (Builtin.append_ #[strsT, strsT] strsT #[.slice a n c, .slice (some ⟨W.heap.size, 0, none⟩) 1 1]).run Tryz.prog (W.alloc (.cells #[.string x] strT)) = .ok (.slice a' (n + 1) c') w' ∧ Hid (TxAt w w' (.slice a' (n + 1) c') (ws ++ [x]) ∧
      ∀ (g : Nat), (Value.slice a n c).ownBlock ≠ some g → ∀ {v : Value}, W.cell? ⟨g, 0, none⟩ = some v → w'.cell? ⟨g, 0, none⟩ = some v ∧ (Value.slice a' (n + 1) c').ownBlock ≠ some g) := by
  have ho := h.1
  obtain ⟨a', c', w', hr, hh⟩ := append_str W w.heap.size (.slice a n c) ws x (by rw [hn]; rw [hn] at ho; exact ho) (by omega) h.2.size
  rw [hn] at hr hh
  obtain ⟨h1, h2, h3, h4⟩ := hh.out
  refine ⟨a', c', w', hr, Lib.hid ⟨⟨?_, h.2.trans h2⟩, fun g hg v hv => ?_⟩⟩
  · rw [List.length_append, hn]
    exact h1
  · have hlt := cell_lt hv
    refine ⟨h3.cell (a := ⟨g, 0, none⟩) ?_ (fun e => hg e.symm), fun e => ?_⟩
    · rw [((Below.refl W.heap.size W).alloc (Nat.le_refl _) _).cell (p := ⟨g, 0, none⟩) hlt]
      exact hv
    · rcases h4 g e with e2 | e2
      · exact hg e2
      · omega
/-- The values of the fields of this name. -/
def allL (p : List UInt8) (q : List Fd) : List ByteArray := (q.filter (nmB p)).map (·.v)
theorem allL_snoc (p : List UInt8) (q : List Fd) (f : Fd) : allL p (q ++ [f]) = if nmB p f = true then allL p q ++ [f.v] else allL p q := by
  unfold allL
  rw [List.filter_append, List.map_append]
  cases h : nmB p f <;> simp [h]
set_option maxRecDepth 100000 in
set_option maxHeartbeats 2000000 in
theorem all_any (v : Value) (q : List Fd) (s : ByteArray) (w : World) (hv : ReadsF w v q) (hl : q.length ≤ 1000000) (hs : ∀ f ∈ q, f.n.size ≤ 1000000) (hz : s.size ≤ 1000000) :
    Calls Tryz.prog 45 #[v, .string s] w fun e w' => ∃ u, e = .returned u ∧ TxAt w w' u (allL (foldL (bl s)) q) := by
  obtain ⟨va, vc, rfl⟩ := hv.shape
  obtain ⟨n, hn⟩ : ∃ n, n = q.length := ⟨_, rfl⟩
  rw [← hn] at hv hl ⊢
  have HV := Lib.hid (fun k a ha => hv.at_ k a ha)
  have HNN := Lib.hid hn
  have HS := Lib.hid hs
  have HN := Lib.hid (named_any s w hz)
  clear hv hn hs
  generalize foldL (bl s) = p at *
  go_enter Tryz.func45, Tryz.ntmps45
  go_wp2_with fail
  refine HN.out.mono ?_
  rintro e w1 ⟨g, rfl, _, hcg, hb⟩
  have HC := Lib.hid hcg
  have HB1 := Lib.hid hb
  have HST : Hid (TxAt w w1 (.slice none 0 0) []) := Lib.hid ((TxAt.start w).on hb)
  clear hb hcg
  go_wp2_with fail
  go_loopw [6, 13] (fun u i wr => ∃ k : Nat, k ≤ n ∧ i = .int .i64 k ∧ Hid (TxAt w wr u (allL p (q.take k)) ∧ wr.cell? ⟨g, 0, none⟩ = some (.string (ba p)) ∧ u.ownBlock ≠ some g)) (fun _ i _ => n - (intOf i).toNat)
  case atStart => exact ⟨0, Nat.zero_le _, rfl, Lib.hid ⟨HST.out, HC.out, by simp [Value.ownBlock]⟩⟩
  case round =>
    obtain ⟨k, hk, rfl, hB⟩ := hrel
    obtain ⟨ua, uc, rfl⟩ := owns_slice hB.out.1.1
    obtain ⟨m, hm⟩ : ∃ m, m = (allL p (q.take k)).length := ⟨_, rfl⟩
    have hmk : m ≤ k := by
      rw [hm]
      unfold allL
      rw [List.length_map]
      have := (List.filter_sublist (p := nmB p) (l := q.take k)).length_le
      rw [List.length_take] at this
      omega
    rw [← hm] at hB ⊢
    have HMM := Lib.hid hm
    clear hm
    by_cases hlt : k < n
    · obtain ⟨f, hf⟩ : ∃ a, q[k]? = some a := ⟨q[k]'(by have := HNN.out; omega), List.getElem?_eq_getElem _⟩
      obtain ⟨b1, o1, rfl, hb1, r1⟩ := HV.out k f hf
      obtain ⟨c0, c1⟩ := two (range_below r1 hb1 hB.out.1.2)
      have hal : Below wr.heap.size wr (wr.alloc (boxF fdT f)) := (Below.refl _ _).alloc (Nat.le_refl _) _
      have HB2 := Lib.hid (And.intro (hB.out.1.on hal) hB.out.2.2)
      have hgc : (wr.alloc (boxF fdT f)).cell? ⟨g, 0, none⟩ = some (.string (ba p)) := by
        rw [hal.cell (p := ⟨g, 0, none⟩) (cell_lt hB.out.2.1)]
        exact hB.out.2.1
      have HGC := Lib.hid hgc
      have HNB := Lib.hid (new_boxF wr fdT f)
      have HT := Lib.hid (told_any f p g (wr.alloc (boxF fdT f)) (HS.out f (List.mem_of_getElem? hf)) hgc)
      have HNX : Hid (allL p (q.take (k + 1)) = if nmB p f = true then allL p (q.take k) ++ [f.v] else allL p (q.take k)) := Lib.hid (by
        rw [List.take_add_one, hf]
        exact allL_snoc _ _ _)
      clear hf r1 hgc hal
      cases hb : nmB p f
      · rw [hb] at HT HNX
        clear hb
        go_wp2_with fail
        refine HT.out.mono ?_
        rintro e w2 ⟨rfl, hb⟩
        have HB3 : Hid (TxAt w w2 (.slice ua m uc) (allL p (q.take (k + 1))) ∧ w2.cell? ⟨g, 0, none⟩ = some (.string (ba p)) ∧ (Value.slice ua m uc).ownBlock ≠ some g) := Lib.hid ⟨by
          rw [HNX.out, if_neg (by decide)]
          exact HB2.out.1.on hb, by rw [hb.cell (p := ⟨g, 0, none⟩) (cell_lt HGC.out)]; exact HGC.out, HB2.out.2⟩
        clear hb
        go_wp2_with fail
        go_roundw
        case rel => exact ⟨k + 1, by omega, by simp, HB3⟩
        case measure => simp [intOf]; omega
      · rw [hb] at HT HNX
        clear hb
        go_wp2_with fail
        refine HT.out.mono ?_
        rintro e w2 ⟨rfl, hb⟩
        obtain ⟨d0, d1⟩ := two (range_below HNB.out (by simp) hb)
        obtain ⟨a', c', w4, hr, hh⟩ := (HB2.out.1.on hb).add2 HMM.out.symm f.v (by omega)
        have HR := Lib.hid hr
        have HB4 : Hid (TxAt w w4 (.slice a' (m + 1) c') (allL p (q.take (k + 1))) ∧ w4.cell? ⟨g, 0, none⟩ = some (.string (ba p)) ∧ (Value.slice a' (m + 1) c').ownBlock ≠ some g) := Lib.hid ⟨by
          rw [HNX.out, if_pos trivial]
          exact hh.out.1, hh.out.2 g HB2.out.2 (by rw [hb.cell (p := ⟨g, 0, none⟩) (cell_lt HGC.out)]; exact HGC.out)⟩
        clear hb hr hh
        go_wp2_with (at_builtin; refine Lib.wpList_append_run _ rfl _ _ _ _ rfl _ _ rfl rfl _ _ HR.out ?_)
        go_roundw
        case rel => exact ⟨k + 1, by omega, by simp, HB4⟩
        case measure => simp [intOf]; omega
    · have HE : Hid (TxAt w wr (.slice ua m uc) (allL p q)) := Lib.hid (by
        have h := hB.out.1
        rw [List.take_of_length_le (by have := HNN.out; omega)] at h
        exact h)
      go_wp2_with fail
      go_ret
      exact ⟨_, rfl, HE.out⟩
end Go.Proofs.YtegbkfloiiilfaaGreatDoor.Head

/-
  Walks: slices.Clone, slices.DeleteFunc over fields, Without.
-/
namespace Go.Proofs.YtegbkfloiiilfaaGreatDoor.Head
open Go Go.RowKit
open Go.Proofs.YtegbkfloiiilfaaGreatDoor.Glyph (foldL fold_any)

theorem append_noF {w : World} {B : Nat} {v : Value} {n cap : Nat} {a : Option Addr} {xs : List Value} (ho : w.ownsRow B fdT 2 v n xs) : (Builtin.append_ #[fdsT, fdsT] fdsT #[v, .slice a 0 cap]).run Tryz.prog w = .ok v w := by
  obtain ⟨i, hi, _, hz1, _⟩ := info_parts infoFd
  rcases ho.2 with ⟨rfl, rfl⟩ | ⟨g, c, cur, rfl, _, _, hnc, _⟩
  · cases a <;> simp [Builtin.append_, run_underlying Tryz.underlying23, sizeOf, typeInfo, hi, Builtin.lenOf, Builtin.firstCells, loadCells, loadCellsFrom]
  · cases a <;> simp [Builtin.append_, run_underlying Tryz.underlying23, sizeOf, typeInfo, hi, Builtin.lenOf, Builtin.firstCells, hnc, storeCells, loadCells, loadCellsFrom]
/-- A list appended to an owned list. -/
theorem append_listF (w : World) (B : Nat) (u v : Value) (us ps : List Fd) (ho : w.ownsRow B fdT 2 u us.length (us.flatMap fdC)) (hr : ReadsF w v ps) (hl : us.length ≤ 1000000) (hm : ps.length ≤ 1000000) (hB : B ≤ w.heap.size) :
    ∃ v' w', (Builtin.append_ #[fdsT, fdsT] fdsT #[u, v]).run Tryz.prog w = .ok v' w' ∧
      Hid (w'.ownsRow B fdT 2 v' (us ++ ps).length ((us ++ ps).flatMap fdC) ∧ Below B w w') := by
  obtain ⟨i0, hi, hz0, hz1, hz2⟩ := info_parts infoFd
  rcases hr with ⟨a, cap, rfl, rfl⟩ | ⟨b, off, cap, rfl, h1, h2, h3, h4⟩
  · exact ⟨u, w, append_noF ho, Lib.hid ⟨by simpa using ho, Below.refl _ _⟩⟩
  · obtain ⟨v', w', hr, h5, h6, _, h7⟩ := run_append_own_at (P := Tryz.prog) w B fdsT fdsT fdT i0 _ 2 32 Tryz.underlying23 hi hz0 hz1 hz2 rfl (by decide) u us.length _ ho ⟨b, off, none⟩ ps.length cap (ps.flatMap fdC) (flat2_length ps) (fun j x hx => by
      have hj := (List.getElem?_eq_some_iff.1 hx).1
      rw [flat2_length] at hj
      have hk : j / 2 < ps.length := by omega
      have e := flat2_get ps (j / 2) ps[j / 2] (List.getElem?_eq_getElem hk) (j % 2) (by omega)
      rw [show j / 2 * 2 + j % 2 = j by omega, hx] at e
      have := h4 (j / 2) _ (List.getElem?_eq_getElem hk) (j % 2) x e.symm
      rw [addr_add]
      rwa [show off + j / 2 * 2 + j % 2 = off + j by omega] at this) (flat2_one ps) (by unfold maxLen; omega) (by omega) hB
    refine ⟨v', w', hr, Lib.hid ⟨?_, (Below.refl _ w).grown h6 hB fun k hk => (ho.lt k hk).1⟩⟩
    rw [List.length_append, List.flatMap_append]
    exact h5

theorem flat_set : ∀ (L : List Fd) (i : Nat) (f : Fd), (L.set i f).flatMap fdC = ((L.flatMap fdC).set (i * 2) (.string f.n)).set (i * 2 + 1) (.string f.v)
  | [], i, f => by simp
  | x :: L, 0, f => by simp [fdC]
  | x :: L, i + 1, f => by
    rw [List.set_cons_succ, List.flatMap_cons, flat_set L i f, List.flatMap_cons]
    rw [show (i + 1) * 2 = i * 2 + 1 + 1 by omega]
    simp [fdC]
theorem flat_take : ∀ (L : List Fd) (i : Nat), (L.flatMap fdC).take (i * 2) = (L.take i).flatMap fdC
  | [], i => by simp
  | x :: L, 0 => by simp
  | x :: L, i + 1 => by
    rw [List.take_succ_cons, List.flatMap_cons, List.flatMap_cons, ← flat_take L i, show (i + 1) * 2 = i * 2 + 1 + 1 by omega]
    simp [fdC]
theorem zero_cells (n : Nat) : ∀ v ∈ (Builtin.zeroCells (Value.agg #[.string ⟨#[]⟩, .string ⟨#[]⟩]).cells n).toList, v = .string ⟨#[]⟩ := by
  intro v hv
  unfold Builtin.zeroCells at hv
  simp only [Value.cells, Array.toList_map, List.mem_map] at hv
  obtain ⟨i, _, rfl⟩ := hv
  have : i % 2 = 0 ∨ i % 2 = 1 := by omega
  rcases this with h | h <;> simp [h]
theorem zero_size (n : Nat) : (Builtin.zeroCells (Value.agg #[.string ⟨#[]⟩, .string ⟨#[]⟩]).cells n).toList.length = n * 2 := by
  unfold Builtin.zeroCells
  simp [Value.cells]
theorem setCells_heap (b : Nat) (t : TypeId) : ∀ (vs : List Value) (o : Nat) (w : World) (cur : Array Value), w.heap[b]? = some (.cells cur t (0, 0)) →
    ∃ cur', (w.setCells b o vs).heap[b]? = some (.cells cur' t (0, 0)) ∧ cur'.size = cur.size ∧ ∀ k, k ≤ o → cur'.toList.take k = cur.toList.take k
  | [], o, w, cur, h => ⟨cur, h, rfl, fun _ _ => rfl⟩
  | v :: vs, o, w, cur, h => by
    obtain ⟨cur', h1, h2, h3⟩ := setCells_heap b t vs (o + 1) (w.setCell ⟨b, o, none⟩ v) (cur.setIfInBounds o v) (heap_setCell_same w b o cur t v h)
    refine ⟨cur', h1, by rw [h2]; simp, fun k hk => ?_⟩
    rw [h3 k (by omega), Array.toList_setIfInBounds, List.take_set_of_le (by omega)]
theorem below_setCells {B b : Nat} (hB : B ≤ b) : ∀ (vs : List Value) (o : Nat) {a w : World}, Below B a w → Below B a (w.setCells b o vs)
  | [], _, _, _, h => h
  | v :: vs, o, _, _w, h => below_setCells hB vs (o + 1) (h.setCell (p := ⟨b, o, none⟩) hB v)
/-- The end of a row wiped out. -/
theorem clear_tail {w : World} {B b cap n i : Nat} {L : List Fd} (h : w.ownsRow B fdT 2 (.slice (some ⟨b, 0, none⟩) n cap) n (L.flatMap fdC)) (hL : L.length = n) (hi : i ≤ n) :
    ∃ w', (∀ ty, (Builtin.clear_ #[fdsT] ty #[.slice (some ⟨b, i * 2, none⟩) (n - i) (cap - i)]).run Tryz.prog w = .ok (.tuple #[]) w') ∧ w'.ownsRow B fdT 2 (.slice (some ⟨b, 0, none⟩) i cap) i ((L.take i).flatMap fdC) ∧ Below B w w' := by
  have hlt := h.lt b rfl
  rcases h.2 with ⟨e, _⟩ | ⟨g, cap', cur, e, hb, hg, h1, h2, h3, h4⟩
  · cases e
  obtain ⟨e1, _, rfl⟩ := Value.slice.inj e
  have e2 : b = g := by simpa using e1
  subst e2
  have hown : ∀ (w' : World) (cur' : Array Value), w'.heap[b]? = some (.cells cur' fdT (0, 0)) → cur'.size = cur.size → cur'.toList.take (i * 2) = cur.toList.take (i * 2) → w'.ownsRow B fdT 2 (.slice (some ⟨b, 0, none⟩) i cap) i ((L.take i).flatMap fdC) := fun w' cur' a1 a2 a3 => by
    refine ⟨by rw [flat2_length, List.length_take, hL]; omega, .inr ⟨b, cap, cur', rfl, hb, a1, by omega, h2, by rw [a2]; exact h3, ?_⟩⟩
    rw [a3, ← flat_take, ← h4, List.take_take, Nat.min_eq_left (by omega)]
  by_cases h0 : n - i = 0
  · refine ⟨w, fun ty => ?_, hown w cur hg rfl rfl, Below.refl _ _⟩
    rw [h0]
    simp [Builtin.clear_, run_underlying Tryz.underlying23]
  · obtain ⟨m, hm⟩ : ∃ m, n - i = m + 1 := ⟨n - i - 1, by omega⟩
    obtain ⟨i0, hi0, hz0, _, _⟩ := info_parts infoFd
    have hz : ∀ w : World, (zeroValue fdT).run Tryz.prog w = .ok (.agg #[.string ⟨#[]⟩, .string ⟨#[]⟩]) w := fun w => by simp [zeroValue, typeInfo, hi0, hz0]
    have hc : ∀ j, j < (n - i) * 2 → (w.cell? ⟨b, i * 2 + j, none⟩).isSome = true := fun j hj => by
      rw [cell_of_row w b _ cur _ _ hg, Array.getElem?_eq_getElem (by omega)]
      rfl
    have hst := run_storeCells_cells (P := Tryz.prog) b (i * 2) (Builtin.zeroCells (Value.agg #[.string ⟨#[]⟩, .string ⟨#[]⟩]).cells (n - i)).toList 0 w (fun j hj => by rw [zero_size] at hj; exact hc j hj) (fun j _ => frozen_of_row w b _ cur _ hg) (fun v hv => by rw [zero_cells _ v hv]; rfl)
    rw [Nat.add_zero] at hst
    obtain ⟨cur', a1, a2, a3⟩ := setCells_heap b fdT (Builtin.zeroCells (Value.agg #[.string ⟨#[]⟩, .string ⟨#[]⟩]).cells (n - i)).toList (i * 2) w cur hg
    refine ⟨_, fun ty => ?_, hown _ cur' a1 a2 (a3 _ (Nat.le_refl _)), below_setCells hb _ _ (Below.refl _ _)⟩
    rw [hm] at hst ⊢
    simp [Builtin.clear_, run_underlying Tryz.underlying23, hz, hst]
/-- The fields of other names. -/
def lessL (p : List UInt8) (q : List Fd) : List Fd := q.filter fun f => !nmB p f
theorem less_all {p : List UInt8} {q : List Fd} (h : q.any (nmB p) = false) : lessL p q = q := by
  unfold lessL
  rw [List.filter_eq_self]
  intro f hf
  rw [List.any_eq_false] at h
  have := h f hf
  simpa using this
theorem less_snoc (p : List UInt8) (q : List Fd) (f : Fd) : lessL p (q ++ [f]) = if nmB p f = true then lessL p q else lessL p q ++ [f] := by
  unfold lessL
  rw [List.filter_append]
  cases h : nmB p f <;> simp [h]
set_option maxRecDepth 100000 in
set_option maxHeartbeats 1000000 in
theorem clone_any (v : Value) (q : List Fd) (w : World) (hv : ReadsF w v q) (hl : q.length ≤ 1000000) :
    Calls Tryz.prog 116 #[v] w fun e w' => ∃ u, e = .returned u ∧ FdsAt w w' u q := by
  obtain ⟨va, vc, rfl⟩ := hv.shape
  have hq0 := fun W : World => Lib.run_eql_slice_nil (P := Tryz.prog) W fdsT fdT va q.length vc 0 0 Tryz.underlying23
  cases va with
  | none =>
    have hq : ∀ W : World, (binOp .eql fdsT (.slice none q.length vc) (.slice none 0 0)).run Tryz.prog W = .ok (.bool true) W := hq0
    clear hq0
    have hq0 : q = [] := by
      rcases hv with ⟨_, _, _, h⟩ | ⟨b, off, cap, h, _⟩
      · exact h
      · cases h
    subst hq0
    simp only [List.length_nil] at hq ⊢
    go_enter Tryz.func116, Tryz.ntmps116
    go_wp2_with fail
    go_ret
    exact ⟨_, rfl, FdsAt.start w⟩
  | some a =>
    have hq : ∀ W : World, (binOp .eql fdsT (.slice (some a) q.length vc) (.slice none 0 0)).run Tryz.prog W = .ok (.bool false) W := hq0
    clear hq0
    obtain ⟨W, hW⟩ : ∃ W, W = w.alloc (.cells #[] fdT) := ⟨_, rfl⟩
    have hb0 : Below w.heap.size w W := by rw [hW]; exact (Below.refl _ _).alloc (Nat.le_refl _) _
    have ho : W.ownsRow w.heap.size fdT 2 (.slice (some ⟨w.heap.size, 0, none⟩) 0 0) ([] : List Fd).length (([] : List Fd).flatMap fdC) := by
      rw [hW]
      exact World.ownsRow_made w #[] 0 (Nat.le_refl _) (by unfold maxLen; omega) rfl
    obtain ⟨u, w', hr, hh⟩ := append_listF W w.heap.size (.slice (some ⟨w.heap.size, 0, none⟩) 0 0) (.slice (some a) q.length vc) [] q ho (hv.below hb0) (by simp) hl hb0.size
    rw [hW] at hr
    have HR := Lib.hid hr
    have HN : Hid (FdsAt w w' u q) := Lib.hid ⟨by have := hh.out.1; simpa using this, hb0.trans hh.out.2⟩
    clear hr hh ho hb0 hW hv
    generalize q.length = n at *
    go_enter Tryz.func116, Tryz.ntmps116
    go_wp2_with (at_builtin; refine Lib.wpList_append_run _ rfl _ _ _ _ rfl _ _ rfl rfl _ _ HR.out ?_)
    go_ret
    exact ⟨_, rfl, HN.out⟩
/-- The list while fields are struck out. -/
structure DlAt (q : List Fd) (p : List UInt8) (B : Nat) (w wr : World) (g b cap n i j : Nat) (L : List Fd) : Prop where
  own : wr.ownsRow B fdT 2 (.slice (some ⟨b, 0, none⟩) n cap) n (L.flatMap fdC)
  len : L.length = n
  tk : L.take i = lessL p (q.take j)
  dr : L.drop j = q.drop j
  cl : wr.cell? ⟨g, 0, none⟩ = some (.string (ba p))
  below : Below B w wr
set_option maxRecDepth 100000 in
set_option maxHeartbeats 2000000 in
theorem delete_any (v : Value) (q : List Fd) (p : List UInt8) (g B : Nat) (w : World) (ho : w.ownsRow B fdT 2 v q.length (q.flatMap fdC)) (hB : B ≤ w.heap.size) (hg : w.cell? ⟨g, 0, none⟩ = some (.string (ba p))) (hne : v.ownBlock ≠ some g) (hl : q.length ≤ 1000000) (hs : ∀ f ∈ q, f.n.size ≤ 1000000) :
    Calls Tryz.prog 115 #[v, .func (.func 100) #[] #[.pointer (some ⟨g, 0, none⟩)]] w fun e w' => ∃ u, e = .returned u ∧ w'.ownsRow B fdT 2 u (lessL p q).length ((lessL p q).flatMap fdC) ∧ Below B w w' := by
  have HX := Lib.hid (indexF_any v _ q p w (owns_readsF ho) ⟨g, rfl, hg⟩ hl hs)
  have HBB := Lib.hid hB
  cases ha : q.any (nmB p)
  · have HI : Hid (idxL p q = -1) := Lib.hid (by unfold idxL; rw [ha, if_neg (by decide)])
    rw [HI.out] at HX
    have HO := Lib.hid (And.intro ho hB)
    have HE := Lib.hid (less_all ha)
    clear ha ho hg hne
    go_enter Tryz.func115, Tryz.ntmps115
    go_wp2_with fail
    refine HX.out.mono ?_
    rintro e w1 ⟨rfl, hb⟩
    have HN : Hid (w1.ownsRow B fdT 2 v (lessL p q).length ((lessL p q).flatMap fdC) ∧ Below B w w1) := Lib.hid ⟨by rw [HE.out]; exact owns_below HO.out.1 hb, hb.mono HO.out.2⟩
    clear hb
    go_wp2_with fail
    go_ret
    exact ⟨_, rfl, HN.out⟩
  · have hlt : q.findIdx (nmB p) < q.length := List.findIdx_lt_length.2 (List.any_eq_true.1 ha)
    obtain ⟨k0, hk0⟩ : ∃ k, k = q.findIdx (nmB p) := ⟨_, rfl⟩
    have HI : Hid (idxL p q = (k0 : Int)) := Lib.hid (by unfold idxL; rw [ha, if_pos rfl, hk0])
    rw [HI.out] at HX
    rw [← hk0] at hlt
    obtain ⟨n, hn⟩ : ∃ n, n = q.length := ⟨_, rfl⟩
    rw [← hn] at ho hl hlt
    obtain ⟨b, cap, rfl⟩ : ∃ b c, v = .slice (some ⟨b, 0, none⟩) n c := by
      rcases ho.2 with ⟨_, h2⟩ | ⟨b, c, cur, rfl, _⟩
      · omega
      · exact ⟨b, c, rfl⟩
    have hbg : b ≠ g := fun e => hne (by rw [e]; rfl)
    have HST : Hid (∀ w1, Below w.heap.size w w1 → DlAt q p B w w1 g b cap n k0 (k0 + 1) q) := Lib.hid (fun w1 hb => by
      refine ⟨owns_below ho hb, hn.symm, ?_, rfl, by rw [hb.cell (p := ⟨g, 0, none⟩) (cell_lt hg)]; exact hg, hb.mono hB⟩
      have hf : q[k0]? = some (q[k0]'(by omega)) := List.getElem?_eq_getElem _
      rw [List.take_add_one, hf]
      have h1 : nmB p (q[k0]'(by omega)) = true := by
        have := List.findIdx_getElem (p := nmB p) (xs := q) (w := by rw [← hk0]; omega)
        simpa [← hk0] using this
      show q.take k0 = lessL p (q.take k0 ++ [q[k0]'(by omega)])
      rw [less_snoc, if_pos h1]
      refine (less_all ?_).symm
      rw [List.any_eq_false]
      intro f hf2 hf3
      obtain ⟨j, hj⟩ := List.mem_iff_getElem?.1 hf2
      have hjl : j < k0 := by
        have := (List.getElem?_eq_some_iff.1 hj).1
        rw [List.length_take] at this
        omega
      rw [List.getElem?_take, if_pos hjl] at hj
      obtain ⟨h4, h5⟩ := List.getElem?_eq_some_iff.1 hj
      have := List.not_of_lt_findIdx (p := nmB p) (xs := q) (i := j) (by rw [← hk0]; exact hjl)
      rw [h5] at this
      simp [hf3] at this)
    have HNN := Lib.hid hn
    have HS := Lib.hid hs
    have hkq : ((k0 : Int) == -1) = false := by rw [beq_eq_false_iff_ne]; omega
    clear ha ho hg hne hk0 hn hs
    go_enter Tryz.func115, Tryz.ntmps115
    go_wp2_with fail
    refine HX.out.mono ?_
    rintro e w1 ⟨rfl, hb⟩
    have HD := Lib.hid (HST.out w1 hb)
    clear hb
    go_wp2_with fail
    go_loopw [5, 6] (fun i j wr => ∃ (x y : Nat) (L : List Fd), x < y ∧ y ≤ n ∧ i = .int .i64 x ∧ j = .int .i64 y ∧ Hid (DlAt q p B w wr g b cap n x y L)) (fun _ j _ => n - (intOf j).toNat)
    case atStart => exact ⟨k0, k0 + 1, q, by omega, by omega, rfl, by simp, HD⟩
    case round =>
      clear HD
      obtain ⟨x, y, L, hxy, hyn, rfl, rfl, hI⟩ := hrel
      by_cases hlt2 : y < n
      · obtain ⟨f, hf⟩ : ∃ a, q[y]? = some a := ⟨q[y]'(by have := HNN.out; omega), List.getElem?_eq_getElem _⟩
        have hLf : L[y]? = some f := by
          have h1 : (L.drop y)[0]? = (q.drop y)[0]? := by rw [hI.out.dr]
          rw [List.getElem?_drop, List.getElem?_drop, Nat.add_zero, hf] at h1
          exact h1
        have hrow : ∀ (W : World), W.ownsRow B fdT 2 (.slice (some ⟨b, 0, none⟩) n cap) n (L.flatMap fdC) → ∀ (k : Nat) (u : Fd), L[k]? = some u → W.cell? ⟨b, k * 2, none⟩ = some (.string u.n) ∧ W.cell? ⟨b, k * 2 + 1, none⟩ = some (.string u.v) := fun W hW k u hu => by
          have a0 := hW.cells (g := b) rfl (k * 2) (.string u.n) (by have := flat2_get L k u hu 0 (by omega); simpa [fdC] using this)
          have a1 := hW.cells (g := b) rfl (k * 2 + 1) (.string u.v) (by have := flat2_get L k u hu 1 (by omega); simpa [fdC] using this)
          rw [addr_add, Nat.zero_add] at a0 a1
          exact ⟨a0, a1⟩
        obtain ⟨c0, c1⟩ := hrow wr hI.out.own y f hLf
        have hal : Below wr.heap.size wr (wr.alloc (boxF fdT f)) := (Below.refl _ _).alloc (Nat.le_refl _) _
        have hgc : (wr.alloc (boxF fdT f)).cell? ⟨g, 0, none⟩ = some (.string (ba p)) := by
          rw [hal.cell (p := ⟨g, 0, none⟩) (cell_lt hI.out.cl)]
          exact hI.out.cl
        have HT := Lib.hid (told_any f p g (wr.alloc (boxF fdT f)) (HS.out f (List.mem_of_getElem? hf)) hgc)
        have HNB := Lib.hid (new_boxF wr fdT f)
        have HGC := Lib.hid (And.intro hgc hal)
        have hnx : lessL p (q.take (y + 1)) = if nmB p f = true then lessL p (q.take y) else lessL p (q.take y) ++ [f] := by
          rw [List.take_add_one, hf]
          exact less_snoc _ _ _
        have hdr : L.drop (y + 1) = q.drop (y + 1) := by
          have := congrArg (List.drop 1) hI.out.dr
          rwa [List.drop_drop, List.drop_drop] at this
        cases hb : nmB p f
        · rw [hb, if_neg (by decide)] at hnx
          rw [hb] at HT
          obtain ⟨u, hu⟩ : ∃ u, L[x]? = some u := ⟨L[x]'(by have := hI.out.len; omega), List.getElem?_eq_getElem _⟩
          have HRW := Lib.hid (And.intro hrow (And.intro hu hLf))
          have HNX := Lib.hid (And.intro hnx hdr)
          clear hf hb hnx hdr hgc hal hrow hu hLf
          go_wp2_with fail
          refine HT.out.mono ?_
          rintro e w2 ⟨rfl, hb⟩
          have hb2 : Below wr.heap.size wr w2 := HGC.out.2.trans (hb.mono HGC.out.2.size)
          have ho2 := owns_below hI.out.own hb2
          obtain ⟨d0, d1⟩ := two (range_below HNB.out (by simp) hb)
          obtain ⟨e0, e1⟩ := HRW.out.1 w2 ho2 x u HRW.out.2.1
          have hset1 := owns_set ho2 (g := b) rfl (x * 2) (.string f.n) (by omega)
          have hset2 := owns_set hset1 (g := b) rfl (x * 2 + 1) (.string f.v) (by omega)
          rw [← flat_set] at hset2
          have hfz : ∀ (W : World) (xs : List Value), W.ownsRow B fdT 2 (.slice (some ⟨b, 0, none⟩) n cap) n xs → ∀ k, W.frozen? ⟨b, k, none⟩ = false := fun W xs hW k => by
            rcases hW.2 with ⟨h5, _⟩ | ⟨g', cap', cur, h5, _, h6, _⟩
            · cases h5
            · obtain ⟨e1, _, _⟩ := Value.slice.inj h5
              have e2 : b = g' := by simpa using e1
              subst e2
              exact frozen_of_row W b k cur _ h6
          have z0 := hfz w2 _ ho2 (x * 2)
          have z1 := hfz _ _ hset1 (x * 2 + 1)
          have y1 : (w2.setCell ⟨b, x * 2, none⟩ (.string f.n)).cell? ⟨b, x * 2 + 1, none⟩ = some (.string u.v) := by
            rw [World.cell?_setCell_other _ _ _ _ (by intro e; injection e with _ e2; omega)]
            exact e1
          have hBb : B ≤ b := (ho2.lt b rfl).1
          have HN2 : Hid (DlAt q p B w ((w2.setCell ⟨b, x * 2, none⟩ (.string f.n)).setCell ⟨b, x * 2 + 1, none⟩ (.string f.v)) g b cap n (x + 1) (y + 1) (L.set x f)) := Lib.hid ⟨hset2, by rw [List.length_set]; exact hI.out.len, by
              rw [HNX.out.1, ← hI.out.tk, List.take_add_one, List.take_set_of_le (Nat.le_refl _), List.getElem?_set_self (by have := hI.out.len; omega)]
              rfl, by
              rw [List.drop_set_of_lt (by omega)]
              exact HNX.out.2, by
              rw [World.cell?_setCell_other _ _ _ _ (by intro e; injection e with e1 _; exact hbg e1), World.cell?_setCell_other _ _ _ _ (by intro e; injection e with e1 _; exact hbg e1), hb.cell (p := ⟨g, 0, none⟩) (cell_lt HGC.out.1)]
              exact HGC.out.1, ((hI.out.below.trans (hb2.mono (Nat.le_trans HBB.out hI.out.below.size))).setCell (p := ⟨b, x * 2, none⟩) hBb _).setCell (p := ⟨b, x * 2 + 1, none⟩) hBb _⟩
          clear hb hb2 ho2 hset1 hset2 hfz
          go_wp2_with fail
          go_roundw
          case rel => exact ⟨x + 1, y + 1, L.set x f, by omega, by omega, by simp, by simp, HN2⟩
          case measure => simp [intOf]; omega
        · rw [hb, if_pos rfl] at hnx
          rw [hb] at HT
          have HNX := Lib.hid (And.intro hnx hdr)
          clear hf hb hnx hdr hgc hal hrow hLf
          go_wp2_with fail
          refine HT.out.mono ?_
          rintro e w2 ⟨rfl, hb⟩
          have HN2 : Hid (DlAt q p B w w2 g b cap n x (y + 1) L) := Lib.hid (by
            have hb2 : Below wr.heap.size wr w2 := HGC.out.2.trans (hb.mono HGC.out.2.size)
            exact ⟨owns_below hI.out.own hb2, hI.out.len, by rw [HNX.out.1]; exact hI.out.tk, HNX.out.2, by rw [hb.cell (p := ⟨g, 0, none⟩) (cell_lt HGC.out.1)]; exact HGC.out.1, hI.out.below.trans (hb2.mono (Nat.le_trans HBB.out hI.out.below.size))⟩)
          clear hb
          go_wp2_with fail
          go_roundw
          case rel => exact ⟨x, y + 1, L, by omega, by omega, by simp, by simp, HN2⟩
          case measure => simp [intOf]; omega
      · have hyn2 : y = n := by omega
        obtain ⟨w3, hcl, hown3, hb3⟩ := clear_tail (i := x) hI.out.own hI.out.len (by omega)
        have HC3 := Lib.hid hcl
        have HN3 : Hid (w3.ownsRow B fdT 2 (.slice (some ⟨b, 0, none⟩) x cap) (lessL p q).length ((lessL p q).flatMap fdC) ∧ Below B w w3) := Lib.hid (by
          have e : L.take x = lessL p q := by
            rw [hI.out.tk, List.take_of_length_le (by have := HNN.out; omega)]
          have e2 : (lessL p q).length = x := by
            rw [← e, List.length_take, hI.out.len]
            omega
          rw [e] at hown3
          rw [e2]
          exact ⟨hown3, hI.out.below.trans hb3⟩)
        have hcap : n ≤ cap := by
          rcases hI.out.own.2 with ⟨h5, _⟩ | ⟨g', cap', cur, h5, _, _, h6, _⟩
          · cases h5
          · obtain ⟨_, _, rfl⟩ := Value.slice.inj h5
            exact h6
        clear hcl hown3 hb3
        go_wp2_with fail
        rw [HC3.out 0]
        simp only [Result.andThen]
        rw [Oper.upon_value]
        go_wp2_with fail
        go_ret
        exact ⟨_, rfl, HN3.out⟩
set_option maxRecDepth 100000 in
set_option maxHeartbeats 1000000 in
theorem without_any (v : Value) (q : List Fd) (s : ByteArray) (w : World) (hv : ReadsF w v q) (hl : q.length ≤ 1000000) (hs : ∀ f ∈ q, f.n.size ≤ 1000000) (hz : s.size ≤ 1000000) :
    Calls Tryz.prog 91 #[v, .string s] w fun e w' => ∃ u, e = .returned u ∧ FdsAt w w' u (lessL (foldL (bl s)) q) := by
  have HC := Lib.hid (clone_any v q w hv hl)
  have HN := Lib.hid (fun W => named_any s W hz)
  have HL := Lib.hid (And.intro hl hs)
  clear hv hl hs
  generalize foldL (bl s) = p at *
  go_enter Tryz.func91, Tryz.ntmps91
  go_wp2_with fail
  refine HC.out.mono ?_
  rintro e w1 ⟨u, rfl, hf⟩
  have HF := Lib.hid hf
  clear hf
  go_wp2_with fail
  refine (HN.out _).mono ?_
  rintro e w2 ⟨g, rfl, hgw, hcg, hb⟩
  have HD := Lib.hid (delete_any u q p g w.heap.size w2 (owns_below HF.out.1 hb) (Nat.le_trans HF.out.2.size hb.size) hcg (fun e => by
    have := (HF.out.1.lt g e).2
    omega) HL.out.1 HL.out.2)
  have HB2 := Lib.hid (HF.out.2.trans (hb.mono HF.out.2.size))
  clear hb hcg hgw
  go_wp2_with fail
  refine HD.out.mono ?_
  rintro e w3 ⟨u3, rfl, ho3, hb3⟩
  have HR := Lib.hid (And.intro ho3 (HB2.out.trans hb3))
  clear ho3 hb3
  go_wp2_with fail
  go_ret
  exact ⟨_, rfl, HR.out⟩
end Go.Proofs.YtegbkfloiiilfaaGreatDoor.Head
