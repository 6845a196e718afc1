/-
  The document's store: Compact.
-/
import Derived.Test.YtghpohiinnallaaGreatDoorKgRefCom

/-
  Walk of the document's store: Compact.
-/
namespace Go.Proofs.YtghpohiinnallaaGreatDoor.Kv
open Go Go.RowKit
open Go.Proofs.YtghpohiinnallaaGreatDoor.Disk (Lies Fr new_at)
open Go.Proofs.YtghpohiinnallaaGreatDoor.Wal (payS framesS frameS newG qC qT qZ fill6 RSync RReset refSync_any refReset_any results_row2)
open Go.Proofs.YtghpohiinnallaaGreatDoor.Batch (less Rising at? Chg Fine ReadsC owns_slice)
open Go.Proofs.YtghpohiinnallaaGreatDoor.Nets (Reads Small bl)

/-- How the document's Compact ends: its code, and what became of its log: it is as it was (0), new (2). -/
inductive Cpt (m : Nat) (f : Bool) (P : List Pr) : Int → Nat → Prop
  | room (h2 : m < 9 + (payS (ptexts P)).length + 1) : Cpt m f P 8 0
  | full (h2 : 9 + (payS (ptexts P)).length + 1 ≤ m) (hf : f = true) : Cpt m f P 81 0
  | reset (h2 : 9 + (payS (ptexts P)).length + 1 ≤ m) (hf : f = false) : Cpt m f P 0 2
/-- What became of the document's log. -/
inductive BecameC (w : World) (h : Nat) (s : ByteArray) (tv : Value) (P : List Pr) (w' : World) (h' : Nat) (s' : ByteArray) (tv' : Value) : Nat → Prop
  | same (hh : h' = h) (hs : s' = s) (ht : tv' = tv) : BecameC w h s tv P w' h' s' tv' 0
  | anew (hh : h' = 1 - h) (hs : bl s' = framesS (newG (ptexts P))) (ht : Reads w' tv' (ptexts P)) (hn : New w w' tv') : BecameC w h s tv P w' h' s' tv' 2
set_option maxHeartbeats 2000000 in
theorem TwoR.lastC {w W : World} {b : Nat} {z0 z1 z2 z3 z4 z5 z6 z7 : Value} (h : TwoR w b #[z0, z1, z2, z3, z4, z5, z6, z7] rs0 W) (a0 a1 a2 a3 a4 a5 : Value) :
    Lies (fill8 (fill6 W b a0 a1 a2 a3 a4 a5) (b + 1) a0 a1 a2 a3 a4 a5 z6 z7) (b + 1) #[a0, a1, a2, a3, a4, a5, z6, z7] r11T ∧ Below w.heap.size w (fill8 (fill6 W b a0 a1 a2 a3 a4 a5) (b + 1) a0 a1 a2 a3 a4 a5 z6 z7) ∧
      Fr (fun k => k = b ∨ k = b + 1) W (fill8 (fill6 W b a0 a1 a2 a3 a4 a5) (b + 1) a0 a1 a2 a3 a4 a5 z6 z7) := by
  have h2 := (h.six a0 a1 a2 a3 a4 a5).fill a0 a1 a2 a3 a4 a5 z6 z7
  exact ⟨h2.1, h2.2.1, Fr.trans (F' := fun k => k = b + 1) ((Wal.fr_fill6 W b a0 a1 a2 a3 a4 a5).mono fun i _ e => .inl e) h2.2.2 fun i _ e => .inr e⟩
/-- Behind the region: the boxes, and the new texts. -/
structure CMid (w W0 : World) (cs qs : Array Value) (v : Value) (ts : List ByteArray) (W : World) (A : Nat) : Prop where
  two : TwoR w w.heap.size cs rs0 W
  box : Lies W A qs qT
  own : W.ownsRow W0.heap.size 9 1 v ts.length (ts.map Value.string)
section
variable {w W0 w9 : World} {cs : Array Value} {v : Value} {ts : List ByteArray}
theorem mid_last (qs : Array Value) (h0 : TwoR w w.heap.size cs rs0 W0) (hk : Below W0.heap.size W0 w9) (ho : w9.ownsRow W0.heap.size 9 1 v ts.length (ts.map Value.string)) : CMid w W0 cs qs v ts (w9.alloc (.cells qs qT)) w9.heap.size :=
  ⟨h0.on (hk.alloc hk.size _), Lies.new _ _ _, ho.alloc _⟩
theorem mid_box {A : Nat} {z0 z1 z2 z3 z4 z5 : Value} (a0 a1 a2 a3 a4 a5 : Value) (h0 : TwoR w w.heap.size cs rs0 W0) (hk : Below W0.heap.size W0 w9) (hZ : Lies w9 A #[z0, z1, z2, z3, z4, z5] qT) (hA : W0.heap.size ≤ A) (ho : w9.ownsRow W0.heap.size 9 1 v ts.length (ts.map Value.string)) (hn : ∀ k, v.ownBlock = some k → k ≠ A) : CMid w W0 cs #[a0, a1, a2, a3, a4, a5] v ts (fill6 w9 A a0 a1 a2 a3 a4 a5) A :=
  ⟨(h0.on hk).other (Wal.fr_fill6 w9 A a0 a1 a2 a3 a4 a5) fun k e => by have := h0.res.lt; omega, Wal.lies_fill6 hZ _ _ _ _ _ _, (Wal.fr_fill6 w9 A a0 a1 a2 a3 a4 a5).owns ho fun k hk e => hn k hk e⟩
end
/-- What the document's Compact leaves. -/
def RCptP (w : World) (m h q : Nat) (s : ByteArray) (tv lv : Value) (f : Bool) (P : List Pr) (e : Ending) (w' : World) : Prop :=
  ∃ (h' : Nat) (s' : ByteArray) (tv' : Value) (c : Int) (k : Nat), e = .returned (.tuple #[.agg (rsC m h' s' tv' (.slice none 0 0) f q lv), .int .i64 c]) ∧ Cpt m f P c k ∧ BecameC w h s tv P w' h' s' tv' k ∧ Below w.heap.size w w'
set_option maxRecDepth 100000 in
set_option maxHeartbeats 40000000 in
theorem refCompact_any (m h q : Nat) (s : ByteArray) (tv lv : Value) (f : Bool) (texts : List ByteArray) (P : List Pr) (w : World) (ht : Reads w tv texts) (hl : ReadsP w lv P) (hP : P.length ≤ 100000) (hfi : ∀ p ∈ P, Fine (putC p)) (hsm : Small (ptexts P)) (hpay : (payS (ptexts P)).length ≤ 100000) (hs : s.size ≤ 10000) (hm : m ≤ 10000) (hm2 : 48 ≤ m) (hh : h ≤ 1) :
    Calls Tryz.prog 41 #[.agg (rsC m h s tv (.slice none 0 0) f q lv)] w (RCptP w m h q s tv lv f P) := by
  obtain ⟨ta, tc, rfl⟩ := ht.form
  obtain ⟨la, lc, rfl⟩ := hl.shape
  obtain ⟨N, hN⟩ : ∃ N, N = P.length := ⟨_, rfl⟩
  obtain ⟨nt, hnt⟩ : ∃ nt, nt = texts.length := ⟨_, rfl⟩
  rw [← hN, ← hnt]
  rw [← hN] at hl
  have H0 := TwoR.start w (rsC m h s (.slice ta nt tc) (.slice none 0 0) f q (.slice la N lc)) rs0
  obtain ⟨W0, hW0⟩ : ∃ W, W = ((w.alloc (.cells (rsC m h s (.slice ta nt tc) (.slice none 0 0) f q (.slice la N lc)) r11T)).alloc (.cells rs0 r11T)) := ⟨_, rfl⟩
  rw [← hW0] at H0
  have hlw := hl.below H0.below
  have HTP : Hid (∀ W, Below W0.heap.size W0 W → Calls Tryz.prog 72 #[.slice la N lc] W fun e W' => ∃ u, e = .returned u ∧ W'.ownsRow W.heap.size 9 1 u N ((ptexts P).map Value.string) ∧ Below W.heap.size W W' ∧ Below W0.heap.size W0 W') := Lib.hid (fun W hW => (refTextsP_any (.slice la N lc) P W (hlw.below hW) hP hfi).mono fun e W' hh => by
    obtain ⟨u, rfl, ho, hb⟩ := hh
    rw [← hN] at ho
    exact ⟨u, rfl, ho, hb, hW.trans (hb.mono hW.size)⟩)
  have HRS : Hid (∀ W lv2, Below W0.heap.size W0 W → Reads W lv2 (ptexts P) → Calls Tryz.prog 71 #[.agg (qC m h s (.slice ta nt tc) (.slice none 0 0) f), lv2] W fun e w' => ∃ (h' : Nat) (s' : ByteArray) (tv' : Value) (c : Int), e = .returned (.tuple #[.agg (qC m h' s' tv' (.slice none 0 0) f), .int .i64 c]) ∧ RReset m h s (.slice ta nt tc) lv2 f (ptexts P) h' s' tv' c ∧ Below W.heap.size W w' ∧ Below W0.heap.size W0 w') := Lib.hid (fun W lv2 hW hl2 => (refReset_any m h s ta none nt tc 0 0 lv2 f (ptexts P) W hl2 hs hm hm2 hh hsm hpay).mono fun e W' hh => by
    obtain ⟨h', s', tv', c, rfl, hr, hb⟩ := hh
    exact ⟨h', s', tv', c, rfl, hr, hb, hW.trans (hb.mono hW.size)⟩)
  have HC := Lib.hid (fun W (hW : Below W0.heap.size W0 W) => eight (H0.on hW).own)
  obtain ⟨x0, x1, x2, x3, x4, x5, x6, x7⟩ := eight H0.own
  have HT0 := Lib.hid H0
  have HN := Lib.hid (And.intro hN hnt)
  have HD := Lib.hid ((Below.refl W0.heap.size W0).drew)
  have HDA := Lib.hid (((Below.refl W0.heap.size W0).alloc (Nat.le_refl _) (.cells qZ qT)).drew)
  obtain ⟨y0, y1, y2, y3, y4, y5, y6, y7⟩ := HC.out _ ((Below.refl W0.heap.size W0).alloc (Nat.le_refl _) (.cells qZ qT))
  clear hl ht hlw H0 hN hnt hP hfi hsm hpay hs hm hm2 hh
  go_enter Tryz.func41, Tryz.ntmps41
  go_wp2_with fail
  rw [← hW0]
  clear hW0
  go_region_with (first
    | (go_at_call 72; refine (HTP.out _ (by first | exact HD.out | exact HDA.out)).mono ?_; rintro e w8 ⟨v8, rfl, ho8, hb8, hk8⟩; obtain ⟨a8, c8, rfl⟩ := owns_slice ho8; obtain ⟨x0, x1, x2, x3, x4, x5, x6, x7⟩ := HC.out _ hk8; obtain ⟨y0, y1, y2, y3, y4, y5, y6, y7⟩ := HC.out _ (hk8.alloc hk8.size (.cells qZ qT)))
    | (go_at_call 71; refine (HRS.out _ _ (by first | exact hk8 | exact hk8.alloc (by have := hk8.size; simp; omega) _) (by first | exact texts_readsP (by rw [← HN.out.1]; exact ho8) | exact texts_readsP (by rw [← HN.out.1]; exact ho8.alloc _))).mono ?_; rintro e w9 ⟨h2, s2, tv2, c2, rfl, hR, hb9, hk9⟩; obtain ⟨a9, n9, k9, rfl⟩ := rform hR; (first
        | (have hZ : Lies w9 w8.heap.size qZ qT := (hb9.block _ (by simp)).trans (heap_alloc_new w8 _); obtain ⟨z0, z1, z2, z3, z4, z5⟩ := Wal.six hZ; have zf := fun j => hZ.free j)
        | (have hZ : Lies w9 W0.heap.size qZ qT := (hb9.block _ (by have := hb8.size; simp at this; omega)).trans ((hb8.block _ (by simp)).trans (heap_alloc_new W0 _)); obtain ⟨z0, z1, z2, z3, z4, z5⟩ := Wal.six hZ; have zf := fun j => hZ.free j)
        | skip)))
  all_goals
    have hlen : N = (ptexts P).length := by unfold ptexts; rw [List.length_map]; exact HN.out.1
    (first
      | (obtain ⟨W10, hW10⟩ : ∃ W, W = w9.alloc (.cells (qC m h2 s2 (.slice a9 n9 k9) (.slice none 0 0) f) qT) := ⟨_, rfl⟩
         rw [← hW10]
         have hM := mid_last (ts := ptexts P) (qC m h2 s2 (.slice a9 n9 k9) (.slice none 0 0) f) HT0.out hk9 (by rw [← hlen]; exact Wal.owns_low (Nets.owns_below ho8 hb9) (by simp))
         rw [← hW10] at hM
         clear hW10
         generalize w9.heap.size = A at hM ⊢
         have HM := Lib.hid (And.intro hM hR))
      | (obtain ⟨W10, hW10⟩ : ∃ W, W = (((((w9.setCell ⟨w8.heap.size, 0, none⟩ (.int .i64 m)).setCell ⟨w8.heap.size, 1, none⟩ (.int .i64 h2)).setCell ⟨w8.heap.size, 2, none⟩ (.string s2)).setCell ⟨w8.heap.size, 3, none⟩ (.slice a9 n9 k9)).setCell ⟨w8.heap.size, 4, none⟩ (.slice none 0 0)).setCell ⟨w8.heap.size, 5, none⟩ (.bool f) := ⟨_, rfl⟩
         rw [← hW10]
         have hM := mid_box (ts := ptexts P) (v := .slice a8 N c8) (.int .i64 m) (.int .i64 h2) (.string s2) (.slice a9 n9 k9) (.slice none 0 0) (.bool f) HT0.out hk9 hZ hk8.size (by rw [← hlen]; exact Wal.owns_low (Nets.owns_below (ho8.alloc _) hb9) (by simp)) (fun k hk => Nat.ne_of_lt (ho8.lt k hk).2)
         have hW11 : fill6 w9 w8.heap.size (.int .i64 m) (.int .i64 h2) (.string s2) (.slice a9 n9 k9) (.slice none 0 0) (.bool f) = W10 := hW10.symm
         rw [hW11] at hM
         clear hW10 hW11 hZ
         generalize w8.heap.size = A at hM ⊢
         have HM := Lib.hid (And.intro hM hR))
      | (obtain ⟨W10, hW10⟩ : ∃ W, W = (((((w9.setCell ⟨W0.heap.size, 0, none⟩ (.int .i64 m)).setCell ⟨W0.heap.size, 1, none⟩ (.int .i64 h2)).setCell ⟨W0.heap.size, 2, none⟩ (.string s2)).setCell ⟨W0.heap.size, 3, none⟩ (.slice a9 n9 k9)).setCell ⟨W0.heap.size, 4, none⟩ (.slice none 0 0)).setCell ⟨W0.heap.size, 5, none⟩ (.bool f) := ⟨_, rfl⟩
         rw [← hW10]
         have hM := mid_box (ts := ptexts P) (v := .slice a8 N c8) (.int .i64 m) (.int .i64 h2) (.string s2) (.slice a9 n9 k9) (.slice none 0 0) (.bool f) HT0.out hk9 hZ (Nat.le_refl _) (by rw [← hlen]; exact Wal.owns_low (Nets.owns_below ho8 hb9) (by simp)) (fun k hk => by have h1 := (ho8.lt k hk).1; simp at h1; omega)
         have hW11 : fill6 w9 W0.heap.size (.int .i64 m) (.int .i64 h2) (.string s2) (.slice a9 n9 k9) (.slice none 0 0) (.bool f) = W10 := hW10.symm
         rw [hW11] at hM
         clear hW10 hW11 hZ
         generalize W0.heap.size = A at hM ⊢
         have HM := Lib.hid (And.intro hM hR)))
    clear hM hR hb8 hk8 ho8 hb9 hk9 x0 x1 x2 x3 x4 x5 x6 x7 y0 y1 y2 y3 y4 y5 y6 y7
    obtain ⟨hM, hR⟩ := HM.out
    obtain ⟨x0, x1, x2, x3, x4, x5, x6, x7⟩ := eight hM.two.own
    obtain ⟨r0, r1, r2, r3, r4, r5, r6, r7⟩ := eight hM.two.res
    obtain ⟨q0, q1, q2, q3, q4, q5⟩ := Wal.six hM.box
    have rf := fun j => hM.two.res.free j
    have xf := fun j => hM.two.own.free j
    have HLEN := Lib.hid hlen
    clear hM hlen
    cases hR with
    | room h2r hh hs2 ht2 =>
      obtain ⟨rfl, rfl, rfl⟩ := Value.slice.inj ht2
      subst hh hs2
      have HE := Lib.hid (HM.out.1.two.fill (.int .i64 m) (.int .i64 h2) (.string s2) (.slice a9 n9 k9) (.slice none 0 0) (.bool f) (.int .i64 q) (.slice la N lc))
      have HR2 := Lib.hid h2r
      clear h2r ht2
      go_wp2_with fail
      exact bodyPost_ret (v := .tuple #[.agg (rsC m h2 s2 (.slice a9 n9 k9) (.slice none 0 0) f q (.slice la N lc)), .int .i64 8]) (results_row2 Tryz.results41 _ _ (w.heap.size + 1) r11T _ (0, 0) _ rfl HE.out.1 Tryz.underlying33 rfl size8) rfl ⟨h2, s2, _, 8, 0, rfl, .room HR2.out, .same rfl rfl rfl, HE.out.2.1⟩
    | full h2r hf2 hh hs2 ht2 =>
      obtain ⟨rfl, rfl, rfl⟩ := Value.slice.inj ht2
      subst hh hs2 hf2
      have HE := Lib.hid (HM.out.1.two.fill (.int .i64 m) (.int .i64 h2) (.string s2) (.slice a9 n9 k9) (.slice none 0 0) (.bool true) (.int .i64 q) (.slice la N lc))
      have HR2 := Lib.hid h2r
      clear h2r ht2
      go_wp2_with fail
      exact bodyPost_ret (v := .tuple #[.agg (rsC m h2 s2 (.slice a9 n9 k9) (.slice none 0 0) true q (.slice la N lc)), .int .i64 81]) (results_row2 Tryz.results41 _ _ (w.heap.size + 1) r11T _ (0, 0) _ rfl HE.out.1 Tryz.underlying33 rfl size8) rfl ⟨h2, s2, _, 81, 0, rfl, .full HR2.out rfl, .same rfl rfl rfl, HE.out.2.1⟩
    | done h2r hf2 hh hs2 ht2 =>
      obtain ⟨rfl, rfl, rfl⟩ := Value.slice.inj ht2
      subst hf2
      have HE := Lib.hid (HM.out.1.two.lastC (.int .i64 m) (.int .i64 h2) (.string s2) (.slice a9 n9 k9) (.slice none 0 0) (.bool false))
      have HR2 := Lib.hid (And.intro h2r (And.intro hh hs2))
      clear h2r ht2 hh hs2
      go_wp2_with fail
      have hrd := tail_reads (w := w) HM.out.1.own HE.out.2.2 HT0.out.res.lt HT0.out.below.size
      exact bodyPost_ret (v := .tuple #[.agg (rsC m h2 s2 (.slice a9 n9 k9) (.slice none 0 0) false q (.slice la n9 lc)), .int .i64 0]) (results_row2 Tryz.results41 _ _ (w.heap.size + 1) r11T _ (0, 0) _ rfl HE.out.1 Tryz.underlying33 rfl size8) rfl ⟨h2, s2, _, 0, 2, rfl, .reset HR2.out.1 rfl, .anew HR2.out.2.1 HR2.out.2.2 hrd.1 hrd.2, HE.out.2.1⟩
end Go.Proofs.YtghpohiinnallaaGreatDoor.Kv
