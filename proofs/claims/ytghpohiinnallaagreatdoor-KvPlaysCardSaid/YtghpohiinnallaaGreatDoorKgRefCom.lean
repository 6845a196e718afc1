/-
  The document's store: Commit.
-/
import Derived.Test.YtghpohiinnallaaGreatDoorKgRefA
import Derived.Test.YtghpohiinnallaaGreatDoorKgRefLog

/-
  Walk of the document's store: Commit.
-/
namespace Go.Proofs.YtghpohiinnallaaGreatDoor.Kv
open Go Go.RowKit
open Go.Proofs.YtghpohiinnallaaGreatDoor.Disk (Lies Fr new_at)
open Go.Proofs.YtghpohiinnallaaGreatDoor.Wal (payS framesS frameS newG qC qT fill6 RSync RReset refSync_any refReset_any results_row2)
open Go.Proofs.YtghpohiinnallaaGreatDoor.Batch (less Rising at? Chg Fine ReadsC owns_slice)
open Go.Proofs.YtghpohiinnallaaGreatDoor.Nets (Reads Small bl)

/-- Two boxes of the document's store: its own, and the one of the result. -/
structure TwoR (w : World) (b : Nat) (cs rs : Array Value) (W : World) : Prop where
  own : Lies W b cs r11T
  res : Lies W (b + 1) rs r11T
  low : w.heap.size ≤ b
  below : Below w.heap.size w W
section
variable {w W W' : World} {b : Nat} {cs rs : Array Value}
theorem TwoR.start (w : World) (cs rs : Array Value) : TwoR w w.heap.size cs rs ((w.alloc (.cells cs r11T)).alloc (.cells rs r11T)) :=
  ⟨(Lies.new w _ _).same (Below.heap_alloc _ _ _ (by simp)), new_at (by simp), Nat.le_refl _, ((Below.refl _ _).alloc (Nat.le_refl _) _).alloc (by simp) _⟩
theorem TwoR.on (h : TwoR w b cs rs W) (hb : Below W.heap.size W W') : TwoR w b cs rs W' :=
  ⟨h.own.same (hb.block _ h.own.lt), h.res.same (hb.block _ h.res.lt), h.low, h.below.trans (hb.mono h.below.size)⟩
theorem TwoR.other (h : TwoR w b cs rs W) {F : Nat → Prop} (hf : Fr F W W') (hF : ∀ k, F k → b + 1 < k) : TwoR w b cs rs W' :=
  ⟨h.own.same (hf.block _ h.own.lt fun e => by have := hF _ e; omega), h.res.same (hf.block _ h.res.lt fun e => by have := hF _ e; omega), h.low, h.below.trans (hf.below h.below.size fun k e => by have := hF _ e; have := h.low; omega)⟩
theorem TwoR.set (h : TwoR w b cs rs W) (i : Nat) (v : Value) : TwoR w b (cs.setIfInBounds i v) rs (W.setCell ⟨b, i, none⟩ v) :=
  ⟨h.own.set i v, h.res.other v (by omega), h.low, h.below.setCell h.low _⟩
theorem TwoR.fill {z0 z1 z2 z3 z4 z5 z6 z7 : Value} (h : TwoR w b cs #[z0, z1, z2, z3, z4, z5, z6, z7] W) (a0 a1 a2 a3 a4 a5 a6 a7 : Value) :
    Lies (fill8 W (b + 1) a0 a1 a2 a3 a4 a5 a6 a7) (b + 1) #[a0, a1, a2, a3, a4, a5, a6, a7] r11T ∧ Below w.heap.size w (fill8 W (b + 1) a0 a1 a2 a3 a4 a5 a6 a7) ∧ Fr (fun k => k = b + 1) W (fill8 W (b + 1) a0 a1 a2 a3 a4 a5 a6 a7) :=
  ⟨lies_fill8 h.res _ _ _ _ _ _ _ _, h.below.trans ((fr_fill8 W (b + 1) a0 a1 a2 a3 a4 a5 a6 a7).below h.below.size fun k e => by have := h.low; omega), fr_fill8 W (b + 1) a0 a1 a2 a3 a4 a5 a6 a7⟩
set_option maxHeartbeats 2000000 in
theorem TwoR.six {z0 z1 z2 z3 z4 z5 z6 z7 : Value} (h : TwoR w b #[z0, z1, z2, z3, z4, z5, z6, z7] rs W) (a0 a1 a2 a3 a4 a5 : Value) : TwoR w b #[a0, a1, a2, a3, a4, a5, z6, z7] rs (fill6 W b a0 a1 a2 a3 a4 a5) := by
  have h0 : TwoR w b #[a0, z1, z2, z3, z4, z5, z6, z7] rs (W.setCell ⟨b, 0, none⟩ a0) := by simpa using h.set 0 a0
  have h1 : TwoR w b #[a0, a1, z2, z3, z4, z5, z6, z7] rs ((W.setCell ⟨b, 0, none⟩ a0).setCell ⟨b, 1, none⟩ a1) := by simpa using h0.set 1 a1
  have h2 : TwoR w b #[a0, a1, a2, z3, z4, z5, z6, z7] rs (((W.setCell ⟨b, 0, none⟩ a0).setCell ⟨b, 1, none⟩ a1).setCell ⟨b, 2, none⟩ a2) := by simpa using h1.set 2 a2
  have h3 : TwoR w b #[a0, a1, a2, a3, z4, z5, z6, z7] rs ((((W.setCell ⟨b, 0, none⟩ a0).setCell ⟨b, 1, none⟩ a1).setCell ⟨b, 2, none⟩ a2).setCell ⟨b, 3, none⟩ a3) := by simpa using h2.set 3 a3
  have h4 : TwoR w b #[a0, a1, a2, a3, a4, z5, z6, z7] rs (((((W.setCell ⟨b, 0, none⟩ a0).setCell ⟨b, 1, none⟩ a1).setCell ⟨b, 2, none⟩ a2).setCell ⟨b, 3, none⟩ a3).setCell ⟨b, 4, none⟩ a4) := by simpa using h3.set 4 a4
  have h5 : TwoR w b #[a0, a1, a2, a3, a4, a5, z6, z7] rs ((((((W.setCell ⟨b, 0, none⟩ a0).setCell ⟨b, 1, none⟩ a1).setCell ⟨b, 2, none⟩ a2).setCell ⟨b, 3, none⟩ a3).setCell ⟨b, 4, none⟩ a4).setCell ⟨b, 5, none⟩ a5) := by simpa using h4.set 5 a5
  exact h5
set_option maxHeartbeats 2000000 in
theorem TwoR.last {z0 z1 z2 z3 z4 z5 z6 z7 : Value} (h : TwoR w b #[z0, z1, z2, z3, z4, z5, z6, z7] rs0 W) (a0 a1 a2 a3 a4 a5 a7 : Value) :
    Lies (fill8 ((fill6 W b a0 a1 a2 a3 a4 a5).setCell ⟨b, 7, none⟩ a7) (b + 1) a0 a1 a2 a3 a4 a5 z6 a7) (b + 1) #[a0, a1, a2, a3, a4, a5, z6, a7] r11T ∧ Below w.heap.size w (fill8 ((fill6 W b a0 a1 a2 a3 a4 a5).setCell ⟨b, 7, none⟩ a7) (b + 1) a0 a1 a2 a3 a4 a5 z6 a7) ∧
      Fr (fun k => k = b ∨ k = b + 1) W (fill8 ((fill6 W b a0 a1 a2 a3 a4 a5).setCell ⟨b, 7, none⟩ a7) (b + 1) a0 a1 a2 a3 a4 a5 z6 a7) := by
  have h1 : TwoR w b #[a0, a1, a2, a3, a4, a5, z6, a7] rs0 ((fill6 W b a0 a1 a2 a3 a4 a5).setCell ⟨b, 7, none⟩ a7) := by simpa using (h.six a0 a1 a2 a3 a4 a5).set 7 a7
  have h2 := h1.fill a0 a1 a2 a3 a4 a5 z6 a7
  refine ⟨h2.1, h2.2.1, Fr.trans (F' := fun k => k = b + 1) ?_ h2.2.2 fun i _ e => .inr e⟩
  exact Fr.setCell (F := fun k => k = b ∨ k = b + 1) ((Wal.fr_fill6 W b a0 a1 a2 a3 a4 a5).mono fun i _ e => .inl e) (fun _ => .inl rfl) a7
end
/-- How the document's Commit ends: its code, and what became of its log: it is as it was (0), longer (1), new (2). -/
inductive Com (m F : Nat) (f : Bool) (q : Nat) (P : List Pr) (b : List Chg) : Int → Nat → Prop
  | none (hb : b = []) : Com m F f q P b 0 0
  | quota (hb : b ≠ []) (hu : q < used (done P b)) : Com m F f q P b 8 0
  | sync (hb : b ≠ []) (hu : used (done P b) ≤ q) (hr : 9 + (payS (b.map texB)).length ≤ m - F - 1) (hf : f = false) : Com m F f q P b 0 1
  | full1 (hb : b ≠ []) (hu : used (done P b) ≤ q) (hr : 9 + (payS (b.map texB)).length ≤ m - F - 1) (hf : f = true) : Com m F f q P b 81 0
  | room (hb : b ≠ []) (hu : used (done P b) ≤ q) (hr : m - F - 1 < 9 + (payS (b.map texB)).length) (h2 : m < 9 + (payS (ptexts (done P b))).length + 1) : Com m F f q P b 8 0
  | full2 (hb : b ≠ []) (hu : used (done P b) ≤ q) (hr : m - F - 1 < 9 + (payS (b.map texB)).length) (h2 : 9 + (payS (ptexts (done P b))).length + 1 ≤ m) (hf : f = true) : Com m F f q P b 81 0
  | reset (hb : b ≠ []) (hu : used (done P b) ≤ q) (hr : m - F - 1 < 9 + (payS (b.map texB)).length) (h2 : 9 + (payS (ptexts (done P b))).length + 1 ≤ m) (hf : f = false) : Com m F f q P b 0 2
/-- A block is new. -/
def New (w w' : World) (v : Value) : Prop := ∀ k, v.ownBlock = some k → w.heap.size ≤ k ∧ k < w'.heap.size
/-- .. or it was another's. -/
def Heir (w w' : World) (u v : Value) : Prop := ∀ k, v.ownBlock = some k → (u.ownBlock = some k ∨ w.heap.size ≤ k) ∧ k < w'.heap.size
/-- What became of the document's log and pairs. -/
inductive Became (w : World) (h : Nat) (s : ByteArray) (tv lv : Value) (texts l : List ByteArray) (Q : List Pr) (w' : World) (h' : Nat) (s' : ByteArray) (tv' lv' : Value) : Nat → Prop
  | same (hh : h' = h) (hs : s' = s) (ht : tv' = tv) (hl : lv' = lv) : Became w h s tv lv texts l Q w' h' s' tv' lv' 0
  | more (hh : h' = h) (hs : bl s' = bl s ++ frameS 1 l) (ht : Reads w' tv' (texts ++ l)) (hn : New w w' tv') (hl : ReadsP w' lv' Q) (ho : Heir w w' lv lv') : Became w h s tv lv texts l Q w' h' s' tv' lv' 1
  | anew (hh : h' = 1 - h) (hs : bl s' = framesS (newG (ptexts Q))) (ht : Reads w' tv' (ptexts Q)) (hn : New w w' tv') (hl : ReadsP w' lv' Q) (ho : Heir w w' lv lv') : Became w h s tv lv texts l Q w' h' s' tv' lv' 2
theorem tail_reads {w W Wf : World} {b B : Nat} {v : Value} {ts : List ByteArray} (ho : W.ownsRow B 9 1 v ts.length (ts.map Value.string)) (hf : Fr (fun k => k = b ∨ k = b + 1) W Wf) (hB : b + 1 < B) (hw : w.heap.size ≤ B) : Reads Wf v ts ∧ New w Wf v := by
  have h1 := hf.owns ho fun k hk e => by have := (ho.lt k hk).1; omega
  exact ⟨Nets.reads_owns h1, fun k hk => ⟨Nat.le_trans hw (h1.lt k hk).1, (h1.lt k hk).2⟩⟩
theorem tail_pairs {w w1 W Wf : World} {b : Nat} {u lv : Value} {Q : List Pr} (hu : ReadsP w1 u Q) (hb : Below w1.heap.size w1 W) (hf : Fr (fun k => k = b ∨ k = b + 1) W Wf) (ho : ∀ k, u.ownBlock = some k → (lv.ownBlock = some k ∨ w.heap.size ≤ k) ∧ k ≠ b ∧ k ≠ b + 1) : ReadsP Wf u Q ∧ Heir w Wf lv u := by
  have h1 := (hu.below hb).frame (frB hf) fun k hk e => by have := ho k hk; omega
  exact ⟨h1, fun k hk => ⟨(ho k hk).1, h1.lt k hk⟩⟩
theorem rform {m h : Nat} {s : ByteArray} {ta la : Option Addr} {tn tc ln lc : Nat} {f : Bool} {l : List ByteArray} {h' : Nat} {s' : ByteArray} {tv' : Value} {c : Int} (hr : RReset m h s (.slice ta tn tc) (.slice la ln lc) f l h' s' tv' c) : ∃ a n k, tv' = .slice a n k := by
  cases hr with
  | room _ _ _ ht => exact ⟨_, _, _, ht⟩
  | full _ _ _ _ ht => exact ⟨_, _, _, ht⟩
  | done _ _ _ _ ht => exact ⟨_, _, _, ht⟩
/-- What the document's Commit leaves. -/
def RComP (w : World) (m h q : Nat) (s : ByteArray) (tv lv : Value) (f : Bool) (texts : List ByteArray) (P : List Pr) (b : List Chg) (e : Ending) (w' : World) : Prop :=
  ∃ (h' : Nat) (s' : ByteArray) (tv' lv' : Value) (c : Int) (k : Nat), e = .returned (.tuple #[.agg (rsC m h' s' tv' (.slice none 0 0) f q lv'), .int .i64 c]) ∧ Com m s.size f q P b c k ∧ Became w h s tv lv texts (b.map texB) (done P b) w' h' s' tv' lv' k ∧ Below w.heap.size w w'
/-- What the document's Commit asks. -/
structure RFair (m h q : Nat) (s : ByteArray) (texts : List ByteArray) (P : List Pr) (b : List Chg) : Prop where
  rise : Rising Pr.key P
  few : P.length ≤ 4900
  fewb : b.length ≤ 12
  fine : ∀ c ∈ b, Fine c
  small : Small (b.map texB)
  pay : (payS (b.map texB)).length ≤ 100000
  fined : ∀ p ∈ done P b, Fine (putC p)
  smalld : Small (ptexts (done P b))
  payd : used (done P b) ≤ q → (payS (ptexts (done P b))).length ≤ 100000
  usd : used (done P b) ≤ 1000000000000
  hs : s.size ≤ 10000
  hm : m ≤ 10000
  hm2 : 48 ≤ m
  hh : h ≤ 1
  hx : texts.length ≤ 10000
set_option maxRecDepth 100000 in
set_option maxHeartbeats 8000000 in
theorem refCommit_any (m h q : Nat) (s : ByteArray) (tv lv bv : Value) (f : Bool) (texts : List ByteArray) (P : List Pr) (b : List Chg) (w : World) (ht : Reads w tv texts) (hl : ReadsP w lv P) (hc : ReadsC w bv b) (hf : RFair m h q s texts P b) :
    Calls Tryz.prog 39 #[.agg (rsC m h s tv (.slice none 0 0) f q lv), bv] w (RComP w m h q s tv lv f texts P b) := by
  obtain ⟨ta, tc, rfl⟩ := ht.form
  obtain ⟨la, lc, rfl⟩ := hl.shape
  obtain ⟨ba, bc, rfl⟩ := Batch.reads_form hc
  obtain ⟨nb, hnb⟩ : ∃ nb, nb = b.length := ⟨_, rfl⟩
  obtain ⟨np, hnp⟩ : ∃ np, np = P.length := ⟨_, rfl⟩
  obtain ⟨nt, hnt⟩ : ∃ nt, nt = texts.length := ⟨_, rfl⟩
  rw [← hnb, ← hnp, ← hnt]
  rw [← hnb] at hc
  rw [← hnp] at hl
  rw [← hnt] at ht
  have HT := Lib.hid (And.intro ht (And.intro hl hc))
  have HF := Lib.hid hf
  have HNB := Lib.hid (And.intro hnb (And.intro hnp hnt))
  clear ht hl hc hf
  by_cases hb0 : b = []
  · have e0 : nb = 0 := by rw [hnb, hb0]; rfl
    clear hnb hnp hnt
    have hE := (TwoR.start w (rsC m h s (.slice ta nt tc) (.slice none 0 0) f q (.slice la np lc)) (rsC m h s (.slice ta nt tc) (.slice none 0 0) f q (.slice la np lc)))
    have HE := Lib.hid hE
    clear hE
    subst e0
    go_enter Tryz.func39, Tryz.ntmps39
    go_wp2_with fail
    exact bodyPost_ret (v := .tuple #[.agg (rsC m h s (.slice ta nt tc) (.slice none 0 0) f q (.slice la np lc)), .int .i64 0]) (results_row2 Tryz.results39 _ _ (w.heap.size + 1) r11T _ (0, 0) _ rfl HE.out.res Tryz.underlying33 rfl size8) rfl ⟨h, s, _, _, 0, 0, rfl, .none hb0, .same rfl rfl rfl rfl, HE.out.below⟩
  · have hl0 : 0 < nb := by rw [hnb]; exact List.length_pos_iff.2 hb0
    have hl0' : ((nb : Int) == 0) = false := by simp; omega
    obtain ⟨US, hUS⟩ : ∃ US, US = used (done P b) := ⟨_, rfl⟩
    obtain ⟨N, hN⟩ : ∃ N, N = (done P b).length := ⟨_, rfl⟩
    have hNl : N ≤ 4912 := by
      have := done_length P b
      have := HF.out.few
      have := HF.out.fewb
      omega
    have H0 := TwoR.start w (rsC m h s (.slice ta nt tc) (.slice none 0 0) f q (.slice la np lc)) rs0
    have HDN := Lib.hid (refDone_any (.slice la np lc) (.slice ba nb bc) P b _ (HT.out.2.1.below H0.below) (HT.out.2.2.below H0.below) HF.out.rise HF.out.few (by have := HF.out.fewb; omega))
    have HT0 := Lib.hid H0
    have HLB := Lib.hid HT.out.2.1.lt
    have HU := Lib.hid (And.intro hUS (And.intro hN hNl))
    clear H0 hUS hN hNl hnb hnp hnt
    go_enter Tryz.func39, Tryz.ntmps39
    go_wp2_with fail
    generalize hW0 : (w.alloc (.cells (rsC m h s (.slice ta nt tc) (.slice none 0 0) f q (.slice la np lc)) r11T)).alloc (.cells rs0 r11T) = W0 at *
    refine HDN.out.mono ?_
    rintro e w1 ⟨u, rfl, hu, hb1, hob⟩
    have hW0s : W0.heap.size = w.heap.size + 2 := by rw [← hW0]; simp
    obtain ⟨ua, uc, rfl⟩ := hu.shape
    rw [← HU.out.2.1] at hu hob ⊢
    have hob2 : ∀ k, (Value.slice ua N uc).ownBlock = some k → ((Value.slice la np lc).ownBlock = some k ∨ w.heap.size ≤ k) ∧ k ≠ w.heap.size ∧ k ≠ w.heap.size + 1 := fun k hk => by
      rcases hob k hk with h1 | h1
      · have := HLB.out k h1; exact ⟨.inl h1, by omega, by omega⟩
      · exact ⟨.inr (by omega), by omega, by omega⟩
    have hT1 := HT0.out.on hb1
    obtain ⟨x0, x1, x2, x3, x4, x5, x6, x7⟩ := eight hT1.own
    have HUS := Lib.hid (fun W (hW : Below w1.heap.size w1 W) => refUsed_any (.slice ua N uc) (done P b) W (hu.below hW) (by have := HU.out; omega) HF.out.usd)
    rw [← HU.out.1] at HUS
    have H1 := Lib.hid (And.intro hT1 (And.intro hu hob2))
    clear hT1 hu hob hob2 hb1 HDN HT0 hW0 hW0s HLB
    go_wp2_with fail
    go_region_with (go_at_call 14; refine (HUS.out _ ((Below.refl _ _).drew)).mono ?_; rintro e w2 ⟨rfl, hb2⟩; have hb2' : Below w1.heap.size w1 w2 := Below.trans (Below.drew (Below.refl _ w1)) hb2; obtain ⟨x0, x1, x2, x3, x4, x5, x6, x7⟩ := eight (H1.out.1.on hb2').own)
    all_goals
      have hT2 := H1.out.1.on hb2'
      obtain ⟨x0, x1, x2, x3, x4, x5, x6, x7⟩ := eight hT2.own
      obtain ⟨z0, z1, z2, z3, z4, z5, z6, z7⟩ := eight hT2.res
      have zf := fun j => hT2.res.free j
      have H2 := Lib.hid (And.intro hT2 hb2')
      clear hb2 hb2' hT2
      by_cases huq : q < US
      · have HE := Lib.hid (H2.out.1.fill (.int .i64 m) (.int .i64 h) (.string s) (.slice ta nt tc) (.slice none 0 0) (.bool f) (.int .i64 q) (.slice la np lc))
        go_wp2_with fail
        exact bodyPost_ret (v := .tuple #[.agg (rsC m h s (.slice ta nt tc) (.slice none 0 0) f q (.slice la np lc)), .int .i64 8]) (results_row2 Tryz.results39 _ _ (w.heap.size + 1) r11T _ (0, 0) _ rfl HE.out.1 Tryz.underlying33 rfl size8) rfl ⟨h, s, _, _, 8, 0, rfl, .quota hb0 (by rw [← HU.out.1]; exact huq), .same rfl rfl rfl rfl, HE.out.2.1⟩
      · have hT3 := H2.out.1.on ((Below.refl _ w2).alloc (Nat.le_refl _) (.cells (qC m h s (.slice ta nt tc) (.slice none 0 0) f) qT))
        have hQ3 := Lies.new w2 (qC m h s (.slice ta nt tc) (.slice none 0 0) f) qT
        have hb3 := H2.out.2.trans (((Below.refl _ w2).alloc (Nat.le_refl _) (.cells (qC m h s (.slice ta nt tc) (.slice none 0 0) f) qT)).mono H2.out.2.size)
        have HTX := Lib.hid (Batch.refTexts_any (.slice ba nb bc) b _ (HT.out.2.2.below hT3.below) (by have := HF.out.fewb; omega) HF.out.fine)
        have hlo : w.heap.size + 1 < w2.heap.size := H2.out.1.res.lt
        have HLO := Lib.hid hlo
        have hsz : (w2.alloc (.cells (qC m h s (.slice ta nt tc) (.slice none 0 0) f) qT)).heap.size = w2.heap.size + 1 := by simp
        have H3 := Lib.hid (And.intro hT3 (And.intro hQ3 (And.intro hb3 hsz)))
        clear hT3 hQ3 hb3 hlo hsz
        go_wp2_with fail
        generalize (w2.alloc (.cells (qC m h s (.slice ta nt tc) (.slice none 0 0) f) qT)) = W3 at *
        refine HTX.out.mono ?_
        rintro e w4 ⟨v, rfl, hov, hb4⟩
        obtain ⟨va, vc, rfl⟩ := owns_slice hov
        rw [← HNB.out.1] at hov ⊢
        have hT4 := H3.out.1.on hb4
        have hQ4 := H3.out.2.1.same (hb4.block _ H3.out.2.1.lt)
        obtain ⟨q0, q1, q2, q3, q4, q5⟩ := Wal.six hQ4
        have qf := fun j => hQ4.free j
        have hf4 : Fr (fun k => k = w2.heap.size) w4 (w4.setCell ⟨w2.heap.size, 4, none⟩ (.slice va nb vc)) := Fr.one _ _ _ _
        have hT5 := hT4.other hf4 fun k e => by have := HLO.out; omega
        have hb5 := (H3.out.2.2.1.trans (hb4.mono H3.out.2.2.1.size)).setCell (p := ⟨w2.heap.size, 4, none⟩) H2.out.2.size (.slice va nb vc)
        have hov5 := hf4.owns hov fun k hk e => by have := (hov.lt k hk).1; have := H3.out.2.2.2; omega
        have HSY := Lib.hid (refSync_any m h s (.slice ta nt tc) (.slice va nb vc) f texts (b.map texB) _ (HT.out.1.below hT5.below) (texts_readsB (by rw [← HNB.out.1]; exact hov5)) HF.out.hs HF.out.hm HF.out.hx HF.out.small HF.out.pay)
        have H5 := Lib.hid (And.intro hT5 hb5)
        clear hT4 hQ4 hf4 hT5 hb5 hov5 hov hb4
        go_wp2_with fail
        refine HSY.out.mono ?_
        rintro e w6 ⟨s', tv', c, rfl, hS, hb6⟩
        have hT6 := H5.out.1.on hb6
        have hb16 := H5.out.2.trans (hb6.mono H5.out.2.size)
        have hB5 : w.heap.size + 1 < (w4.setCell ⟨w2.heap.size, 4, none⟩ (.slice va nb vc)).heap.size := H5.out.1.res.lt
        have H6 := Lib.hid (And.intro hT6 (And.intro hb16 hB5))
        clear hT6 hb16 hb6 q0 q1 q2 q3 q4 q5 qf hB5 x0 x1 x2 x3 x4 x5 x6 x7 z0 z1 z2 z3 z4 z5 z6 z7 zf
        cases hS with
        | none hw => exact absurd (List.map_eq_nil_iff.1 hw) hb0
        | room hw hr hs2 ht2 =>
          subst hs2 ht2
          have hal := (Below.refl _ w6).alloc (Nat.le_refl _) (.cells (qC m h s' (.slice ta nt tc) (.slice none 0 0) f) qT)
          have hT7 := H6.out.1.on hal
          have hb17 := H6.out.2.1.trans (hal.mono H6.out.2.1.size)
          have hQ7 := Lies.new w6 (qC m h s' (.slice ta nt tc) (.slice none 0 0) f) qT
          have hlo : w.heap.size + 1 < w6.heap.size := H6.out.1.res.lt
          have hsz : (w6.alloc (.cells (qC m h s' (.slice ta nt tc) (.slice none 0 0) f) qT)).heap.size = w6.heap.size + 1 := by simp
          have H7 := Lib.hid (And.intro hT7 (And.intro hb17 (And.intro hQ7 (And.intro hr (And.intro hsz hlo)))))
          clear hT7 hb17 hQ7 hr hal hsz hlo
          go_wp2_with fail
          generalize (w6.alloc (.cells (qC m h s' (.slice ta nt tc) (.slice none 0 0) f) qT)) = W7 at *
          obtain ⟨q0, q1, q2, q3, q4, q5⟩ := Wal.six H7.out.2.2.1
          have HTP := Lib.hid (fun W (hW : Below W7.heap.size W7 W) => refTextsP_any (.slice ua N uc) (done P b) W (H1.out.2.1.below (H7.out.2.1.trans (hW.mono H7.out.2.1.size))) (by have := HU.out.2; omega) HF.out.fined)
          rw [← HU.out.2.1] at HTP
          have HRS := Lib.hid (fun W lv2 (hl : Reads W lv2 (ptexts (done P b))) => refReset_any m h s' ta none nt tc 0 0 lv2 f (ptexts (done P b)) W hl HF.out.hs HF.out.hm HF.out.hm2 HF.out.hh HF.out.smalld (HF.out.payd (by rw [← HU.out.1]; omega)))
          go_region_with (first
            | (go_at_call 72; refine (HTP.out _ ((Below.refl _ W7).drew)).mono ?_; rintro e w8 ⟨v8, rfl, ho8, hb8⟩; obtain ⟨a8, c8, rfl⟩ := owns_slice ho8; have hb8' : Below W7.heap.size W7 w8 := Below.trans (Below.drew (Below.refl _ W7)) hb8; obtain ⟨q0, q1, q2, q3, q4, q5⟩ := Wal.six (Lies.same H7.out.2.2.1 (hb8'.block _ (Lies.lt H7.out.2.2.1))))
            | (go_at_call 71; refine (HRS.out _ _ (texts_readsP (by rw [← HU.out.2.1]; exact ho8))).mono ?_; rintro e w9 ⟨h2, s2, tv2, c2, rfl, hR, hb9⟩; obtain ⟨a9, n9, k9, rfl⟩ := rform hR; have hb9' : Below W7.heap.size W7 w9 := Below.trans hb8' (Below.mono hb9 hb8'.size); obtain ⟨q0, q1, q2, q3, q4, q5⟩ := Wal.six (Lies.same H7.out.2.2.1 (hb9'.block _ (Lies.lt H7.out.2.2.1))); have qf := fun j => (Lies.same H7.out.2.2.1 (hb9'.block _ (Lies.lt H7.out.2.2.1))).free j))
          all_goals
            have hQ10 := Wal.lies_fill6 (Lies.same H7.out.2.2.1 (hb9'.block _ (Lies.lt H7.out.2.2.1))) (.int .i64 m) (.int .i64 h2) (.string s2) (.slice a9 n9 k9) (.slice none 0 0) (.bool f)
            have hfr := Wal.fr_fill6 w9 w6.heap.size (.int .i64 m) (.int .i64 h2) (.string s2) (.slice a9 n9 k9) (.slice none 0 0) (.bool f)
            have hT10 := (H7.out.1.on hb9').other hfr fun k e => by have := H7.out.2.2.2.2.2; omega
            have ho10 := hfr.owns (Nets.owns_below ho8 hb9) fun k hk e => by have h1 : W7.heap.size ≤ k := (ho8.lt k hk).1; have := H7.out.2.2.2.2.1; omega
            have hb110 := (H7.out.2.1.trans (hb9'.mono H7.out.2.1.size)).trans (hfr.below (B := w1.heap.size) (by have := H7.out.2.1.size; have := hb9'.size; omega) fun k e => by have := H6.out.2.1.size; omega)
            obtain ⟨W10, hW10⟩ : ∃ W, W = (((((w9.setCell ⟨w6.heap.size, 0, none⟩ (.int .i64 m)).setCell ⟨w6.heap.size, 1, none⟩ (.int .i64 h2)).setCell ⟨w6.heap.size, 2, none⟩ (.string s2)).setCell ⟨w6.heap.size, 3, none⟩ (.slice a9 n9 k9)).setCell ⟨w6.heap.size, 4, none⟩ (.slice none 0 0)).setCell ⟨w6.heap.size, 5, none⟩ (.bool f) := ⟨_, rfl⟩
            have hW11 : fill6 w9 w6.heap.size (.int .i64 m) (.int .i64 h2) (.string s2) (.slice a9 n9 k9) (.slice none 0 0) (.bool f) = W10 := hW10.symm
            rw [← hW10]
            rw [hW11] at hQ10 hT10 ho10 hb110
            have hR2 := hR
            have H10 := Lib.hid (And.intro hT10 (And.intro ho10 hb110))
            clear hW10 hW11 hfr hR q0 q1 q2 q3 q4 q5 qf ho8 hb8 hb8' hb9 hb9'
            obtain ⟨x0, x1, x2, x3, x4, x5, x6, x7⟩ := eight hT10.own
            obtain ⟨z0, z1, z2, z3, z4, z5, z6, z7⟩ := eight hT10.res
            obtain ⟨q0, q1, q2, q3, q4, q5⟩ := Wal.six hQ10
            have zf := fun j => hT10.res.free j
            have xf := fun j => hT10.own.free j
            clear hQ10 hT10 ho10 hb110
            cases hR2 with
            | room h2r hh hs2 ht2 =>
              obtain ⟨rfl, rfl, rfl⟩ := Value.slice.inj ht2
              subst hh hs2
              have HE := Lib.hid (H10.out.1.fill (.int .i64 m) (.int .i64 h2) (.string s2) (.slice a9 n9 k9) (.slice none 0 0) (.bool f) (.int .i64 q) (.slice la np lc))
              have HR2 := Lib.hid h2r
              clear h2r ht2
              go_wp2_with fail
              exact bodyPost_ret (v := .tuple #[.agg (rsC m h2 s2 (.slice a9 n9 k9) (.slice none 0 0) f q (.slice la np lc)), .int .i64 8]) (results_row2 Tryz.results39 _ _ (w.heap.size + 1) r11T _ (0, 0) _ rfl HE.out.1 Tryz.underlying33 rfl size8) rfl ⟨h2, s2, _, _, 8, 0, rfl, .room hb0 (by rw [← HU.out.1]; omega) H7.out.2.2.2.1 HR2.out, .same rfl rfl rfl rfl, HE.out.2.1⟩
            | full h2r hf2 hh hs2 ht2 =>
              obtain ⟨rfl, rfl, rfl⟩ := Value.slice.inj ht2
              subst hh hs2 hf2
              have HE := Lib.hid (H10.out.1.fill (.int .i64 m) (.int .i64 h2) (.string s2) (.slice a9 n9 k9) (.slice none 0 0) (.bool true) (.int .i64 q) (.slice la np lc))
              have HR2 := Lib.hid h2r
              clear h2r ht2
              go_wp2_with fail
              exact bodyPost_ret (v := .tuple #[.agg (rsC m h2 s2 (.slice a9 n9 k9) (.slice none 0 0) true q (.slice la np lc)), .int .i64 81]) (results_row2 Tryz.results39 _ _ (w.heap.size + 1) r11T _ (0, 0) _ rfl HE.out.1 Tryz.underlying33 rfl size8) rfl ⟨h2, s2, _, _, 81, 0, rfl, .full2 hb0 (by rw [← HU.out.1]; omega) H7.out.2.2.2.1 HR2.out rfl, .same rfl rfl rfl rfl, HE.out.2.1⟩
            | done h2r hf2 hh hs2 ht2 =>
              obtain ⟨rfl, rfl, rfl⟩ := Value.slice.inj ht2
              subst hf2
              have HE := Lib.hid (H10.out.1.last (.int .i64 m) (.int .i64 h2) (.string s2) (.slice a9 n9 k9) (.slice none 0 0) (.bool false) (.slice ua n9 uc))
              have HR2 := Lib.hid (And.intro h2r (And.intro hh hs2))
              clear h2r ht2 hh hs2
              go_wp2_with fail
              have hrd := tail_reads (w := w) (ts := ptexts (done P b)) (by unfold ptexts; rw [List.length_map, ← HU.out.2.1]; exact H10.out.2.1) HE.out.2.2 (show w.heap.size + 1 < W7.heap.size by have := H7.out.2.2.2.2; omega) (by have := H7.out.2.2.2.2; omega)
              have hrp := tail_pairs H1.out.2.1 H10.out.2.2 HE.out.2.2 H1.out.2.2
              exact bodyPost_ret (v := .tuple #[.agg (rsC m h2 s2 (.slice a9 n9 k9) (.slice none 0 0) false q (.slice ua n9 uc)), .int .i64 0]) (results_row2 Tryz.results39 _ _ (w.heap.size + 1) r11T _ (0, 0) _ rfl HE.out.1 Tryz.underlying33 rfl size8) rfl ⟨h2, s2, _, _, 0, 2, rfl, .reset hb0 (by rw [← HU.out.1]; omega) H7.out.2.2.2.1 HR2.out.1 rfl, .anew HR2.out.2.1 HR2.out.2.2 hrd.1 hrd.2 hrp.1 hrp.2, HE.out.2.1⟩
        | full hw hr hf2 hs2 ht2 =>
          subst hs2 ht2 hf2
          have hT7 := H6.out.1.on ((Below.refl _ w6).alloc (Nat.le_refl _) (.cells (qC m h s' (.slice ta nt tc) (.slice none 0 0) true) qT))
          obtain ⟨x0, x1, x2, x3, x4, x5, x6, x7⟩ := eight hT7.own
          obtain ⟨z0, z1, z2, z3, z4, z5, z6, z7⟩ := eight hT7.res
          have zf := fun j => hT7.res.free j
          have HE := Lib.hid (hT7.fill (.int .i64 m) (.int .i64 h) (.string s') (.slice ta nt tc) (.slice none 0 0) (.bool true) (.int .i64 q) (.slice la np lc))
          clear hT7
          go_wp2_with fail
          exact bodyPost_ret (v := .tuple #[.agg (rsC m h s' (.slice ta nt tc) (.slice none 0 0) true q (.slice la np lc)), .int .i64 81]) (results_row2 Tryz.results39 _ _ (w.heap.size + 1) r11T _ (0, 0) _ rfl HE.out.1 Tryz.underlying33 rfl size8) rfl ⟨h, s', _, _, 81, 0, rfl, .full1 hb0 (by rw [← HU.out.1]; omega) hr rfl, .same rfl rfl rfl rfl, HE.out.2.1⟩
        | done hw hr hf2 hs2 ht2 =>
          subst hf2
          obtain ⟨t2, tc2, rfl⟩ := owns_slice ht2
          have hal := (Below.refl _ w6).alloc (Nat.le_refl _) (.cells (qC m h s' (.slice t2 (texts ++ b.map texB).length tc2) (.slice none 0 0) false) qT)
          have ho7 := Nets.owns_below ht2 hal
          have hb17 := H6.out.2.1.trans (hal.mono H6.out.2.1.size)
          have hT7 := H6.out.1.on hal
          obtain ⟨n2, hn2⟩ : ∃ n2, n2 = (texts ++ b.map texB).length := ⟨_, rfl⟩
          rw [← hn2] at hal ho7 hb17 hT7 ⊢
          obtain ⟨x0, x1, x2, x3, x4, x5, x6, x7⟩ := eight hT7.own
          obtain ⟨z0, z1, z2, z3, z4, z5, z6, z7⟩ := eight hT7.res
          have zf := fun j => hT7.res.free j
          have xf := fun j => hT7.own.free j
          have HE := Lib.hid (And.intro (hT7.last (.int .i64 m) (.int .i64 h) (.string s') (.slice t2 n2 tc2) (.slice none 0 0) (.bool false) (.slice ua N uc)) (And.intro ho7 hb17))
          have HN2 := Lib.hid hn2
          have HS2 := Lib.hid (And.intro hs2 hr)
          clear hT7 ho7 hb17 hal hn2 ht2 hs2 hr
          go_wp2_with fail
          have hrd := tail_reads (w := w) (ts := texts ++ b.map texB) (by rw [← HN2.out]; exact HE.out.2.1) HE.out.1.2.2 H6.out.2.2 (by have := H6.out.2.2; omega)
          have hrp := tail_pairs H1.out.2.1 HE.out.2.2 HE.out.1.2.2 H1.out.2.2
          exact bodyPost_ret (v := .tuple #[.agg (rsC m h s' (.slice t2 n2 tc2) (.slice none 0 0) false q (.slice ua N uc)), .int .i64 0]) (results_row2 Tryz.results39 _ _ (w.heap.size + 1) r11T _ (0, 0) _ rfl HE.out.1.1 Tryz.underlying33 rfl size8) rfl ⟨h, s', _, _, 0, 1, rfl, .sync hb0 (by rw [← HU.out.1]; omega) HS2.out.2 rfl, .more rfl HS2.out.1 hrd.1 hrd.2 hrp.1 hrp.2, HE.out.1.2.1⟩
end Go.Proofs.YtghpohiinnallaaGreatDoor.Kv
