/-
  Walks of the store: Commit, Compact.
-/
import Derived.Test.YtghpohiinnallaaGreatDoorKgStore
import Derived.Test.YtghpohiinnallaaGreatDoorKgWalB

/-
  Walks of the store: record, Commit, Compact.
-/
namespace Go.Proofs.YtghpohiinnallaaGreatDoor.Kv
open Go Go.RowKit
open Go.Proofs.YtghpohiinnallaaGreatDoor.Disk (St Dk own Fr Lies)
open Go.Proofs.YtghpohiinnallaaGreatDoor.Wal (Wl Wk Log ownW StepW Done Grp Has Kin SyncO ResetO Grd framesS payS)
open Go.Proofs.YtghpohiinnallaaGreatDoor.Batch (less Rising at? lo lo_le Chg ptr Mem Bt Fine)
open Go.Proofs.YtghpohiinnallaaGreatDoor.Nets (Tab Reads Small)

/-- How the log of a store is changed: a group more, or, where there is no room, the pairs anew. -/
def RecO (S : St) (L : Wl) (gs : List Grp) (ss ts : List ByteArray) (S' : St) (L' : Wl) (c : Int) : Prop :=
  (SyncO S { L with wait := ss } gs S' L' c ∧ c ≠ 8) ∨ (SyncO S { L with wait := ss } gs S { L with wait := [] } 8 ∧ ResetO S { L with wait := [] } gs ts S' L' c)
def RecPost (w : World) (x : Sk) (S : St) (L : Wl) (gs : List Grp) (ss ts : List ByteArray) (q : Nat) (P : List Pr) (e : Ending) (w' : World) : Prop :=
  ∃ S' L' c k', e = .returned (.int .i64 c) ∧ RecO S L gs ss ts S' L' c ∧ Kin S S' 168 ∧ Store w' { x with k := k' } S' L' q P ∧ StepS w x w' { x with k := k' }
def CompPost (w : World) (x : Sk) (S : St) (L : Wl) (gs : List Grp) (ts : List ByteArray) (q : Nat) (P : List Pr) (e : Ending) (w' : World) : Prop :=
  ∃ S' L' c k', e = .returned (.int .i64 c) ∧ ResetO S L gs ts S' L' c ∧ Kin S S' 84 ∧ Store w' { x with k := k' } S' L' q P ∧ StepS w x w' { x with k := k' }
theorem SyncO.room8 {S S' : St} {L L' : Wl} {gs : List Grp} (h : SyncO S L gs S' L' 8) : S' = S ∧ L' = { L with wait := [] } := by
  cases h with
  | room hw hr hS hL => exact ⟨hS, hL⟩
section
variable {w : World} {x : Sk} {S : St} {L : Wl} {q : Nat} {P : List Pr}
theorem tab_frS {w' : World} (h : Store w x S L q P) (hg : Grd x.k) (ht : Tab w) (hf : Fr (ownS x) w w') : Tab w' := by
  have hlt := h.own_lt (b := x.ps) (.inr rfl)
  have hb : Below x.k.d.B w w' := hf.below (by omega) fun b hb => (h.own_lt hb).2
  exact ⟨var?_below hb Nets.gPow hg ht.1, by have := ht.2; have := hf.size; omega⟩
/-- Texts that stand still beside a store. -/
theorem reads_fr {w' : World} {v : Value} {ss : List ByteArray} {F : Nat → Prop} (h : Reads w v ss) (hf : Fr F w w') (hn : 0 < ss.length → ∀ b, v.ownBlock = some b → ¬ F b) : Reads w' v ss := by
  rcases h with ⟨a, cap, rfl, rfl⟩ | ⟨h0, b, off, cap, rfl, k1, k2, k3, k4⟩
  · exact .inl ⟨a, cap, rfl, rfl⟩
  · refine .inr ⟨h0, b, off, cap, rfl, k1, k2, Nat.lt_of_lt_of_le k3 hf.size, fun i hi => ?_⟩
    rw [World.cell?_of_block (w := w) (hf.block b k3 (hn h0 b rfl))]
    exact k4 i hi
set_option maxRecDepth 100000 in
set_option maxHeartbeats 4000000 in
theorem recordS (h : Store w x S L q P) (gs : List Grp) (hh : Has S L.half gs) (ha : L.at_ = (framesS gs).length) (hw : L.wait = []) {v va : Value} {ss : List ByteArray} {P' : List Pr} (hv : Reads w v ss) (hvo : 0 < ss.length → ∀ b, v.ownBlock = some b → ¬ ownS x b)
    (hs : Small ss) (hsl : ss.length ≤ 1000) (hp : ReadsP w va P') (hpo : ∀ b, va.ownBlock = some b → ¬ ownS x b) (hpl : P'.length ≤ 100000) (hf : ∀ p ∈ P', Fine (putC p)) (hts : Small (ptexts P')) (ht : Tab w) (hg : Grd x.k) (hops : S.ops + 200 < 1000000) :
    Calls Tryz.prog 62 #[ptr x.ps, v, va] w (RecPost w x S L gs ss (ptexts P') q P) := by
  obtain ⟨n, hn⟩ : ∃ n, n = ss.length := ⟨_, rfl⟩
  obtain ⟨vb, vc, rfl⟩ : ∃ a c, v = .slice a n c := by
    rcases hv with ⟨a, cap, rfl, rfl⟩ | ⟨_, b, off, cap, rfl, _⟩
    · exact ⟨a, cap, by rw [hn]; rfl⟩
    · exact ⟨_, cap, by rw [hn]⟩
  have HD := Lib.hid (And.intro h (And.intro hh (And.intro ha (And.intro hw (And.intro hv (And.intro hvo (And.intro hs (And.intro hp (And.intro hpo (And.intro hf (And.intro hts (And.intro ht (And.intro hg hn)))))))))))))
  rw [← hn] at hsl
  clear h hh ha hw hv hvo hs hp hpo hf hts ht hg hn
  go_enter Tryz.func62, Tryz.ntmps62
  go_wp2_with fail
  go_loopw [12] (fun iv wr => ∃ (i : Nat) (k' : Wk), iv = .int .i64 i ∧ i ≤ n ∧ Store wr { x with k := k' } S { L with wait := ss.take i } q P ∧ StepS w x wr { x with k := k' }) (fun i _ => n - (intOf i).toNat)
  case atStart =>
    obtain ⟨h, hh, ha, hw, hv, hvo, hs, hp, hpo, hf, hts, ht, hg, hn⟩ := HD.out
    exact ⟨0, x.k, rfl, Nat.zero_le _, by rw [List.take_zero, ← hw]; exact h, StepS.refl _ _⟩
  case round =>
    obtain ⟨i, k', rfl, hi, hst, hsp⟩ := hrel
    obtain ⟨h, hh, ha, hw, hv, hvo, hs, hp, hpo, hf, hts, ht, hg, hn⟩ := HD.out
    obtain ⟨c0, c1, c2, c3⟩ := hst.cells
    by_cases hlt : i < n
    · obtain ⟨s, hsi⟩ : ∃ s, ss[i]? = some s := ⟨ss[i]'(by omega), List.getElem?_eq_getElem _⟩
      have hrd := reads_fr hv hsp.fr hvo
      rcases hrd with ⟨a, cap, _, e⟩ | ⟨h0, b, off, cap, e, k1, k2, k3, k4⟩
      · rw [e] at hsi; simp at hsi
      · have d0 := k4 i (by omega)
        rw [List.getD_eq_getElem?_getD, hsi] at d0
        have hvb : vb = some ⟨b, off, none⟩ := by simp at e; exact e.1
        subst hvb
        have HAP := Lib.hid (Wal.appendW hst.log s (show (ss.take i).length ≤ 1000 by rw [List.length_take]; omega))
        have HS := Lib.hid (And.intro hst hsp)
        have e1 : ss.take (i + 1) = ss.take i ++ [s] := by rw [List.take_add_one, hsi]; rfl
        have HE := Lib.hid e1
        clear hst hsp h hh ha hw hv hvo hs hp hpo hf hts ht hg hn hsi h0 e k1 k2 k3 k4 e1
        simp only [Option.getD_some] at d0
        go_wp2_with fail
        refine HAP.out.mono ?_
        rintro e w2 ⟨rfl, hd⟩
        have HN := Lib.hid (HS.out.1.logged hd)
        clear hd
        go_wp2_with fail
        go_roundw
        case rel =>
          obtain ⟨k2, h1, h2⟩ := HN.out
          refine ⟨i + 1, k2, by simp, hlt, ?_, HS.out.2.trans h2⟩
          rw [HE.out]
          exact h1
        case measure => simp [intOf]; omega
    · obtain rfl : i = n := by omega
      have htk : ss.take i = ss := by rw [hn, List.take_length]
      rw [htk] at hst
      have hg' : Grd k' := by
        have : k'.d.B = x.k.d.B := hsp.B
        unfold Grd
        rw [this]
        exact hg
      have htab := tab_frS h hg ht hsp.fr
      have HSY := Lib.hid (Wal.syncW hst.log gs hh (by exact ha) hs htab hg' (by omega))
      have HS := Lib.hid (And.intro hst (And.intro hsp htab))
      clear hst hsp h hh ha hw hv hvo hs hp hpo hf hts ht hg hn htk htab hg'
      go_wp2_with fail
      refine HSY.out.mono ?_
      rintro e w2 ⟨S1, L1, c, rfl, hso, hki, hd⟩
      obtain ⟨k2, hst2, hsp2⟩ := HS.out.1.logged hd
      have HS2 := Lib.hid (And.intro hst2 (And.intro (HS.out.2.1.trans hsp2) hki))
      have HSO := Lib.hid hso
      obtain ⟨c0, c1, c2, c3⟩ := hst2.cells
      clear hd hst2 hsp2 hki
      by_cases hc8 : c = 8
      · subst hc8
        obtain ⟨rfl, rfl⟩ := SyncO.room8 hso
        clear hso
        obtain ⟨h, hh, ha, hw, hv, hvo, hs, hp, hpo, hf, hts, ht, hg, hn⟩ := HD.out
        have hp2 := hp.frame (frB HS2.out.2.1.fr) hpo
        have htab2 := tab_frS h hg ht HS2.out.2.1.fr
        have hst2 := HS2.out.1
        have HPT := Lib.hid (fun (W : World) (hW : Below w2.heap.size w2 W) => ptexts_any va P' W (hp2.below hW) hpl hf (htab2.below hW))
        have HRE := Lib.hid (fun (W : World) (hW : Below w2.heap.size w2 W) (u : Value) (hu : Reads W u (ptexts P')) => Wal.resetW (hst2.below hW).log gs hh hu hts (htab2.below hW) (by omega))
        have HC := Lib.hid (fun (W : World) (hW : Below w2.heap.size w2 W) => (hst2.below hW).cells.1)
        obtain ⟨pa, pc, rfl⟩ := hp.shape
        clear h hh ha hw hv hvo hs hp hpo hf hts ht hg hn hp2 htab2 hst2
        go_wp2_with fail
        go_region_with (first
          | (go_at_call 65; refine (HPT.out _ ((Below.refl _ _).drew)).mono ?_; rintro e w3 ⟨u, rfl, ho3, hb3⟩; have hb3' : Below w2.heap.size w2 w3 := Below.trans (Below.drew (Below.refl _ w2)) hb3; have d0 := HC.out _ hb3')
          | (go_at_call 64; refine (HRE.out _ hb3' u (Nets.reads_owns (by unfold ptexts at ho3 ⊢; rw [List.length_map]; exact ho3))).mono ?_; rintro e w4 ⟨S4, L4, c4, rfl, hro, hki4, hd4⟩))
        all_goals
          have hst3 := HS2.out.1.below hb3'
          obtain ⟨k4, hst4, hsp4⟩ := hst3.logged hd4
          have HFIN := Lib.hid (And.intro hro (And.intro (HS2.out.2.2.trans hki4) (And.intro hst4 ((HS2.out.2.1.trans (StepS.of_below _ hb3')).trans hsp4))))
          clear hst3 hst4 hsp4 hro hki4 hd4 hb3' hb3 ho3 d0
          go_wp2_with fail
          go_ret
          obtain ⟨hro, hki, hst, hsp⟩ := HFIN.out
          exact ⟨S4, L4, c4, k4, rfl, .inr ⟨HSO.out, hro⟩, hki, hst, hsp⟩
      · have hc8' : (c == 8) = false := by simpa using hc8
        have HR : Hid (RecO S L gs ss (ptexts P') S1 L1 c) := Lib.hid (.inl ⟨hso, hc8⟩)
        clear hso
        go_wp2_with fail
        go_ret
        exact ⟨S1, L1, c, k2, rfl, HR.out, HS2.out.2.2.mono (by omega), HS2.out.1, HS2.out.2.1⟩

set_option maxRecDepth 100000 in
set_option maxHeartbeats 4000000 in
theorem compactS (h : Store w x S L q P) (gs : List Grp) (hh : Has S L.half gs) (hpl : P.length ≤ 100000) (hf : ∀ p ∈ P, Fine (putC p)) (hts : Small (ptexts P)) (ht : Tab w) (hops : S.ops + 100 < 1000000) :
    Calls Tryz.prog 34 #[ptr x.ps] w (CompPost w x S L gs (ptexts P) q P) := by
  obtain ⟨c0, c1, c2, c3⟩ := h.cells
  have HPT := Lib.hid (fun (W : World) (hW : Below w.heap.size w W) => ptexts_any x.pv P W (h.pairs.below hW) hpl hf (ht.below hW))
  have HRE := Lib.hid (fun (W : World) (hW : Below w.heap.size w W) (u : Value) (hu : Reads W u (ptexts P)) => Wal.resetW (h.below hW).log gs hh hu hts (ht.below hW) hops)
  have HC := Lib.hid (fun (W : World) (hW : Below w.heap.size w W) => And.intro (h.below hW).cells.1 (h.below hW).cells.2.2.1)
  have HS := Lib.hid h
  obtain ⟨pa, pc, hsh⟩ := h.pairs.shape
  rw [hsh] at c2 HPT HC
  clear h hh hf hts ht hsh
  go_enter Tryz.func34, Tryz.ntmps34
  go_wp2_with fail
  go_region_with (first
    | (go_at_call 65; refine (HPT.out _ ((Below.refl _ _).drew)).mono ?_; rintro e w3 ⟨u, rfl, ho3, hb3⟩; have hb3' : Below w.heap.size w w3 := Below.trans (Below.drew (Below.refl _ w)) hb3; have d0 := (HC.out _ hb3').1)
    | (go_at_call 64; refine (HRE.out _ hb3' u (Nets.reads_owns (by unfold ptexts at ho3 ⊢; rw [List.length_map]; exact ho3))).mono ?_; rintro e w4 ⟨S4, L4, c4, rfl, hro, hki4, hd4⟩))
  all_goals
    have hst3 := HS.out.below hb3'
    obtain ⟨k4, hst4, hsp4⟩ := hst3.logged hd4
    have HFIN := Lib.hid (And.intro hro (And.intro hki4 (And.intro hst4 ((StepS.of_below _ hb3').trans hsp4))))
    clear hst3 hst4 hsp4 hro hki4 hd4 hb3' hb3 ho3 d0
    go_wp2_with fail
    go_ret
    obtain ⟨hro, hki, hst, hsp⟩ := HFIN.out
    exact ⟨S4, L4, c4, k4, rfl, hro, hki, hst, hsp⟩
end
end Go.Proofs.YtghpohiinnallaaGreatDoor.Kv

/-
  Walk of the store: Commit.
-/
namespace Go.Proofs.YtghpohiinnallaaGreatDoor.Kv
open Go Go.RowKit
open Go.Proofs.YtghpohiinnallaaGreatDoor.Disk (St Dk own Fr Lies)
open Go.Proofs.YtghpohiinnallaaGreatDoor.Wal (Wl Wk Log ownW StepW Done Grp Has Kin SyncO ResetO Grd framesS payS)
open Go.Proofs.YtghpohiinnallaaGreatDoor.Batch (less Rising at? lo lo_le Chg ptr Mem Bt Fine AllPost itV textV texts_walk all_any len_any)
open Go.Proofs.YtghpohiinnallaaGreatDoor.Nets (Tab Reads Small str)

/-- How a Commit may end. -/
inductive ComO (S : St) (L : Wl) (gs : List Grp) (q : Nat) (P : List Pr) (b : List Chg) (S' : St) (L' : Wl) (P' : List Pr) : Int → Prop
  | none (hb : b = []) (hS : S' = S) (hL : L' = L) (hP : P' = P) : ComO S L gs q P b S' L' P' 0
  | quota (hb : b ≠ []) (hu : q < used (done P b)) (hS : S' = S) (hL : L' = L) (hP : P' = P) : ComO S L gs q P b S' L' P' 8
  | good (hb : b ≠ []) (hu : used (done P b) ≤ q) (hr : RecO S L gs (b.map texB) (ptexts (done P b)) S' L' 0) (hP : P' = done P b) : ComO S L gs q P b S' L' P' 0
  | bad (c : Int) (hb : b ≠ []) (hu : used (done P b) ≤ q) (hr : RecO S L gs (b.map texB) (ptexts (done P b)) S' L' c) (hc : c ≠ 0) (hP : P' = P) : ComO S L gs q P b S' L' P' c
def ComPost (w : World) (x : Sk) (S : St) (L : Wl) (gs : List Grp) (q : Nat) (P : List Pr) (b : List Chg) (e : Ending) (w' : World) : Prop :=
  ∃ S' L' c x' P', e = .returned (.int .i64 c) ∧ ComO S L gs q P b S' L' P' c ∧ Kin S S' 168 ∧ Store w' x' S' L' q P' ∧ StepS w x w' x'
/-- What a commit asks of the changes. -/
structure Fair (P : List Pr) (b : List Chg) : Prop where
  rise : Rising Pr.key P
  riseb : Rising Chg.key b
  few : P.length ≤ 10000
  fewb : b.length ≤ 1000
  fine : ∀ c ∈ b, Fine c
  small : Small (b.map texB)
  fined : ∀ p ∈ done P b, Fine (putC p)
  smalld : Small (ptexts (done P b))
  used : used (done P b) ≤ 1000000000000
theorem textV_eq (b : List Chg) : textV b = (b.map texB).map Value.string := by
  unfold textV
  rw [List.map_map]
  rfl
section
variable {w : World} {x : Sk} {S : St} {L : Wl} {q : Nat} {P : List Pr}
set_option maxRecDepth 100000 in
set_option maxHeartbeats 4000000 in
theorem commitS (h : Store w x S L q P) (gs : List Grp) (hh : Has S L.half gs) (ha : L.at_ = (framesS gs).length) (hw : L.wait = []) {d : Bt} {b : List Chg} (hm : Mem w d b) (hf : Fair P b) (ht : Tab w) (hg : Grd x.k) (hops : S.ops + 200 < 1000000) (_hq : q ≤ 9223372036854775807) :
    Calls Tryz.prog 33 #[ptr x.ps, ptr d.pb] w (ComPost w x S L gs q P b) := by
  obtain ⟨c0, c1, c2, c3⟩ := h.cells
  have HLN := Lib.hid (len_any hm)
  by_cases hb0 : b = []
  · have e0 : b.length = 0 := by rw [hb0]; rfl
    rw [e0] at HLN
    have HS := Lib.hid h
    clear h hh ha hw hm hf ht hg
    go_enter Tryz.func33, Tryz.ntmps33
    go_wp2_with fail
    refine HLN.out.mono ?_
    rintro e w1 ⟨rfl, rfl⟩
    go_wp2_with fail
    go_ret
    exact ⟨S, L, 0, x, P, rfl, .none hb0 rfl rfl rfl, Kin.refl _ _, HS.out, StepS.refl _ _⟩
  · have hl0 : 0 < b.length := by
      cases b with
      | nil => exact absurd rfl hb0
      | cons y r => simp
    have hl0' : ((b.length : Int) == 0) = false := by simp; exact hb0
    obtain ⟨m, hm0⟩ : ∃ m, m = b.length := ⟨_, rfl⟩
    obtain ⟨N, hN⟩ : ∃ N, N = (done P b).length := ⟨_, rfl⟩
    have hNl : N ≤ 11000 := by
      have := done_length P b
      have := hf.few
      have := hf.fewb
      omega
    rw [← hm0] at HLN hl0 hl0'
    have HAL := Lib.hid (fun (W : World) (hW : Below w.heap.size w W) => all_any (hm.below hW) (by have := hf.fewb; omega))
    have HAP := Lib.hid (fun (W : World) (hW : Below w.heap.size w W) (v' : Value) (hv : Batch.ReadsC W v' b) => apply_any x.pv v' P b W (h.pairs.below hW) hv hf.rise hf.riseb (by have := hf.few; omega) (by have := hf.fewb; omega))
    have HC := Lib.hid (fun (W : World) (hW : Below w.heap.size w W) => (h.below hW).cells)
    have HSP := Lib.hid (fun (W : World) (hW : Below w.heap.size w W) (u : Value) (hu : ReadsP W u (done P b)) => space_any u (done P b) W hu (by omega) hf.used)
    have HTX := Lib.hid (fun (W : World) (hW : Below w.heap.size w W) => texts_walk (hm.below hW) (by have := hf.fewb; omega) hf.fine (ht.below hW))
    have HRC := Lib.hid (fun (W : World) (hW : Below w.heap.size w W) (v va : Value) (hv : Reads W v (b.map texB)) (hvo : 0 < (b.map texB).length → ∀ k, v.ownBlock = some k → ¬ ownS x k) (hp : ReadsP W va (done P b)) (hpo : ∀ k, va.ownBlock = some k → ¬ ownS x k) =>
      recordS (h.below hW) gs hh ha hw hv hvo hf.small (by rw [List.length_map]; exact hf.fewb) hp hpo (by omega) hf.fined hf.smalld (ht.below hW) hg hops)
    have HS := Lib.hid h
    have hbl : b.length ≤ 100000 := by have := hf.fewb; omega
    have HBL := Lib.hid hbl
    have HOL := Lib.hid (fun k (hk : ownS x k) => (h.own_lt hk).1)
    have hu12 := hf.used
    obtain ⟨US, hUS⟩ : ∃ US, US = used (done P b) := ⟨_, rfl⟩
    rw [← hUS] at HSP hu12
    obtain ⟨pa, pc, hsh⟩ := h.pairs.shape
    rw [hsh] at c2 HAP HC
    have HU := Lib.hid (And.intro hUS (And.intro hN hm0))
    clear h hh ha hw hm hf ht hg hbl hUS hsh hN hm0
    go_enter Tryz.func33, Tryz.ntmps33
    go_wp2_with fail
    refine HLN.out.mono ?_
    rintro e w1 ⟨rfl, rfl⟩
    go_wp2_with fail
    go_region_with (first
      | (go_at_call 61; refine (HAL.out _ ((Below.refl _ _).drew)).mono ?_; rintro e w1 ⟨vi, bi, rfl, hci, hbi, hoi, hb1⟩; have hb1' : Below w.heap.size w w1 := Below.trans (Below.drew (Below.refl _ w)) hb1; obtain ⟨d0, d1, d2, d3⟩ := HC.out _ hb1')
      | (go_at_call 60; refine (collect_any _ bi vi b hci hbi (Batch.owns_reads hoi) HBL.out (fun k hk => (hoi.lt k hk).2)).mono ?_; rintro e w2 ⟨uc, rfl, ho2, hb2⟩; have hb2' : Below w.heap.size w w2 := Below.trans hb1' (Below.mono hb2 hb1'.size); obtain ⟨d0, d1, d2, d3⟩ := HC.out _ hb2')
      | (go_at_call 50; refine (HAP.out _ hb2' uc (Batch.owns_reads ho2)).mono ?_; rintro e w3 ⟨ua, rfl, ho3, hb3⟩))
    all_goals
      have hb3' : Below w.heap.size w w3 := Below.trans hb2' (Below.mono hb3 hb2'.size)
      obtain ⟨a3, n3, hsl⟩ := Batch.owns_slice ho3
      rw [← HU.out.2.1] at hsl
      have hrp := owns_readsP ho3
      have hob : ∀ k, ua.ownBlock = some k → ¬ ownS x k := fun k hk e => by
        have h1 := (ho3.lt k hk).1
        have h2 := HOL.out k e
        have h3 := hb2'.size
        omega
      subst hsl
      have HR3 := Lib.hid (And.intro hrp (And.intro hob hb3'))
      clear hb1' hb1 hb2' hb2 hb3 hoi ho2 ho3 hrp hob hci hbi d0 d1 d2 d3
      go_wp2_with fail
      refine (HSP.out w3 HR3.out.2.2 _ HR3.out.1).mono ?_
      rintro e w4 ⟨rfl, hb4⟩
      have HB4 := Lib.hid (Below.trans HR3.out.2.2 (Below.mono hb4 HR3.out.2.2.size))
      have HR4 := Lib.hid (HR3.out.1.below hb4)
      obtain ⟨d0, d1, d2, d3⟩ := HC.out w4 HB4.out
      clear hb4 hb3'
      by_cases huq : q < US
      · go_wp2_with fail
        go_ret
        exact ⟨S, L, 8, x, P, rfl, .quota hb0 (by rw [← HU.out.1]; exact huq) rfl rfl rfl, Kin.refl _ _, HS.out.below HB4.out, StepS.of_below x HB4.out⟩
      · go_wp2_with fail
        refine (HTX.out w4 HB4.out).mono ?_
        rintro e w5 ⟨v5, rfl, ho5, hb5⟩
        have hB5 : Below w.heap.size w w5 := Below.trans HB4.out (Below.mono hb5 HB4.out.size)
        have hrd : Reads w5 v5 (b.map texB) := Nets.reads_owns (by rw [List.length_map, ← textV_eq]; exact ho5)
        have hvo : ∀ k, v5.ownBlock = some k → ¬ ownS x k := fun k hk e => by
          have h1 := (ho5.lt k hk).1
          have h2 := HOL.out k e
          have h3 := HB4.out.size
          omega
        have HRD := Lib.hid (HRC.out w5 hB5 v5 _ hrd (fun _ => hvo) (HR4.out.below hb5) HR3.out.2.1)
        have HB5 := Lib.hid hB5
        have HR5 := Lib.hid (HR4.out.below hb5)
        clear hB5 hrd hvo hb5 ho5
        go_wp2_with fail
        refine HRD.out.mono ?_
        rintro e w6 ⟨S6, L6, c, k6, rfl, hro, hki, hst, hsp⟩
        have HQ6 := Lib.hid (And.intro hro (And.intro hki (And.intro hst ((StepS.of_below x HB5.out).trans hsp))))
        have HR6 := Lib.hid (HR5.out.frame (frB hsp.fr) HR3.out.2.1)
        have hnew := hst.setPairs (.slice a3 N n3) (done P b) HR6.out (fun k hk e => by
          rcases hsp.own k e with e | e
          · exact HR3.out.2.1 k hk e
          · have := HR5.out.lt k hk
            omega)
        rw [← HU.out.1] at hnew
        have HNEW := Lib.hid hnew
        obtain ⟨x0, x1, x2, x3⟩ := hst.cells
        have f2 := hst.free 2
        have f3 := hst.free 3
        clear hro hki hst hsp hnew
        by_cases hc0 : c = 0
        · subst hc0
          go_wp2_with fail
          go_ret
          obtain ⟨hro, hki, hst, hsp⟩ := HQ6.out
          exact ⟨S6, L6, 0, _, _, rfl, .good hb0 (by rw [← HU.out.1]; omega) hro rfl, hki, HNEW.out.1, hsp.trans HNEW.out.2⟩
        · have hc0' : (c != 0) = true := by simpa using hc0
          have hc0'' : (c == 0) = false := by simpa using hc0
          go_wp2_with fail
          go_ret
          obtain ⟨hro, hki, hst, hsp⟩ := HQ6.out
          exact ⟨S6, L6, c, _, P, rfl, .bad c hb0 (by rw [← HU.out.1]; omega) hro hc0 rfl, hki, hst, hsp⟩
end
end Go.Proofs.YtghpohiinnallaaGreatDoor.Kv
