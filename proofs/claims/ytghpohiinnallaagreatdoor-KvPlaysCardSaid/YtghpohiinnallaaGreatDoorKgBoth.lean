/-
  Both stores side by side: an act done to both.
-/
import Derived.Test.YtghpohiinnallaaGreatDoorKgRefCpt
import Derived.Test.YtghpohiinnallaaGreatDoorKgOn

/-
  The program's store beside the document's: what a commit, a compaction leave of both.
-/
namespace Go.Proofs.YtghpohiinnallaaGreatDoor.Kv
open Go Go.RowKit
open Go.Proofs.YtghpohiinnallaaGreatDoor.Disk (St Dk Is own Fr Lies)
open Go.Proofs.YtghpohiinnallaaGreatDoor.Wal (Wl Wk Log ownW StepW Done Grp Has Kin Either SyncO ResetO framesS frameS payS newG newG_flat sec frames_snoc)
open Go.Proofs.YtghpohiinnallaaGreatDoor.Batch (less Rising at? Chg ptr Mem Bt Fine LightC madeL good_madeL madeL_length madeL_light madeL_norm)
open Go.Proofs.YtghpohiinnallaaGreatDoor.Nets (Tab Reads Small bl)

section
variable {m F q : Nat} {f : Bool} {P : List Pr} {b : List Chg} {c c' : Int} {k k' : Nat}
theorem Com.det (h : Com m F f q P b c k) (g : Com m F f q P b c' k') : c = c' ∧ k = k' := by
  cases h <;> cases g <;> first | exact ⟨rfl, rfl⟩ | (exfalso; omega) | contradiction | simp_all
theorem Cpt.det (h : Cpt m f P c k) (g : Cpt m f P c' k') : c = c' ∧ k = k' := by
  cases h <;> cases g <;> first | exact ⟨rfl, rfl⟩ | (exfalso; omega) | contradiction | simp_all
end
/-- What became of the program's log and pairs: they are as they were (0), longer (1), new (2). -/
inductive TurnedK (L : Wl) (gs : List Grp) (P : List Pr) (l : List ByteArray) (Q : List Pr) (L' : Wl) (gs' : List Grp) (P' : List Pr) : Nat → Prop
  | same (hh : L'.half = L.half) (hg : gs' = gs) (hp : P' = P) : TurnedK L gs P l Q L' gs' P' 0
  | more (hh : L'.half = L.half) (hg : gs' = gs ++ [l]) (hp : P' = Q) : TurnedK L gs P l Q L' gs' P' 1
  | anew (hh : L'.half = 1 - L.half) (hg : gs' = newG (ptexts Q)) (hp : P' = Q) : TurnedK L gs P l Q L' gs' P' 2
section
variable {S S' : St} {L L' : Wl} {gs : List Grp} {cs b : List Chg} {q m n : Nat} {P P' : List Pr} {c : Int}
theorem room_of {S2 : St} {L2 : Wl} {c : Int} (h : SyncO S L gs S2 L2 c) (h8 : c = 8) : sec S.dur.length * S.z - (framesS gs).length - 1 < 9 + (payS L.wait).length := by
  cases h with
  | room _ hr => exact hr
  | none => exact absurd h8 (by decide)
  | full => exact absurd h8 (by decide)
  | power => exact absurd h8 (by decide)
  | done => exact absurd h8 (by decide)
/-- A commit's end, told to the end: it is the number's alone. -/
theorem Inv.com2 (h : Inv S L gs cs q m n P) (hb : ∀ c ∈ b, Told c) (hbl : b.length ≤ 12) (ho : ComO S L gs q P b S' L' P' c) (hk : Kin S S' 168) (hl : S.left = 0) :
    ∃ gs' cs' k, Inv S' L' gs' cs' q (m + 12) (n + 168) P' ∧ TurnedK L gs P (b.map texB) (done P b) L' gs' P' k ∧ Com (sec S.dur.length * S.z) (framesS gs).length S.full q P b c k := by
  have hops : S'.ops ≤ n + 168 := by have := hk.ops; have := h.ops; omega
  have hfd : Fits (done P b) := h.fits.done hb
  have hfew : (done P b).length ≤ m + 12 := by have := done_length P b; have := h.few; omega
  have hf0 : P.length ≤ m + 12 := by have := h.few; omega
  have hrec : ∀ {c2 : Int}, b ≠ [] → used (done P b) ≤ q → RecO S L gs (b.map texB) (ptexts (done P b)) S' L' c2 →
      (c2 = 0 ∧ ∃ gs' cs' k, Inv S' L' gs' cs' q (m + 12) (n + 168) (done P b) ∧ TurnedK L gs P (b.map texB) (done P b) L' gs' (done P b) k ∧ Com (sec S.dur.length * S.z) (framesS gs).length S.full q P b c2 k) ∨
      (c2 ≠ 0 ∧ ∃ gs' cs' k, Inv S' L' gs' cs' q (m + 12) (n + 168) P ∧ TurnedK L gs P (b.map texB) (done P b) L' gs' P k ∧ Com (sec S.dur.length * S.z) (framesS gs).length S.full q P b c2 k) := by
    intro c2 hb0 hu hr
    rcases hr with ⟨hs, h8⟩ | ⟨hro, hs⟩
    · cases hs with
      | none hw =>
        have : b.map texB = [] := hw
        exact absurd (List.map_eq_nil_iff.1 this) hb0
      | room => exact absurd rfl h8
      | full hw hr hf hS hL =>
        subst hL
        exact .inr ⟨by decide, gs, cs, 0, ⟨hS, h.end_, rfl, h.tells, h.fits, h.usd, hf0, hops⟩, .same rfl rfl rfl, .full1 hb0 hu hr hf⟩
      | power hl0 => exact absurd hl hl0
      | done hw hr hf hS hL =>
        subst hL
        exact .inl ⟨rfl, _, _, 1, ⟨hS, rfl, rfl, h.tells.add hb, hfd, hu, hfew, hops⟩, .more rfl rfl rfl, .sync hb0 hu hr hf⟩
    · have hrm : sec S.dur.length * S.z - (framesS gs).length - 1 < 9 + (payS (b.map texB)).length := room_of hro rfl
      cases hs with
      | room hr hS hL =>
        subst hS hL
        exact .inr ⟨by decide, gs, cs, 0, ⟨h.has, h.end_, rfl, h.tells, h.fits, h.usd, hf0, hops⟩, .same rfl rfl rfl, .room hb0 hu hrm hr⟩
      | full hr hf hS hL =>
        subst hL
        exact .inr ⟨by decide, gs, cs, 0, ⟨hS, h.end_, rfl, h.tells, h.fits, h.usd, hf0, hops⟩, .same rfl rfl rfl, .full2 hb0 hu hrm hr hf⟩
      | power hl0 => exact absurd hl hl0
      | done hr hf hS hL =>
        subst hL
        exact .inl ⟨rfl, _, _, 2, ⟨hS, rfl, rfl, Bears.new hfd, hfd, hu, hfew, hops⟩, .anew rfl rfl rfl, .reset hb0 hu hrm hr hf⟩
  cases ho with
  | none hb0 hS hL hP =>
    subst hb0 hS hL hP
    exact ⟨gs, cs, 0, h.more (by omega) (by omega), .same rfl rfl rfl, .none rfl⟩
  | quota hb0 hu hS hL hP =>
    subst hS hL hP
    exact ⟨gs, cs, 0, h.more (by omega) (by omega), .same rfl rfl rfl, .quota hb0 hu⟩
  | good hb0 hu hr hP =>
    subst hP
    rcases hrec hb0 hu hr with ⟨_, h7⟩ | ⟨h7, _⟩
    · exact h7
    · exact absurd rfl h7
  | bad c hb0 hu hr hc hP =>
    subst hP
    rcases hrec hb0 hu hr with ⟨h7, _⟩ | ⟨_, h7⟩
    · exact absurd h7 hc
    · exact h7
theorem Inv.compact2 (h : Inv S L gs cs q m n P) (ho : ResetO S L gs (ptexts P) S' L' c) (hk : Kin S S' 84) (hl : S.left = 0) :
    ∃ gs' cs' k, Inv S' L' gs' cs' q (m + 12) (n + 168) P ∧ TurnedK L gs P [] P L' gs' P k ∧ Cpt (sec S.dur.length * S.z) S.full P c k := by
  have hops : S'.ops ≤ n + 168 := by have := hk.ops; have := h.ops; omega
  have hf0 : P.length ≤ m + 12 := by have := h.few; omega
  cases ho with
  | room hr hS hL =>
    subst hS hL
    exact ⟨gs, cs, 0, h.more (by omega) (by omega), .same rfl rfl rfl, .room hr⟩
  | full hr hf hS hL =>
    subst hL
    exact ⟨gs, cs, 0, ⟨hS, h.end_, h.wait, h.tells, h.fits, h.usd, hf0, hops⟩, .same rfl rfl rfl, .full hr hf⟩
  | power hl0 => exact absurd hl hl0
  | done hr hf hS hL =>
    subst hL
    exact ⟨_, _, 2, ⟨hS, rfl, h.wait, Bears.new h.fits, h.fits, h.usd, hf0, hops⟩, .anew rfl rfl rfl, .reset hr hf⟩
end
/-- A list of texts beside a store. -/
def AsideT (w : World) (x : Sk) (u : Value) (T : List ByteArray) : Prop := Reads w u T ∧ ∀ b, u.ownBlock = some b → b < w.heap.size ∧ ¬ ownS x b
section
variable {w w' : World} {x x' : Sk} {u : Value} {T : List ByteArray}
theorem AsideT.nil : AsideT w x (.slice none 0 0) [] := ⟨.inl ⟨none, 0, rfl, rfl⟩, fun b hb => by cases hb⟩
theorem AsideT.below (h : AsideT w x u T) (hb : Below w.heap.size w w') : AsideT w' x u T := ⟨h.1.below hb, fun b e => ⟨Nat.lt_of_lt_of_le (h.2 b e).1 hb.size, (h.2 b e).2⟩⟩
theorem AsideT.step (h : AsideT w x u T) (hs : StepS w x w' x') : AsideT w' x' u T := by
  refine ⟨reads_fr h.1 hs.fr fun _ b e => (h.2 b e).2, fun b e => ⟨Nat.lt_of_lt_of_le (h.2 b e).1 hs.fr.size, fun o => ?_⟩⟩
  rcases hs.own b o with o | o
  · exact (h.2 b e).2 o
  · have := (h.2 b e).1; omega
end
/-- The document's store beside the program's. -/
structure Docs (w : World) (x : Sk) (S : St) (gs : List Grp) (P : List Pr) (M : Nat) (s : ByteArray) (tv lv : Value) : Prop where
  mm : M = sec S.dur.length * S.z
  bs : bl s = framesS gs
  tvR : AsideT w x tv gs.flatten
  lvR : Aside w x lv P
section
variable {w w' w1 w2 : World} {x x' : Sk} {S S' : St} {L L' : Wl} {gs gs' : List Grp} {P P' Q : List Pr} {l : List ByteArray} {M h2 k q n : Nat} {s s2 : ByteArray} {tv lv tv2 lv2 : Value}
theorem Docs.below (h : Docs w x S gs P M s tv lv) (hb : Below w.heap.size w w') : Docs w' x S gs P M s tv lv := ⟨h.mm, h.bs, h.tvR.below hb, h.lvR.below hb⟩
theorem Docs.step (h : Docs w x S gs P M s tv lv) (hs : StepS w x w' x') (hk : Kin S S' n) : Docs w' x' S' gs P M s tv lv := ⟨by rw [h.mm, hk.len, hk.z], h.bs, h.tvR.step hs, h.lvR.step hs⟩
theorem Docs.turned (h : Docs w1 x' S' gs P M s tv lv) (hst : Store w1 x' S' L' q P') (ht : TurnedK L gs P l Q L' gs' P' k) (hb : Became w1 L.half s tv lv gs.flatten l Q w2 h2 s2 tv2 lv2 k) (hb2 : Below w1.heap.size w1 w2) : h2 = L'.half ∧ Docs w2 x' S' gs' P' M s2 tv2 lv2 := by
  have hnew : ∀ {v : Value}, New w1 w2 v → ∀ b, v.ownBlock = some b → b < w2.heap.size ∧ ¬ ownS x' b := fun hn b e => ⟨(hn b e).2, fun o => by have := (hst.own_lt o).1; have := (hn b e).1; omega⟩
  have hheir : ∀ {v : Value}, Heir w1 w2 lv v → ∀ b, v.ownBlock = some b → b < w2.heap.size ∧ ¬ ownS x' b := fun hn b e => by
    refine ⟨(hn b e).2, fun o => ?_⟩
    rcases (hn b e).1 with h1 | h1
    · exact (h.lvR.2 b h1).2 o
    · have := (hst.own_lt o).1; omega
  cases hb with
  | same hh hs hv hl =>
    subst hh hs hv hl
    cases ht with
    | same h5 h6 h7 =>
      subst h6 h7
      exact ⟨h5.symm, h.below hb2⟩
  | more hh hs hv hn hl ho =>
    cases ht with
    | more h5 h6 h7 =>
      subst h6 h7
      refine ⟨by rw [hh, h5], h.mm, by rw [hs, h.bs, frames_snoc], ⟨?_, hnew hn⟩, hl, hheir ho⟩
      rw [List.flatten_append, List.flatten_singleton]
      exact hv
  | anew hh hs hv hn hl ho =>
    cases ht with
    | anew h5 h6 h7 =>
      subst h6 h7
      refine ⟨by rw [hh, h5], h.mm, hs, ⟨?_, hnew hn⟩, hl, hheir ho⟩
      rw [newG_flat]
      exact hv
theorem Docs.turnedC (h : Docs w1 x' S' gs P M s tv lv) (hst : Store w1 x' S' L' q P) (ht : TurnedK L gs P l P L' gs' P k) (hb : BecameC w1 L.half s tv P w2 h2 s2 tv2 k) (hb2 : Below w1.heap.size w1 w2) : h2 = L'.half ∧ Docs w2 x' S' gs' P M s2 tv2 lv := by
  have hnew : ∀ {v : Value}, New w1 w2 v → ∀ b, v.ownBlock = some b → b < w2.heap.size ∧ ¬ ownS x' b := fun hn b e => ⟨(hn b e).2, fun o => by have := (hst.own_lt o).1; have := (hn b e).1; omega⟩
  cases hb with
  | same hh hs hv =>
    subst hh hs hv
    cases ht with
    | same h5 h6 h7 =>
      subst h6
      exact ⟨h5.symm, h.below hb2⟩
  | anew hh hs hv hn =>
    cases ht with
    | anew h5 h6 h7 =>
      subst h6
      refine ⟨by rw [hh, h5], h.mm, hs, ⟨?_, hnew hn⟩, h.lvR.below hb2⟩
      rw [newG_flat]
      exact hv
end
end Go.Proofs.YtghpohiinnallaaGreatDoor.Kv

/-
  The calls that a law's act makes, on both stores.
-/
namespace Go.Proofs.YtghpohiinnallaaGreatDoor.Kv
open Go Go.RowKit
open Go.Proofs.YtghpohiinnallaaGreatDoor.Disk (St Dk Is own Fr Lies fillS)
open Go.Proofs.YtghpohiinnallaaGreatDoor.Wal (Wl Wk Log ownW StepW Done Grp Has Kin Either SyncO ResetO framesS payS newG sec Grd)
open Go.Proofs.YtghpohiinnallaaGreatDoor.Batch (less Rising at? Chg ptr Mem Bt Fine LightC madeL good_madeL madeL_length madeL_light madeL_norm ReadsC)
open Go.Proofs.YtghpohiinnallaaGreatDoor.Nets (Tab Reads Small bl)

/-- From one store in memory to the next: only the store's own blocks, and new ones. -/
structure Moves (w : World) (x : Sk) (w' : World) (x' : Sk) : Prop where
  fr : Fr (ownS x) w w'
  own : ∀ b, ownS x' b → ownS x b ∨ w.heap.size ≤ b
section
variable {w w' w'' : World} {x x' x'' : Sk}
theorem Moves.refl (w : World) (x : Sk) : Moves w x w x := ⟨Fr.refl _ _, fun _ h => .inl h⟩
theorem Moves.of (h : StepS w x w' x') : Moves w x w' x' := ⟨h.fr, h.own⟩
theorem Moves.below (x : Sk) (h : Below w.heap.size w w') : Moves w x w' x := ⟨Fr.of_below h, fun _ h => .inl h⟩
theorem Moves.trans (h : Moves w x w' x') (g : Moves w' x' w'' x'') : Moves w x w'' x'' := by
  refine ⟨h.fr.trans g.fr fun i hi e => ?_, fun b e => ?_⟩
  · rcases h.own i e with e | e
    · exact e
    · omega
  · rcases g.own b e with e | e
    · exact h.own b e
    · exact .inr (Nat.le_trans h.fr.size e)
end
section
variable {w0 w w' : World} {ps pb : Nat} {x x' : Sk} {S S' : St} {L L' : Wl} {gs : List Grp} {cs : List Chg} {q m n M : Nat} {P P' : List Pr} {s : ByteArray} {tv lv : Value}
def ComEnd (w0 w : World) (ps pb : Nat) (x : Sk) (S : St) (L : Wl) (gs : List Grp) (q m n : Nat) (P : List Pr) (b : List Chg) (e : Ending) (w' : World) : Prop :=
  ∃ S' L' c x' P' gs' cs' k, e = .returned (.int .i64 c) ∧ Runs w0 w' ps pb x' S' L' gs' cs' q (m + 12) (n + 168) P' ∧ TurnedK L gs P (b.map texB) (done P b) L' gs' P' k ∧ Com (sec S.dur.length * S.z) (framesS gs).length S.full q P b c k ∧ Kin S S' 168 ∧ StepS w x w' x'
theorem Runs.commit2 (h : Runs w0 w ps pb x S L gs cs q m n P) (hq : q < 2000) (hm : m ≤ 360) (hn : n ≤ 900000) (ht : Tab w0) {d : Bt} {l : List Chg} (hmem : Mem w d (madeL l)) (hl : ∀ c ∈ l, LightC c) (hll : l.length ≤ 12) (hlf : S.left = 0) :
    Calls Tryz.prog 33 #[ptr ps, ptr d.pb] w (ComEnd w0 w ps pb x S L gs q m n P (madeL l)) := by
  have hb : (madeL l).length ≤ 12 := by have := madeL_length l; omega
  have hg := good_madeL l
  have hf := h.inv.fair hq hm hg (fun c hc => madeL_light hl hc) hb
  have := commitS h.st gs h.inv.has h.inv.end_ h.inv.wait hmem hf (ht.below h.old) (h.grd ht) (by have := h.inv.ops; omega) (by omega)
  rw [h.ps] at this
  refine this.mono fun e w' hh => ?_
  obtain ⟨S', L', c, x', P', rfl, ho, hk, hst, hs⟩ := hh
  obtain ⟨gs', cs', k, hi, htu, hco⟩ := h.inv.com2 (fun c hc => ⟨madeL_norm hc, hg.fits c hc⟩) hb ho hk hlf
  exact ⟨S', L', c, x', P', gs', cs', k, rfl, h.step hst hs hi, htu, hco, hk, hs⟩
def CptEnd (w0 w : World) (ps pb : Nat) (x : Sk) (S : St) (L : Wl) (gs : List Grp) (q m n : Nat) (P : List Pr) (e : Ending) (w' : World) : Prop :=
  ∃ S' L' c x' gs' cs' k, e = .returned (.int .i64 c) ∧ Runs w0 w' ps pb x' S' L' gs' cs' q (m + 12) (n + 168) P ∧ TurnedK L gs P [] P L' gs' P k ∧ Cpt (sec S.dur.length * S.z) S.full P c k ∧ Kin S S' 84 ∧ StepS w x w' x'
theorem Runs.compact2 (h : Runs w0 w ps pb x S L gs cs q m n P) (hq : q < 2000) (hm : m ≤ 360) (hn : n ≤ 900000) (ht : Tab w0) (hlf : S.left = 0) :
    Calls Tryz.prog 34 #[ptr ps] w (CptEnd w0 w ps pb x S L gs q m n P) := by
  obtain ⟨h1, h2, h3, h4⟩ := h.inv.fairP hq (by omega)
  have := compactS h.st gs h.inv.has h1 h2 h3 (ht.below h.old) (by have := h.inv.ops; omega)
  rw [h.ps] at this
  refine this.mono fun e w' hh => ?_
  obtain ⟨S', L', c, k', rfl, ho, hk, hst, hs⟩ := hh
  obtain ⟨gs', cs', k, hi, htu, hco⟩ := h.inv.compact2 ho hk hlf
  exact ⟨S', L', c, _, gs', cs', k, rfl, h.step hst hs hi, htu, hco, hk, hs⟩
/-- Numbers of the document's side. -/
theorem Docs.nums (h : Docs w x S gs P M s tv lv) (hh : Has S L.half gs) : s.size = (framesS gs).length ∧ s.size ≤ 10000 ∧ M ≤ 10000 ∧ 48 ≤ M ∧ L.half ≤ 1 ∧ gs.flatten.length ≤ 10000 := by
  have h1 : s.size = (framesS gs).length := by rw [← Batch.bl_length]; exact congrArg List.length h.bs
  have h2 := hh.lg.room
  have h3 : sec S.dur.length * S.z ≤ 19 * 64 := Nat.mul_le_mul (by have := hh.lg.n2; unfold sec; omega) hh.lg.z2
  have h4 : 3 * 16 ≤ sec S.dur.length * S.z := Nat.mul_le_mul (by have := hh.lg.n1; unfold sec; omega) hh.lg.z1
  have h5 := (has_flat hh).1
  have h6 := h.mm
  exact ⟨h1, by omega, by omega, by omega, hh.lg.half, by omega⟩
theorem pay_small {b : List Chg} (hl : ∀ c ∈ b, LightC c) (hb : b.length ≤ 12) : (payS (b.map texB)).length ≤ 100000 := by
  refine Wal.pay_le (fun y hy => ?_) (by rw [List.length_map]; omega)
  obtain ⟨c, hc, rfl⟩ := List.mem_map.1 hy
  have h1 := hl c hc
  unfold LightC at h1
  have := write_len (x := c) (by omega) (by omega)
  omega
/-- What the document's Commit asks is there. -/
theorem Runs.rfair (h : Runs w0 w ps pb x S L gs cs q m n P) {w1 : World} {x1 : Sk} {S1 : St} (hd : Docs w1 x1 S1 gs P M s tv lv) (hh : Has S1 L.half gs) (hq : q < 2000) (hm : m ≤ 360) {l : List Chg} (hl : ∀ c ∈ l, LightC c) (hll : l.length ≤ 12) : RFair M L.half q s gs.flatten P (madeL l) := by
  have hb : (madeL l).length ≤ 12 := by have := madeL_length l; omega
  have hlt : ∀ c ∈ madeL l, LightC c := fun c hc => madeL_light hl hc
  have hf := h.inv.fair hq hm (good_madeL l) hlt hb
  obtain ⟨n1, n2, n3, n4, n5, n6⟩ := hd.nums hh
  have hfew := h.inv.few
  have hdl := done_length P (madeL l)
  refine ⟨hf.rise, by omega, hb, hf.fine, hf.small, pay_small hlt hb, hf.fined, hf.smalld, fun hu => ?_, hf.used, n2, n3, n4, n5, n6⟩
  have := pay_used (done P (madeL l)) fun p hp => by
    have := h.inv.sizes hq hlt hp
    exact ⟨this.1, this.2.1⟩
  omega
/-- Opened anew, both go on. -/
theorem Runs.opened (h : Runs w0 w ps pb x S L gs cs q m n P) {t : Sk} (hst : Store w' t S ⟨L.half, (framesS gs).length, []⟩ q P) (hd : t.k.d = x.k.d) (hb : Below w.heap.size w w') (ho : ∀ b, ownS t b → own x.k.d b ∨ w.heap.size ≤ b) :
    Runs w0 w' t.ps pb t S ⟨L.half, (framesS gs).length, []⟩ gs cs q m n P ∧ Moves w x w' t :=
  ⟨⟨hst, ⟨h.inv.has, rfl, rfl, h.inv.tells, h.inv.fits, h.inv.usd, h.inv.few, h.inv.ops⟩, h.old.trans (hb.mono h.old.size), by rw [hd]; exact h.low, rfl, by rw [hd]; exact h.pb⟩,
    Fr.of_below hb, fun b e => (ho b e).imp (fun e => .inl (.inl e)) id⟩
theorem AsideT.moves {T : List ByteArray} {u : Value} (h : AsideT w x u T) (hs : Moves w x w' x') : AsideT w' x' u T := by
  refine ⟨reads_fr h.1 hs.fr fun _ b e => (h.2 b e).2, fun b e => ⟨Nat.lt_of_lt_of_le (h.2 b e).1 hs.fr.size, fun o => ?_⟩⟩
  rcases hs.own b o with o | o
  · exact (h.2 b e).2 o
  · have := (h.2 b e).1; omega
theorem Aside.moves {T : List Pr} {u : Value} (h : Aside w x u T) (hs : Moves w x w' x') : Aside w' x' u T := by
  refine ⟨h.1.frame (frB hs.fr) fun b e => (h.2 b e).2, fun b e => ⟨Nat.lt_of_lt_of_le (h.2 b e).1 hs.fr.size, fun o => ?_⟩⟩
  rcases hs.own b o with o | o
  · exact (h.2 b e).2 o
  · have := (h.2 b e).1; omega
theorem Docs.moves (h : Docs w x S gs P M s tv lv) (hs : Moves w x w' x') : Docs w' x' S gs P M s tv lv := ⟨h.mm, h.bs, h.tvR.moves hs, h.lvR.moves hs⟩
theorem Docs.filled (h : Docs w x S gs P M s tv lv) (b : Bool) : Docs w x (fillS S b) gs P M s tv lv := ⟨h.mm, h.bs, h.tvR, h.lvR⟩
end
end Go.Proofs.YtghpohiinnallaaGreatDoor.Kv

/-
  The boxes of a law's act beside both stores.
-/
namespace Go.Proofs.YtghpohiinnallaaGreatDoor.Kv
open Go Go.RowKit
open Go.Proofs.YtghpohiinnallaaGreatDoor.Disk (St Dk Is own Fr Lies fillS new_at)
open Go.Proofs.YtghpohiinnallaaGreatDoor.Wal (Wl Wk Log ownW Grp Has Kin framesS payS newG sec fill6)
open Go.Proofs.YtghpohiinnallaaGreatDoor.Batch (less Rising at? Chg ptr Mem Bt Fine LightC madeL ReadsC)
open Go.Proofs.YtghpohiinnallaaGreatDoor.Nets (Tab Reads Small bl)

/-- A row as the document's store has it. -/
def RsRow (w : World) (b : Nat) : Prop := ∃ (n h : Int) (s : ByteArray) (ta : Option Addr) (tn tc : Nat) (f : Bool) (q : Int) (la : Option Addr) (ln lc : Nat), Lies w b (rsC n h s (.slice ta tn tc) (.slice none 0 0) f q (.slice la ln lc)) r11T
section
variable {w w' : World} {b : Nat} {v : Value} {P : List Pr}
theorem reads_off (h : ReadsP w v P) (hL : RsRow w b) (hP : P ≠ []) : v.ownBlock ≠ some b := by
  obtain ⟨n, hh, s, ta, tn, tc, f, q, la, ln, lc, hL⟩ := hL
  rcases h with ⟨_, h⟩ | ⟨b', off, cap, rfl, h1, h2, h3, h4⟩
  · exact absurd h hP
  · intro e
    obtain rfl : b' = b := by simpa [Value.ownBlock] using e
    obtain ⟨p, hp⟩ : ∃ p, P[0]? = some p := ⟨P[0]'(List.length_pos_iff.2 hP), List.getElem?_eq_getElem _⟩
    obtain ⟨c0, c1⟩ := two (h4 0 p hp)
    rw [hL.cell] at c0 c1
    have e0 : off + 0 * 2 = off := by omega
    rw [e0] at c0 c1
    match off, c0, c1 with
    | 0, c0, _ => simp at c0
    | 1, c0, _ => simp at c0
    | 2, _, c1 => simp at c1
    | 3, c0, _ => simp at c0
    | 4, c0, _ => simp at c0
    | 5, c0, _ => simp at c0
    | 6, c0, _ => simp at c0
    | 7, c0, _ => simp at c0
    | k + 8, c0, _ => simp at c0
theorem ReadsP.write (h : ReadsP w v P) (hL : RsRow w b) (hf : Fr (fun k => k = b) w w') : ReadsP w' v P := by
  by_cases hP : P = []
  · subst hP
    rcases h with h | ⟨b', off, cap, rfl, h1, h2, h3, h4⟩
    · exact .inl h
    · exact .inr ⟨b', off, cap, rfl, h1, h2, Nat.lt_of_lt_of_le h3 hf.size, fun i e he => by simp at he⟩
  · exact h.frame (frB hf) fun k hk e => reads_off h hL hP (by rw [hk, e])
end
/-- A list lies where another lay, or it is new; in none of three boxes. -/
def Apart (w : World) (v0 v : Value) : Prop := ∀ k, v.ownBlock = some k → (v0.ownBlock = some k ∧ k < w.heap.size) ∨ w.heap.size + 3 ≤ k
section
variable {w0 w W W' w' : World} {ps pb : Nat} {x x' : Sk} {S S' : St} {L L' : Wl} {gs : List Grp} {cs : List Chg} {q m n M b : Nat} {P P' : List Pr} {s : ByteArray} {tv lv : Value} {ca aa ra : Array Value}
theorem Runs.write (h : Runs w0 w ps pb x S L gs cs q m n P) (hL : RsRow w b) (hb : w0.heap.size ≤ b) (hn : ¬ ownS x b) (hf : Fr (fun k => k = b) w w') : Runs w0 w' ps pb x S L gs cs q m n P :=
  ⟨⟨h.st.log.frame hf (fun k e o => hn (e ▸ .inl o)), h.st.self.same (hf.block _ h.st.self.lt fun e => hn (e ▸ .inr rfl)), h.st.pairs.write hL hf, h.st.low, h.st.nps, h.st.npv⟩, h.inv, h.old.trans (hf.below h.old.size fun k e => by omega), h.low, h.ps, h.pb⟩
theorem Docs.write (h : Docs w x S gs P M s tv lv) (hf : Fr (fun k => k = b) w w') (h1 : tv.ownBlock ≠ some b) (h2 : lv.ownBlock ≠ some b) : Docs w' x S gs P M s tv lv :=
  ⟨h.mm, h.bs, ⟨reads_fr h.tvR.1 hf fun _ k hk e => h1 (by rw [hk, e]), fun k hk => ⟨Nat.lt_of_lt_of_le (h.tvR.2 k hk).1 hf.size, (h.tvR.2 k hk).2⟩⟩,
    h.lvR.1.frame (frB hf) fun k hk e => h2 (by rw [hk, e]), fun k hk => ⟨Nat.lt_of_lt_of_le (h.lvR.2 k hk).1 hf.size, (h.lvR.2 k hk).2⟩⟩
theorem Moves.write (h : Moves w x W x') (hf : Fr (fun k => k = b) W W') (hb : w.heap.size ≤ b) : Moves w x W' x' :=
  ⟨h.fr.trans hf fun i hi e => by omega, h.own⟩
/-- The boxes of an act. -/
structure Bxs (w : World) (ca aa ra : Array Value) (W : World) (x : Sk) : Prop where
  own : Lies W w.heap.size ca r11T
  act : Lies W (w.heap.size + 1) aa akT
  res : Lies W (w.heap.size + 2) ra r11T
  out : ∀ k, w.heap.size ≤ k → k < w.heap.size + 3 → ¬ ownS x k
theorem Bxs.start (h : Store w x S L q P) (ca aa ra : Array Value) : Bxs w ca aa ra (((w.alloc (.cells ca r11T)).alloc (.cells aa akT)).alloc (.cells ra r11T)) x :=
  ⟨((Lies.new w ca r11T).same (Below.heap_alloc _ _ _ (by simp))).same (Below.heap_alloc _ _ _ (by simp; omega)), (show Lies ((w.alloc (.cells ca r11T)).alloc (.cells aa akT)) (w.heap.size + 1) aa akT from new_at (by simp)).same (Below.heap_alloc _ _ _ (by simp)), new_at (by simp), fun k h1 _ o => by have := (h.own_lt o).1; omega⟩
theorem Bxs.size (h : Bxs w ca aa ra W x) : w.heap.size + 3 ≤ W.heap.size := h.res.lt
theorem Bxs.below (h : Bxs w ca aa ra W x) (hb : Below W.heap.size W W') : Bxs w ca aa ra W' x :=
  ⟨h.own.same (hb.block _ h.own.lt), h.act.same (hb.block _ h.act.lt), h.res.same (hb.block _ h.res.lt), h.out⟩
theorem Bxs.moves (h : Bxs w ca aa ra W x) (hm : Moves W x W' x') : Bxs w ca aa ra W' x' := by
  have hz := h.size
  refine ⟨h.own.same (hm.fr.block _ h.own.lt (h.out _ (by omega) (by omega))), h.act.same (hm.fr.block _ h.act.lt (h.out _ (by omega) (by omega))), h.res.same (hm.fr.block _ h.res.lt (h.out _ (by omega) (by omega))), fun k h1 h2 o => ?_⟩
  rcases hm.own k o with o | o
  · exact h.out k h1 h2 o
  · omega
theorem Bxs.put (h : Bxs w ca aa ra W x) (hf : Fr (fun k => k = w.heap.size) W W') {ca' : Array Value} (hl : Lies W' w.heap.size ca' r11T) : Bxs w ca' aa ra W' x :=
  ⟨hl, h.act.same (hf.block _ h.act.lt (by omega)), h.res.same (hf.block _ h.res.lt (by omega)), h.out⟩
/-- What an act leaves. -/
def DoesPost (w0 w : World) (pb : Nat) (x : Sk) (q m n M : Nat) (tv lv : Value) (e : Ending) (w' : World) : Prop :=
  ∃ ps' x' S' L' gs' cs' P' s' tv' lv', e = .returned (.tuple #[ptr ps', .agg (rsC M L'.half s' tv' (.slice none 0 0) S'.full q lv')]) ∧ Runs w0 w' ps' pb x' S' L' gs' cs' q (m + 12) (n + 168) P' ∧ Docs w' x' S' gs' P' M s' tv' lv' ∧ S'.left = 0 ∧ Moves w x w' x' ∧ Apart w tv tv' ∧ Apart w lv lv'
theorem results_tc {Pg : Program} {fn : Func} {p u : Tmp} {ty : TypeId} (h : fn.results = #[.tmp u, .cell p ty]) (tmps : Array Value) (w : World) (g : Nat) (t : TypeId) (cs : Array Value) (fr : Nat × Nat) (d : TypeDesc)
    (hp : tmps.getD p undef = .pointer (some ⟨g, 0, none⟩)) (hg : w.heap[g]? = some (.cells cs t fr))
    (hu : Pg.underlying ty = some d) (hd : (match d with | .struct _ | .array _ _ => true | _ => false) = true) (hi : (Pg.info? ty).map (·.size) = some cs.size) :
    (results fn tmps).run Pg w = .ok (.tuple #[tmps.getD u undef, .agg cs]) w := by
  have hp' : tmps[p]?.getD undef = .pointer (some ⟨g, 0, none⟩) := by simpa using hp
  simp [results, h, hp', asAddr, run_loadVar_row w g t ty cs fr d hg hu hd hi]
/-- Behind the last store. -/
theorem does_close {ta : Option Addr} {tn tc : Nat} {la : Option Addr} {ln lc : Nat} (hB : Bxs w (rsC M L'.half s (.slice ta tn tc) (.slice none 0 0) S'.full q (.slice la ln lc)) aa rs0 W x') (hR : Runs w0 W ps pb x' S' L' gs cs q m n P) (hD : Docs W x' S' gs P M s (.slice ta tn tc) (.slice la ln lc)) {u1 u2 : Value} (h1 : Apart w u1 (.slice ta tn tc)) (h2 : Apart w u2 (.slice la ln lc)) (hM : Moves w x W x') (hw : w0.heap.size ≤ w.heap.size) :
    Lies (fill8 W (w.heap.size + 1 + 1) (.int .i64 M) (.int .i64 L'.half) (.string s) (.slice ta tn tc) (.slice none 0 0) (.bool S'.full) (.int .i64 q) (.slice la ln lc)).drew (w.heap.size + 1 + 1) (rsC M L'.half s (.slice ta tn tc) (.slice none 0 0) S'.full q (.slice la ln lc)) r11T ∧
      Runs w0 (fill8 W (w.heap.size + 1 + 1) (.int .i64 M) (.int .i64 L'.half) (.string s) (.slice ta tn tc) (.slice none 0 0) (.bool S'.full) (.int .i64 q) (.slice la ln lc)).drew ps pb x' S' L' gs cs q m n P ∧
      Docs (fill8 W (w.heap.size + 1 + 1) (.int .i64 M) (.int .i64 L'.half) (.string s) (.slice ta tn tc) (.slice none 0 0) (.bool S'.full) (.int .i64 q) (.slice la ln lc)).drew x' S' gs P M s (.slice ta tn tc) (.slice la ln lc) ∧
      Moves w x (fill8 W (w.heap.size + 1 + 1) (.int .i64 M) (.int .i64 L'.half) (.string s) (.slice ta tn tc) (.slice none 0 0) (.bool S'.full) (.int .i64 q) (.slice la ln lc)).drew x' := by
  obtain ⟨b2, hb2⟩ : ∃ b2, b2 = w.heap.size + 1 + 1 := ⟨_, rfl⟩
  rw [← hb2]
  have hres : Lies W b2 rs0 r11T := by rw [hb2]; exact hB.res
  have hout : ¬ ownS x' b2 := hB.out _ (by omega) (by omega)
  have ht : (Value.slice ta tn tc).ownBlock ≠ some b2 := fun e => by have := h1 _ e; omega
  have hl : (Value.slice la ln lc).ownBlock ≠ some b2 := fun e => by have := h2 _ e; omega
  have hf := fr_fill8 W b2 (.int .i64 M) (.int .i64 L'.half) (.string s) (.slice ta tn tc) (.slice none 0 0) (.bool S'.full) (.int .i64 q) (.slice la ln lc)
  have hli := lies_fill8 hres (.int .i64 M) (.int .i64 L'.half) (.string s) (.slice ta tn tc) (.slice none 0 0) (.bool S'.full) (.int .i64 q) (.slice la ln lc)
  have hru := hR.write (b := b2) ⟨0, 0, ⟨#[]⟩, none, 0, 0, false, 0, none, 0, 0, hres⟩ (by omega) hout hf
  have hdo := hD.write hf ht hl
  have hmo := hM.write hf (by omega)
  generalize fill8 W b2 (.int .i64 M) (.int .i64 L'.half) (.string s) (.slice ta tn tc) (.slice none 0 0) (.bool S'.full) (.int .i64 q) (.slice la ln lc) = Wf at *
  have hdr : Below Wf.heap.size Wf Wf.drew := (Below.refl _ _).drew
  exact ⟨hli, hru.below hdr, hdo.below hdr, hmo.trans (Moves.below x' hdr)⟩
/-- The box of the document's store, written. -/
theorem does_put {ta : Option Addr} {tn tc : Nat} {la : Option Addr} {ln lc : Nat} {n0 h0 q0 : Int} {s0 : ByteArray} {t0 : Option Addr} {tn0 tc0 : Nat} {f0 : Bool} {l0 : Option Addr} {ln0 lc0 : Nat} (hB : Bxs w (rsC n0 h0 s0 (.slice t0 tn0 tc0) (.slice none 0 0) f0 q0 (.slice l0 ln0 lc0)) aa rs0 W x') (hR : Runs w0 W ps pb x' S' L' gs cs q m n P) (hD : Docs W x' S' gs P M s (.slice ta tn tc) (.slice la ln lc)) {u1 u2 : Value} (h1 : Apart w u1 (.slice ta tn tc)) (h2 : Apart w u2 (.slice la ln lc)) (hM : Moves w x W x') (hw : w0.heap.size ≤ w.heap.size) :
    Bxs w (rsC M L'.half s (.slice ta tn tc) (.slice none 0 0) S'.full q (.slice la ln lc)) aa rs0 (fill8 W w.heap.size (.int .i64 M) (.int .i64 L'.half) (.string s) (.slice ta tn tc) (.slice none 0 0) (.bool S'.full) (.int .i64 q) (.slice la ln lc)) x' ∧
      Runs w0 (fill8 W w.heap.size (.int .i64 M) (.int .i64 L'.half) (.string s) (.slice ta tn tc) (.slice none 0 0) (.bool S'.full) (.int .i64 q) (.slice la ln lc)) ps pb x' S' L' gs cs q m n P ∧
      Docs (fill8 W w.heap.size (.int .i64 M) (.int .i64 L'.half) (.string s) (.slice ta tn tc) (.slice none 0 0) (.bool S'.full) (.int .i64 q) (.slice la ln lc)) x' S' gs P M s (.slice ta tn tc) (.slice la ln lc) ∧
      Moves w x (fill8 W w.heap.size (.int .i64 M) (.int .i64 L'.half) (.string s) (.slice ta tn tc) (.slice none 0 0) (.bool S'.full) (.int .i64 q) (.slice la ln lc)) x' := by
  have hf := fr_fill8 W w.heap.size (.int .i64 M) (.int .i64 L'.half) (.string s) (.slice ta tn tc) (.slice none 0 0) (.bool S'.full) (.int .i64 q) (.slice la ln lc)
  exact ⟨hB.put hf (lies_fill8 hB.own _ _ _ _ _ _ _ _), hR.write (b := w.heap.size) ⟨_, _, _, _, _, _, _, _, _, _, _, hB.own⟩ hw (hB.out _ (by omega) (by omega)) hf,
    hD.write hf (fun e => by have := h1 _ e; omega) (fun e => by have := h2 _ e; omega), hM.write hf (by omega)⟩
end
end Go.Proofs.YtghpohiinnallaaGreatDoor.Kv

/-
  Walk of a law's act, done to both stores.
-/
namespace Go.Proofs.YtghpohiinnallaaGreatDoor.Kv
open Go Go.RowKit
open Go.Proofs.YtghpohiinnallaaGreatDoor.Disk (St Dk Is own Fr Lies fillS new_at)
open Go.Proofs.YtghpohiinnallaaGreatDoor.Wal (Wl Wk Log ownW Grp Has Kin framesS payS newG sec fill6)
open Go.Proofs.YtghpohiinnallaaGreatDoor.Batch (less Rising at? Chg ptr Mem Bt Fine LightC madeL ReadsC)
open Go.Proofs.YtghpohiinnallaaGreatDoor.Nets (Tab Reads Small bl)

theorem Became.apart {w w1 w2 : World} {h h2 k : Nat} {s s2 : ByteArray} {tv lv tv2 lv2 : Value} {T l : List ByteArray} {Q : List Pr} (hb : Became w1 h s tv lv T l Q w2 h2 s2 tv2 lv2 k) {t0 l0 : Value} (h1 : Apart w t0 tv) (h3 : Apart w l0 lv) (hs : w.heap.size + 3 ≤ w1.heap.size) : Apart w t0 tv2 ∧ Apart w l0 lv2 := by
  have hnew : ∀ {v0 v : Value}, New w1 w2 v → Apart w v0 v := fun hn j hj => .inr (by have := (hn j hj).1; omega)
  have hheir : ∀ {v : Value}, Heir w1 w2 lv v → Apart w l0 v := fun hn j hj => by
    rcases (hn j hj).1 with h4 | h4
    · exact h3 j h4
    · exact .inr (by omega)
  cases hb with
  | same _ _ hv hl => subst hv hl; exact ⟨h1, h3⟩
  | more _ _ _ hn _ ho => exact ⟨hnew hn, hheir ho⟩
  | anew _ _ _ hn _ ho => exact ⟨hnew hn, hheir ho⟩
theorem BecameC.apart {w w1 w2 : World} {h h2 k : Nat} {s s2 : ByteArray} {tv tv2 : Value} {Q : List Pr} (hb : BecameC w1 h s tv Q w2 h2 s2 tv2 k) {t0 : Value} (h1 : Apart w t0 tv) (hs : w.heap.size + 3 ≤ w1.heap.size) : Apart w t0 tv2 := by
  cases hb with
  | same _ _ hv => subst hv; exact h1
  | anew _ _ _ hn => exact fun j hj => .inr (by have := (hn j hj).1; omega)
set_option maxRecDepth 100000 in
set_option maxHeartbeats 40000000 in
theorem does_any {w0 w : World} {ps pb : Nat} {x : Sk} {S : St} {L : Wl} {gs : List Grp} {cs : List Chg} {q m n M : Nat} {P : List Pr} {s : ByteArray} {tv lv : Value} (h : Runs w0 w ps pb x S L gs cs q m n P) (hd : Docs w x S gs P M s tv lv) (hlf : S.left = 0) (hq : q < 2000) (hm : m ≤ 360) (hn : n ≤ 900000) (ht : Tab w0)
    (kd : Int) (av : Value) (ls : List Chg) (is : Bool) (hoe : OkA w ⟨kd, av, ls, is⟩) (hla : LightA ⟨kd, av, ls, is⟩) :
    Calls Tryz.prog 10 #[ptr ps, ptr pb, .agg (rsC M L.half s tv (.slice none 0 0) S.full q lv), .agg #[.int .i64 kd, av, .bool is]] w (DoesPost w0 w pb x q m n M tv lv) := by
  obtain ⟨ta, tn, tc, rfl⟩ : ∃ a n c, tv = .slice a n c := by
    obtain ⟨a, c, h⟩ := hd.tvR.1.form
    exact ⟨a, _, c, h⟩
  obtain ⟨la, ln, lc, rfl⟩ : ∃ a n c, lv = .slice a n c := by
    obtain ⟨a, c, h⟩ := hd.lvR.1.shape
    exact ⟨a, _, c, h⟩
  obtain ⟨aa, an, ac, rfl⟩ : ∃ a n c, av = .slice a n c := by
    obtain ⟨a, c, h⟩ := Batch.reads_form hoe.reads
    exact ⟨a, _, c, h⟩
  have hB := Bxs.start h.st (rsC M L.half s (.slice ta tn tc) (.slice none 0 0) S.full q (.slice la ln lc)) #[.int .i64 kd, .slice aa an ac, .bool is] rs0
  have hb0 : Below w.heap.size w (((w.alloc (.cells (rsC M L.half s (.slice ta tn tc) (.slice none 0 0) S.full q (.slice la ln lc)) r11T)).alloc (.cells #[.int .i64 kd, .slice aa an ac, .bool is] akT)).alloc (.cells rs0 r11T)) := (((Below.refl _ _).alloc (Nat.le_refl _) _).alloc (by simp) _).alloc (by simp; omega) _
  obtain ⟨W0, hW0⟩ : ∃ W, W = (((w.alloc (.cells (rsC M L.half s (.slice ta tn tc) (.slice none 0 0) S.full q (.slice la ln lc)) r11T)).alloc (.cells #[.int .i64 kd, .slice aa an ac, .bool is] akT)).alloc (.cells rs0 r11T)) := ⟨_, rfl⟩
  rw [← hW0] at hB hb0
  have hap : Apart w (.slice ta tn tc) (.slice ta tn tc) ∧ Apart w (.slice la ln lc) (.slice la ln lc) := ⟨fun k hk => .inl ⟨hk, (hd.tvR.2 k hk).1⟩, fun k hk => .inl ⟨hk, (hd.lvR.2 k hk).1⟩⟩
  have HR := Lib.hid (And.intro (h.below hb0) (And.intro (hd.below hb0) (And.intro hB (And.intro hap (Moves.below x hb0)))))
  have HO := Lib.hid (And.intro (hoe.below hb0) (And.intro hla (And.intro hlf (And.intro ht (And.intro h.old.size hb0)))))
  clear h hd hB hap hoe hla hlf ht hb0
  rcases (show kd = 0 ∨ kd = 1 ∨ kd = 2 ∨ (kd ≠ 0 ∧ kd ≠ 1 ∧ kd ≠ 2) by omega) with hkd | hkd | hkd | ⟨hk0, hk1, hk2⟩
  · subst hkd
    have HNW := Lib.hid (Batch.new_any W0)
    go_enter Tryz.func10, Tryz.ntmps10
    go_wp2_with fail
    rw [← hW0]
    clear hW0
    refine HNW.out.mono ?_
    rintro e w1 ⟨d, rfl, hdp, hdB, hmem, hb1⟩
    have hB1 := HR.out.2.2.1.below hb1
    have a1 : w1.cell? ⟨w.heap.size + 1, 1, none⟩ = some (.slice aa an ac) := hB1.act.cell 1
    have HMK := Lib.hid (Batch.make_any hmem (hdB ▸ Nat.le_refl _) hb1 (.slice aa an ac) ls HO.out.1.reads HO.out.1.each (by have := HO.out.2.1.2; simp at this; omega))
    have H1 := Lib.hid (And.intro hmem (And.intro hdB (And.intro hb1 hB1)))
    clear hdp hdB hmem hb1 HNW hB1
    go_wp2_with fail
    refine HMK.out.mono ?_
    rintro e w2 ⟨ov, d2, rfl, hro, hbe, hm2, hs2⟩
    obtain ⟨oa, oc, rfl⟩ := Batch.reads_form hro
    have hb2 : Below W0.heap.size w1 w2 := hs2.below H1.out.1 (Nat.le_of_eq H1.out.2.1.symm)
    have hb02 : Below W0.heap.size W0 w2 := H1.out.2.2.1.trans hb2
    have hB2 := HR.out.2.2.1.below hb02
    have hdB2 : d2.B = W0.heap.size := by rw [hs2.B]; exact H1.out.2.1
    have hpb2 : d2.pb = d.pb := hs2.pb
    have hcm := (HR.out.1.below hb02).commit2 hq hm hn HO.out.2.2.2.1 hm2 HO.out.2.1.1.2 HO.out.2.1.2 HO.out.2.2.1
    rw [hpb2] at hcm
    have HCM := Lib.hid hcm
    have H2 := Lib.hid (And.intro hro (And.intro hm2 (And.intro hdB2 (And.intro hpb2 (And.intro hb02 (And.intro hB2 hbe))))))
    clear hro hbe hm2 hs2 hb2 hb02 hB2 hdB2 hpb2 hcm HMK H1 a1
    go_wp2_with fail
    refine HCM.out.mono ?_
    rintro e w3 ⟨S', L', c, x', P', gs', cs', k, rfl, hR3, htu, hco, hki, hs3⟩
    have hmv := Moves.of hs3
    have hB3 := H2.out.2.2.2.2.2.1.moves hmv
    have hD3 := ((HR.out.2.1.below H2.out.2.2.2.2.1).step hs3 hki)
    have hM3 := (HR.out.2.2.2.2.trans (Moves.below x H2.out.2.2.2.2.1)).trans hmv
    have hnod : ∀ b, ownS x b → b < W0.heap.size := fun b hb => (HR.out.1.st.own_lt hb).1
    have hro3 : ReadsC w3 (.slice oa (madeL ls).length oc) (madeL ls) := H2.out.1.frame (frB hs3.fr) fun b hb ho => by
      have h1 := (H2.out.2.2.2.2.2.2 b hb).2.2
      have h2 := hnod b ho
      have h3 := H2.out.2.2.1
      omega
    have hm3 : Mem w3 d2 (madeL ls) := H2.out.2.1.frame (frB hs3.fr) fun b hb hd => by
      have h1 := (H2.out.2.1.own_lt hd).2
      have h2 := hnod b hb
      have h3 := H2.out.2.2.1
      omega
    obtain ⟨x0, x1, x2, x3, x4, x5, x6, x7⟩ := eight hB3.own
    have xf := fun j => hB3.own.free j
    have HLL : Hid (P = P) := Lib.hid rfl
    have HRC := Lib.hid (refCommit_any M L.half q s (.slice ta tn tc) (.slice la ln lc) (.slice oa (madeL ls).length oc) S.full gs.flatten P (madeL ls) w3 hD3.tvR.1 hD3.lvR.1 hro3 (HR.out.1.rfair HR.out.2.1 HR.out.1.inv.has hq hm HO.out.2.1.1.2 HO.out.2.1.2))
    have H3 := Lib.hid (And.intro hR3 (And.intro hD3 (And.intro hB3 (And.intro hM3 (And.intro hm3 (And.intro htu (And.intro hco hki)))))))
    clear hR3 htu hco hki hs3 hmv hB3 hD3 hM3 hnod hro3 hm3 HCM
    go_wp2_with fail
    refine HRC.out.mono ?_
    rintro e w4 ⟨h', s', tv', lv', c', k', rfl, hco', hbc, hb4⟩
    obtain ⟨hc1, hk1⟩ := hco'.det (by rw [HR.out.2.1.nums HR.out.1.inv.has |>.1, HR.out.2.1.mm]; exact H3.out.2.2.2.2.2.2.1)
    subst hc1 hk1
    obtain ⟨hh1, hD4⟩ := H3.out.2.1.turned H3.out.1.st H3.out.2.2.2.2.2.1 hbc hb4
    subst hh1
    have hap4 := hbc.apart HR.out.2.2.2.1.1 HR.out.2.2.2.1.2 H3.out.2.2.1.size
    obtain ⟨ta', tn', tc', rfl⟩ : ∃ a n c, tv' = .slice a n c := by
      obtain ⟨a, c, h⟩ := hD4.tvR.1.form
      exact ⟨a, _, c, h⟩
    obtain ⟨la', ln', lc', rfl⟩ : ∃ a n c, lv' = .slice a n c := by
      obtain ⟨a, c, h⟩ := hD4.lvR.1.shape
      exact ⟨a, _, c, h⟩
    have hB4 := H3.out.2.2.1.below hb4
    have hfl : S'.full = S.full := H3.out.2.2.2.2.2.2.2.full
    have hput := does_put hB4 (H3.out.1.below hb4) hD4 hap4.1 hap4.2 (H3.out.2.2.2.1.trans (Moves.below x' hb4)) HO.out.2.2.2.2.1
    rw [hfl] at hput
    have hm5 := (H3.out.2.2.2.2.1.below hb4).frame (frB (fr_fill8 w4 w.heap.size (.int .i64 M) (.int .i64 L'.half) (.string s') (.slice ta' tn' tc') (.slice none 0 0) (.bool S.full) (.int .i64 q) (.slice la' ln' lc'))) fun b hb hd => by
      have h1 := (H3.out.2.2.2.2.1.own_lt hd).2
      have h2 := HR.out.2.2.1.size
      have h3 := H2.out.2.2.1
      omega
    have hln := Batch.len_any hm5
    rw [H2.out.2.2.2.1] at hln
    have HLN := Lib.hid hln
    obtain ⟨x0, x1, x2, x3, x4, x5, x6, x7⟩ := eight hB4.own
    have xf := fun j => hB4.own.free j
    have H4 := Lib.hid (And.intro hput (And.intro hap4 (And.intro hfl (H3.out.2.2.2.2.2.2.2.left HO.out.2.2.1))))
    clear hco' hbc hb4 hD4 hap4 hB4 hput hm5 hln hfl
    go_wp2_with fail
    obtain ⟨W5, hW5⟩ : ∃ W, W = (((((((w4.setCell ⟨w.heap.size, 0, none⟩ (.int .i64 M)).setCell ⟨w.heap.size, 1, none⟩ (.int .i64 L'.half)).setCell ⟨w.heap.size, 2, none⟩ (.string s')).setCell ⟨w.heap.size, 3, none⟩ (.slice ta' tn' tc')).setCell ⟨w.heap.size, 4, none⟩ (.slice none 0 0)).setCell ⟨w.heap.size, 5, none⟩ (.bool S.full)).setCell ⟨w.heap.size, 6, none⟩ (.int .i64 q)).setCell ⟨w.heap.size, 7, none⟩ (.slice la' ln' lc') := ⟨_, rfl⟩
    have hW6 : fill8 w4 w.heap.size (.int .i64 M) (.int .i64 L'.half) (.string s') (.slice ta' tn' tc') (.slice none 0 0) (.bool S.full) (.int .i64 q) (.slice la' ln' lc') = W5 := hW5.symm
    rw [← hW5]
    rw [hW6] at H4 HLN
    clear hW5 hW6 x0 x1 x2 x3 x4 x5 x6 x7 xf
    obtain ⟨⟨hB5, hR5, hD5, hM5⟩, hap5, hfl, hlf5⟩ := H4.out
    obtain ⟨x0, x1, x2, x3, x4, x5, x6, x7⟩ := eight hB5.own
    obtain ⟨z0, z1, z2, z3, z4, z5, z6, z7⟩ := eight hB5.res
    have zf := fun j => hB5.res.free j
    have hcl := does_close (S' := S') (by rw [hfl]; exact hB5) hR5 hD5 hap5.1 hap5.2 hM5 HO.out.2.2.2.2.1
    rw [hfl] at hcl
    have hnn : (((madeL ls).length : Int) != ((madeL ls).length : Int)) = false := by simp
    have hcc : (c' != c') = false := by simp
    have HCL := Lib.hid (And.intro hcl (And.intro hfl (And.intro hlf5 hap5)))
    clear hB5 hR5 hD5 hM5 hap5 hcl hfl hlf5 H4
    refine HLN.out.mono ?_
    rintro e w5 ⟨rfl, rfl⟩
    go_wp2_with fail
    go_region
    obtain ⟨W7, hW7⟩ : ∃ W, W = ((((((((W5.setCell ⟨w.heap.size + 1 + 1, 0, none⟩ (.int .i64 M)).setCell ⟨w.heap.size + 1 + 1, 1, none⟩ (.int .i64 L'.half)).setCell ⟨w.heap.size + 1 + 1, 2, none⟩ (.string s')).setCell ⟨w.heap.size + 1 + 1, 3, none⟩ (.slice ta' tn' tc')).setCell ⟨w.heap.size + 1 + 1, 4, none⟩ (.slice none 0 0)).setCell ⟨w.heap.size + 1 + 1, 5, none⟩ (.bool S.full)).setCell ⟨w.heap.size + 1 + 1, 6, none⟩ (.int .i64 q)).setCell ⟨w.heap.size + 1 + 1, 7, none⟩ (.slice la' ln' lc')).drew := ⟨_, rfl⟩
    have hW8 : (fill8 W5 (w.heap.size + 1 + 1) (.int .i64 M) (.int .i64 L'.half) (.string s') (.slice ta' tn' tc') (.slice none 0 0) (.bool S.full) (.int .i64 q) (.slice la' ln' lc')).drew = W7 := hW7.symm
    rw [← hW7]
    rw [hW8] at HCL
    clear hW7 hW8 x0 x1 x2 x3 x4 x5 x6 x7 z0 z1 z2 z3 z4 z5 z6 z7 zf
    go_wp2_with fail
    exact bodyPost_ret (v := .tuple #[ptr ps, .agg (rsC M L'.half s' (.slice ta' tn' tc') (.slice none 0 0) S.full q (.slice la' ln' lc'))]) (results_tc Tryz.results10 _ _ (w.heap.size + 1 + 1) r11T _ (0, 0) _ rfl HCL.out.1.1 Tryz.underlying33 rfl size8) rfl ⟨ps, x', S', L', gs', cs', P', s', _, _, by rw [HCL.out.2.1], HCL.out.1.2.1, HCL.out.1.2.2.1, HCL.out.2.2.1, HCL.out.1.2.2.2, HCL.out.2.2.2.1, HCL.out.2.2.2.2⟩
  · subst hkd
    have hcm := HR.out.1.compact2 hq hm hn HO.out.2.2.2.1 HO.out.2.2.1
    have HCM := Lib.hid hcm
    clear hcm
    go_enter Tryz.func10, Tryz.ntmps10
    go_wp2_with fail
    rw [← hW0]
    clear hW0
    refine HCM.out.mono ?_
    rintro e w3 ⟨S', L', c, x', gs', cs', k, rfl, hR3, htu, hco, hki, hs3⟩
    have hmv := Moves.of hs3
    have hB3 := HR.out.2.2.1.moves hmv
    have hD3 := HR.out.2.1.step hs3 hki
    have hM3 := HR.out.2.2.2.2.trans hmv
    obtain ⟨x0, x1, x2, x3, x4, x5, x6, x7⟩ := eight hB3.own
    have xf := fun j => hB3.own.free j
    obtain ⟨n1, n2, n3, n4, n5, n6⟩ := HR.out.2.1.nums HR.out.1.inv.has
    obtain ⟨f1, f2, f3, f4⟩ := HR.out.1.inv.fairP hq (by omega)
    have hpu : (payS (ptexts P)).length ≤ 100000 := by
      have := pay_used P fun p hp => by
        have := used_le hp
        have := HR.out.1.inv.usd
        exact ⟨by omega, by omega⟩
      have := HR.out.1.inv.usd
      have := HR.out.1.inv.few
      omega
    have HRC := Lib.hid (refCompact_any M L.half q s (.slice ta tn tc) (.slice la ln lc) S.full gs.flatten P w3 hD3.tvR.1 hD3.lvR.1 f1 f2 f3 hpu n2 n3 n4 n5)
    have H3 := Lib.hid (And.intro hR3 (And.intro hD3 (And.intro hB3 (And.intro hM3 (And.intro htu (And.intro hco hki))))))
    clear hR3 htu hco hki hs3 hmv hB3 hD3 hM3 HCM n1 n2 n3 n4 n5 n6 f1 f2 f3 f4 hpu
    go_wp2_with fail
    refine HRC.out.mono ?_
    rintro e w4 ⟨h', s', tv', c', k', rfl, hco', hbc, hb4⟩
    obtain ⟨hc1, hk1⟩ := hco'.det (by rw [HR.out.2.1.mm]; exact H3.out.2.2.2.2.2.1)
    subst hc1 hk1
    obtain ⟨hh1, hD4⟩ := H3.out.2.1.turnedC H3.out.1.st H3.out.2.2.2.2.1 hbc hb4
    subst hh1
    have hap4 : Apart w (.slice ta tn tc) tv' ∧ Apart w (.slice la ln lc) (.slice la ln lc) := ⟨hbc.apart HR.out.2.2.2.1.1 H3.out.2.2.1.size, HR.out.2.2.2.1.2⟩
    obtain ⟨ta', tn', tc', rfl⟩ : ∃ a n c, tv' = .slice a n c := by
      obtain ⟨a, c, h⟩ := hD4.tvR.1.form
      exact ⟨a, _, c, h⟩
    have hB4 := H3.out.2.2.1.below hb4
    have hfl : S'.full = S.full := H3.out.2.2.2.2.2.2.full
    have hput := does_put hB4 (H3.out.1.below hb4) hD4 hap4.1 hap4.2 (H3.out.2.2.2.1.trans (Moves.below x' hb4)) HO.out.2.2.2.2.1
    rw [hfl] at hput
    obtain ⟨x0, x1, x2, x3, x4, x5, x6, x7⟩ := eight hB4.own
    have xf := fun j => hB4.own.free j
    have H4 := Lib.hid (And.intro hput (And.intro hap4 (And.intro hfl (H3.out.2.2.2.2.2.2.left HO.out.2.2.1))))
    have hcc : (c' != c') = false := by simp
    clear hco' hbc hb4 hD4 hap4 hB4 hput hfl
    go_wp2_with fail
    obtain ⟨W5, hW5⟩ : ∃ W, W = (((((((w4.setCell ⟨w.heap.size, 0, none⟩ (.int .i64 M)).setCell ⟨w.heap.size, 1, none⟩ (.int .i64 L'.half)).setCell ⟨w.heap.size, 2, none⟩ (.string s')).setCell ⟨w.heap.size, 3, none⟩ (.slice ta' tn' tc')).setCell ⟨w.heap.size, 4, none⟩ (.slice none 0 0)).setCell ⟨w.heap.size, 5, none⟩ (.bool S.full)).setCell ⟨w.heap.size, 6, none⟩ (.int .i64 q)).setCell ⟨w.heap.size, 7, none⟩ (.slice la ln lc) := ⟨_, rfl⟩
    have hW6 : fill8 w4 w.heap.size (.int .i64 M) (.int .i64 L'.half) (.string s') (.slice ta' tn' tc') (.slice none 0 0) (.bool S.full) (.int .i64 q) (.slice la ln lc) = W5 := hW5.symm
    rw [← hW5]
    rw [hW6] at H4
    clear hW5 hW6 x0 x1 x2 x3 x4 x5 x6 x7 xf
    obtain ⟨⟨hB5, hR5, hD5, hM5⟩, hap5, hfl, hlf5⟩ := H4.out
    have HFL := Lib.hid hfl
    clear H4
    obtain ⟨x0, x1, x2, x3, x4, x5, x6, x7⟩ := eight hB5.own
    obtain ⟨z0, z1, z2, z3, z4, z5, z6, z7⟩ := eight hB5.res
    have zf := fun j => hB5.res.free j
    have hcl := does_close (S' := S') (L' := L') (by rw [hfl]; exact hB5) hR5 hD5 hap5.1 hap5.2 hM5 HO.out.2.2.2.2.1
    rw [hfl] at hcl
    clear hfl
    have HCL := Lib.hid (And.intro hcl (And.intro hlf5 hap5))
    clear hB5 hR5 hD5 hM5 hap5 hcl
    go_region
    obtain ⟨W7, hW7⟩ : ∃ W, W = ((((((((W5.setCell ⟨w.heap.size + 1 + 1, 0, none⟩ (.int .i64 M)).setCell ⟨w.heap.size + 1 + 1, 1, none⟩ (.int .i64 L'.half)).setCell ⟨w.heap.size + 1 + 1, 2, none⟩ (.string s')).setCell ⟨w.heap.size + 1 + 1, 3, none⟩ (.slice ta' tn' tc')).setCell ⟨w.heap.size + 1 + 1, 4, none⟩ (.slice none 0 0)).setCell ⟨w.heap.size + 1 + 1, 5, none⟩ (.bool S.full)).setCell ⟨w.heap.size + 1 + 1, 6, none⟩ (.int .i64 q)).setCell ⟨w.heap.size + 1 + 1, 7, none⟩ (.slice la ln lc)).drew := ⟨_, rfl⟩
    have hW8 : (fill8 W5 (w.heap.size + 1 + 1) (.int .i64 M) (.int .i64 L'.half) (.string s') (.slice ta' tn' tc') (.slice none 0 0) (.bool S.full) (.int .i64 q) (.slice la ln lc)).drew = W7 := hW7.symm
    rw [← hW7]
    rw [hW8] at HCL
    clear hW7 hW8 x0 x1 x2 x3 x4 x5 x6 x7 z0 z1 z2 z3 z4 z5 z6 z7 zf
    go_wp2_with fail
    exact bodyPost_ret (v := .tuple #[ptr ps, .agg (rsC M L'.half s' (.slice ta' tn' tc') (.slice none 0 0) S.full q (.slice la ln lc))]) (results_tc Tryz.results10 _ _ (w.heap.size + 1 + 1) r11T _ (0, 0) _ rfl HCL.out.1.1 Tryz.underlying33 rfl size8) rfl ⟨ps, x', S', L', gs', cs', P, s', _, _, by rw [HFL.out], HCL.out.1.2.1, HCL.out.1.2.2.1, HCL.out.2.1, HCL.out.1.2.2.2, HCL.out.2.2.1, HCL.out.2.2.2⟩
  · subst hkd
    have HFI := Lib.hid (HR.out.1.fill is)
    go_enter Tryz.func10, Tryz.ntmps10
    go_wp2_with fail
    rw [← hW0]
    clear hW0
    refine HFI.out.mono ?_
    rintro e w3 ⟨rfl, x', hR3, hs3⟩
    have hmv := Moves.of hs3
    have hB3 := HR.out.2.2.1.moves hmv
    have hD3 := (HR.out.2.1.moves hmv).filled is
    have hM3 := HR.out.2.2.2.2.trans hmv
    obtain ⟨x0, x1, x2, x3, x4, x5, x6, x7⟩ := eight hB3.own
    have xf := fun j => hB3.own.free j
    have a2 : w3.cell? ⟨w.heap.size + 1, 2, none⟩ = some (.bool is) := hB3.act.cell 2
    have hf := Fr.one w3 w.heap.size 5 (.bool is)
    have hli : Lies (w3.setCell ⟨w.heap.size, 5, none⟩ (.bool is)) w.heap.size (rsC M L.half s (.slice ta tn tc) (.slice none 0 0) is q (.slice la ln lc)) r11T := by simpa using hB3.own.set 5 (.bool is)
    have H3 := Lib.hid (And.intro (hB3.put hf hli) (And.intro ((hR3.write (b := w.heap.size) ⟨_, _, _, _, _, _, _, _, _, _, _, hB3.own⟩ HO.out.2.2.2.2.1 (hB3.out _ (by omega) (by omega)) hf).more (m' := m + 12) (n' := n + 168) (by omega) (by omega)) (And.intro (hD3.write hf (fun e => by have := HR.out.2.2.2.1.1 _ e; omega) (fun e => by have := HR.out.2.2.2.1.2 _ e; omega)) (hM3.write hf (Nat.le_refl _)))))
    clear hR3 hs3 hmv hB3 hD3 hM3 hf hli HFI
    go_wp2_with fail
    generalize w3.setCell ⟨w.heap.size, 5, none⟩ (.bool is) = W5 at *
    clear x0 x1 x2 x3 x4 x5 x6 x7 xf a2
    obtain ⟨hB5, hR5, hD5, hM5⟩ := H3.out
    have hap5 := HR.out.2.2.2.1
    clear H3
    obtain ⟨x0, x1, x2, x3, x4, x5, x6, x7⟩ := eight hB5.own
    obtain ⟨z0, z1, z2, z3, z4, z5, z6, z7⟩ := eight hB5.res
    have zf := fun j => hB5.res.free j
    have hcl := does_close (S' := (fillS S is)) (L' := L) (hB5) hR5 hD5 hap5.1 hap5.2 hM5 HO.out.2.2.2.2.1
    rw [show (fillS S is).full = is from rfl] at hcl
    have HCL := Lib.hid (And.intro hcl (And.intro (show (fillS S is).left = 0 from HO.out.2.2.1) hap5))
    clear hB5 hR5 hD5 hM5 hap5 hcl
    go_region
    obtain ⟨W7, hW7⟩ : ∃ W, W = ((((((((W5.setCell ⟨w.heap.size + 1 + 1, 0, none⟩ (.int .i64 M)).setCell ⟨w.heap.size + 1 + 1, 1, none⟩ (.int .i64 L.half)).setCell ⟨w.heap.size + 1 + 1, 2, none⟩ (.string s)).setCell ⟨w.heap.size + 1 + 1, 3, none⟩ (.slice ta tn tc)).setCell ⟨w.heap.size + 1 + 1, 4, none⟩ (.slice none 0 0)).setCell ⟨w.heap.size + 1 + 1, 5, none⟩ (.bool is)).setCell ⟨w.heap.size + 1 + 1, 6, none⟩ (.int .i64 q)).setCell ⟨w.heap.size + 1 + 1, 7, none⟩ (.slice la ln lc)).drew := ⟨_, rfl⟩
    have hW8 : (fill8 W5 (w.heap.size + 1 + 1) (.int .i64 M) (.int .i64 L.half) (.string s) (.slice ta tn tc) (.slice none 0 0) (.bool is) (.int .i64 q) (.slice la ln lc)).drew = W7 := hW7.symm
    rw [← hW7]
    rw [hW8] at HCL
    clear hW7 hW8 x0 x1 x2 x3 x4 x5 x6 x7 z0 z1 z2 z3 z4 z5 z6 z7 zf
    go_wp2_with fail
    exact bodyPost_ret (v := .tuple #[ptr ps, .agg (rsC M L.half s (.slice ta tn tc) (.slice none 0 0) is q (.slice la ln lc))]) (results_tc Tryz.results10 _ _ (w.heap.size + 1 + 1) r11T _ (0, 0) _ rfl HCL.out.1.1 Tryz.underlying33 rfl size8) rfl ⟨ps, x', (fillS S is), L, gs, cs, P, s, _, _, rfl, HCL.out.1.2.1, HCL.out.1.2.2.1, HCL.out.2.1, HCL.out.1.2.2.2, HCL.out.2.2.1, HCL.out.2.2.2⟩
  · have HQ := Lib.hid HR.out.1.quota
    have b0 : (kd == 0) = false := by simpa using hk0
    have b1 : (kd == 1) = false := by simpa using hk1
    have b2 : (kd == 2) = false := by simpa using hk2
    have HOP := Lib.hid (HR.out.1.open_ hq)
    go_enter Tryz.func10, Tryz.ntmps10
    go_wp2_with fail
    rw [← hW0]
    clear hW0
    refine HQ.out.mono ?_
    rintro e w1 ⟨rfl, rfl⟩
    clear HQ
    go_wp2_with fail
    refine HOP.out.mono ?_
    rintro e W5 ⟨t, rfl, hst, htd, hb5, hown, -⟩
    obtain ⟨hR4, hmv⟩ := HR.out.1.opened hst htd hb5 hown
    have hR5 := hR4.more (m' := m + 12) (n' := n + 168) (by omega) (by omega)
    have hB5 := HR.out.2.2.1.moves hmv
    have hD5 := HR.out.2.1.moves hmv
    have hM5 := HR.out.2.2.2.2.trans hmv
    have hap5 := HR.out.2.2.2.1
    clear hst htd hb5 hown hR4 hmv HOP b0 b1 b2
    go_wp2_with fail
    obtain ⟨x0, x1, x2, x3, x4, x5, x6, x7⟩ := eight hB5.own
    obtain ⟨z0, z1, z2, z3, z4, z5, z6, z7⟩ := eight hB5.res
    have zf := fun j => hB5.res.free j
    have hcl := does_close (S' := S) (L' := ⟨L.half, (framesS gs).length, []⟩) (hB5) hR5 hD5 hap5.1 hap5.2 hM5 HO.out.2.2.2.2.1
    have HCL := Lib.hid (And.intro hcl (And.intro HO.out.2.2.1 hap5))
    clear hB5 hR5 hD5 hM5 hap5 hcl
    go_region
    obtain ⟨W7, hW7⟩ : ∃ W, W = ((((((((W5.setCell ⟨w.heap.size + 1 + 1, 0, none⟩ (.int .i64 M)).setCell ⟨w.heap.size + 1 + 1, 1, none⟩ (.int .i64 L.half)).setCell ⟨w.heap.size + 1 + 1, 2, none⟩ (.string s)).setCell ⟨w.heap.size + 1 + 1, 3, none⟩ (.slice ta tn tc)).setCell ⟨w.heap.size + 1 + 1, 4, none⟩ (.slice none 0 0)).setCell ⟨w.heap.size + 1 + 1, 5, none⟩ (.bool S.full)).setCell ⟨w.heap.size + 1 + 1, 6, none⟩ (.int .i64 q)).setCell ⟨w.heap.size + 1 + 1, 7, none⟩ (.slice la ln lc)).drew := ⟨_, rfl⟩
    have hW8 : (fill8 W5 (w.heap.size + 1 + 1) (.int .i64 M) (.int .i64 L.half) (.string s) (.slice ta tn tc) (.slice none 0 0) (.bool S.full) (.int .i64 q) (.slice la ln lc)).drew = W7 := hW7.symm
    rw [← hW7]
    rw [hW8] at HCL
    clear hW7 hW8 x0 x1 x2 x3 x4 x5 x6 x7 z0 z1 z2 z3 z4 z5 z6 z7 zf
    go_wp2_with fail
    exact bodyPost_ret (v := .tuple #[ptr t.ps, .agg (rsC M L.half s (.slice ta tn tc) (.slice none 0 0) S.full q (.slice la ln lc))]) (results_tc Tryz.results10 _ _ (w.heap.size + 1 + 1) r11T _ (0, 0) _ rfl HCL.out.1.1 Tryz.underlying33 rfl size8) rfl ⟨t.ps, t, S, ⟨L.half, (framesS gs).length, []⟩, gs, cs, P, s, _, _, rfl, HCL.out.1.2.1, HCL.out.1.2.2.1, HCL.out.2.1, HCL.out.1.2.2.2, HCL.out.2.2.1, HCL.out.2.2.2⟩
end Go.Proofs.YtghpohiinnallaaGreatDoor.Kv
