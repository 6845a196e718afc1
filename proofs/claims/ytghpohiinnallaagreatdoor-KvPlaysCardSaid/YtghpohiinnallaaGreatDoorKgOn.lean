/-
  What holds of a store while a law goes on.
-/
import Derived.Test.YtghpohiinnallaaGreatDoorKgShared
import Derived.Lib.ItoaLen
import Derived.Test.YtghpohiinnallaaGreatDoorKgWalB

/-
  What holds of a store while a law goes on: its log tells its pairs; what a commit, a compaction leave.
-/
namespace Go.Proofs.YtghpohiinnallaaGreatDoor.Kv
open Go Go.RowKit
open Go.Proofs.YtghpohiinnallaaGreatDoor.Disk (St Dk Is own Fr Lies newS fillS cutS)
open Go.Proofs.YtghpohiinnallaaGreatDoor.Wal (Wl Wk Log ownW StepW Done Grp Has Kin Either SyncO ResetO framesS fmtS fmt_has newG newG_flat frames_ge sec)
open Go.Proofs.YtghpohiinnallaaGreatDoor.Batch (less Rising at? Chg ptr Mem Bt Fine LightC writeS)
open Go.Proofs.YtghpohiinnallaaGreatDoor.Nets (Tab Reads Small)

/-- The groups of a log tell these changes, and these make the pairs. -/
structure Bears (gs : List Grp) (cs : List Chg) (P : List Pr) : Prop where
  txt : gs.flatten = cs.map texB
  told : ∀ c ∈ cs, Told c
  is : done [] cs = P
theorem Bears.nil : Bears [] [] [] := ⟨rfl, by simp, rfl⟩
theorem Bears.add {gs : List Grp} {cs b : List Chg} {P : List Pr} (h : Bears gs cs P) (hb : ∀ c ∈ b, Told c) : Bears (gs ++ [b.map texB]) (cs ++ b) (done P b) := by
  refine ⟨?_, fun c hc => ?_, ?_⟩
  · rw [List.flatten_append, List.flatten_singleton, List.map_append, h.txt]
  · rcases List.mem_append.1 hc with hc | hc
    · exact h.told c hc
    · exact hb c hc
  · rw [done_append, h.is]
theorem Bears.new {P : List Pr} (h : Fits P) : Bears (newG (ptexts P)) (P.map putC) P := by
  refine ⟨?_, fun c hc => ?_, done_puts h.rise⟩
  · rw [newG_flat]
    unfold ptexts
    rw [List.map_map]
    rfl
  · obtain ⟨p, hp, rfl⟩ := List.mem_map.1 hc
    exact h.told p hp
theorem has_flat {S : St} {h : Nat} {gs : List Grp} (hh : Has S h gs) : gs.flatten.length ≤ 1000 ∧ ∀ x ∈ gs.flatten, x.size ≤ 2000 := by
  have h1 := (frames_ge gs).1
  have h3 := (frames_ge gs).2
  have h2 := hh.lg.room
  have : sec S.dur.length * S.z ≤ 19 * 64 := Nat.mul_le_mul (by have := hh.lg.n2; unfold sec; omega) hh.lg.z2
  exact ⟨by omega, fun x hx => by have := h3 x hx; omega⟩

/-- While a law goes on. -/
structure Inv (S : St) (L : Wl) (gs : List Grp) (cs : List Chg) (q m n : Nat) (P : List Pr) : Prop where
  has : Has S L.half gs
  end_ : L.at_ = (framesS gs).length
  wait : L.wait = []
  tells : Bears gs cs P
  fits : Fits P
  usd : used P ≤ q
  few : P.length ≤ m
  ops : S.ops ≤ n
section
variable {S S' : St} {L L' : Wl} {gs : List Grp} {cs b : List Chg} {q m n : Nat} {P P' : List Pr} {c : Int}
theorem Inv.start {k z : Nat} (h1 : 8 ≤ k) (h2 : k ≤ 40) (h3 : 16 ≤ z) (h4 : z ≤ 64) : Inv (fmtS k z) ⟨0, 0, []⟩ [] [] q 0 3 [] :=
  ⟨fmt_has h1 h2 h3 h4, rfl, rfl, Bears.nil, fits_nil, Nat.zero_le _, Nat.zero_le _, Nat.le_refl 3⟩
theorem Inv.fill (h : Inv S L gs cs q m n P) (x : Bool) : Inv (fillS S x) L gs cs q m n P :=
  ⟨h.has.fill x, h.end_, h.wait, h.tells, h.fits, h.usd, h.few, h.ops⟩
theorem Inv.cut (h : Inv S L gs cs q m n P) (x : Int) : Inv (cutS S x) L gs cs q m n P :=
  ⟨h.has.cut x, h.end_, h.wait, h.tells, h.fits, h.usd, h.few, h.ops⟩
theorem Inv.more (h : Inv S L gs cs q m n P) {m' n' : Nat} (hm : m ≤ m') (hn : n ≤ n') : Inv S L gs cs q m' n' P :=
  ⟨h.has, h.end_, h.wait, h.tells, h.fits, h.usd, Nat.le_trans h.few hm, Nat.le_trans h.ops hn⟩
/-- How a commit, a compaction ends for those that ask: it is done, or not at all; or the power went. -/
def Ends (S : St) (gs : List Grp) (q m n : Nat) (P Q : List Pr) (S' : St) (L' : Wl) (P' : List Pr) (c : Int) : Prop :=
  (c ≠ 80 ∧ (∃ gs' cs', Inv S' L' gs' cs' q m n P') ∧ (c ≠ 0 → P' = P) ∧ (c = 0 → P' = Q)) ∨ (c = 80 ∧ S.left ≠ 0 ∧ P' = P ∧ ∃ gs' cs', Either S' gs gs' ∧ Bears gs' cs' Q)
theorem Inv.com (h : Inv S L gs cs q m n P) (hb : ∀ c ∈ b, Told c) (hbl : b.length ≤ 12) (ho : ComO S L gs q P b S' L' P' c) (hk : Kin S S' 168) : Ends S gs q (m + 12) (n + 168) P (done P b) S' L' P' c := by
  have hops : S'.ops ≤ n + 168 := by have := hk.ops; have := h.ops; omega
  have hfd : Fits (done P b) := h.fits.done hb
  have hfew : (done P b).length ≤ m + 12 := by have := done_length P b; have := h.few; omega
  have hf0 : P.length ≤ m + 12 := by have := h.few; omega
  have hsync : ∀ {S2 : St} {L2 : Wl} {c2 : Int}, b ≠ [] → used (done P b) ≤ q → S2.ops ≤ n + 168 → SyncO S { L with wait := b.map texB } gs S2 L2 c2 → c2 ≠ 8 →
      (c2 = 0 ∧ ∃ gs' cs', Inv S2 L2 gs' cs' q (m + 12) (n + 168) (done P b)) ∨ (c2 = 81 ∧ ∃ gs' cs', Inv S2 L2 gs' cs' q (m + 12) (n + 168) P) ∨ (c2 = 80 ∧ S.left ≠ 0 ∧ ∃ gs' cs', Either S2 gs gs' ∧ Bears gs' cs' (done P b)) := by
    intro S2 L2 c2 hb0 hu ho2 hs h8
    cases hs with
    | none hw =>
      have : b.map texB = [] := hw
      exact absurd (List.map_eq_nil_iff.1 this) hb0
    | room => exact absurd rfl h8
    | full hw hr hf hS hL =>
      subst hL
      exact .inr (.inl ⟨rfl, gs, cs, hS, h.end_, rfl, h.tells, h.fits, h.usd, hf0, ho2⟩)
    | power hl hS => exact .inr (.inr ⟨rfl, hl, _, _, hS, h.tells.add hb⟩)
    | done hw hr hf hS hL =>
      subst hL
      exact .inl ⟨rfl, _, _, hS, rfl, rfl, h.tells.add hb, hfd, hu, hfew, ho2⟩
  have hreset : ∀ {S2 : St} {L2 : Wl} {c2 : Int}, used (done P b) ≤ q → S2.ops ≤ n + 168 → ResetO S { L with wait := [] } gs (ptexts (done P b)) S2 L2 c2 →
      (c2 = 0 ∧ ∃ gs' cs', Inv S2 L2 gs' cs' q (m + 12) (n + 168) (done P b)) ∨ ((c2 = 8 ∨ c2 = 81) ∧ ∃ gs' cs', Inv S2 L2 gs' cs' q (m + 12) (n + 168) P) ∨ (c2 = 80 ∧ S.left ≠ 0 ∧ ∃ gs' cs', Either S2 gs gs' ∧ Bears gs' cs' (done P b)) := by
    intro S2 L2 c2 hu ho2 hs
    cases hs with
    | room hr hS hL =>
      subst hS hL
      exact .inr (.inl ⟨.inl rfl, gs, cs, h.has, h.end_, rfl, h.tells, h.fits, h.usd, hf0, ho2⟩)
    | full hr hf hS hL =>
      subst hL
      exact .inr (.inl ⟨.inr rfl, gs, cs, hS, h.end_, rfl, h.tells, h.fits, h.usd, hf0, ho2⟩)
    | power hl hS => exact .inr (.inr ⟨rfl, hl, _, _, hS, Bears.new hfd⟩)
    | done hr hf hS hL =>
      subst hL
      exact .inl ⟨rfl, _, _, hS, rfl, rfl, Bears.new hfd, hfd, hu, hfew, ho2⟩
  cases ho with
  | none hb0 hS hL hP =>
    subst hb0 hS hL hP
    exact .inl ⟨by omega, ⟨gs, cs, h.more (by omega) (by omega)⟩, fun _ => rfl, fun _ => rfl⟩
  | quota hb0 hu hS hL hP =>
    subst hS hL hP
    exact .inl ⟨by omega, ⟨gs, cs, h.more (by omega) (by omega)⟩, fun _ => rfl, fun e => by omega⟩
  | good hb0 hu hr hP =>
    subst hP
    rcases hr with ⟨h5, h6⟩ | ⟨_, h5⟩
    · rcases hsync hb0 hu hops h5 h6 with ⟨_, h7⟩ | ⟨h7, _⟩ | ⟨h7, _⟩
      · exact .inl ⟨by omega, h7, fun e => absurd rfl e, fun _ => rfl⟩
      · omega
      · omega
    · rcases hreset hu hops h5 with ⟨_, h7⟩ | ⟨h7, _⟩ | ⟨h7, _⟩
      · exact .inl ⟨by omega, h7, fun e => absurd rfl e, fun _ => rfl⟩
      · omega
      · omega
  | bad c hb0 hu hr hc hP =>
    subst hP
    rcases hr with ⟨h5, h6⟩ | ⟨_, h5⟩
    · rcases hsync hb0 hu hops h5 h6 with ⟨h7, _⟩ | ⟨h7, h8⟩ | ⟨h7, h8, h9⟩
      · omega
      · exact .inl ⟨by omega, h8, fun _ => rfl, fun e => by omega⟩
      · exact .inr ⟨h7, h8, rfl, h9⟩
    · rcases hreset hu hops h5 with ⟨h7, _⟩ | ⟨h7, h8⟩ | ⟨h7, h8, h9⟩
      · omega
      · exact .inl ⟨by omega, h8, fun _ => rfl, fun e => by omega⟩
      · exact .inr ⟨h7, h8, rfl, h9⟩
theorem Inv.compact (h : Inv S L gs cs q m n P) (ho : ResetO S L gs (ptexts P) S' L' c) (hk : Kin S S' 84) : Ends S gs q (m + 12) (n + 168) P P S' L' P c := by
  have hops : S'.ops ≤ n + 168 := by have := hk.ops; have := h.ops; omega
  have hf0 : P.length ≤ m + 12 := by have := h.few; omega
  cases ho with
  | room hr hS hL =>
    subst hS hL
    exact .inl ⟨by omega, ⟨gs, cs, h.more (by omega) (by omega)⟩, fun _ => rfl, fun _ => rfl⟩
  | full hr hf hS hL =>
    subst hL
    exact .inl ⟨by omega, ⟨gs, cs, hS, h.end_, h.wait, h.tells, h.fits, h.usd, hf0, hops⟩, fun _ => rfl, fun _ => rfl⟩
  | power hl hS => exact .inr ⟨rfl, hl, rfl, _, _, hS, Bears.new h.fits⟩
  | done hr hf hS hL =>
    subst hL
    exact .inl ⟨by omega, ⟨_, _, hS, rfl, h.wait, Bears.new h.fits, h.fits, h.usd, hf0, hops⟩, fun _ => rfl, fun _ => rfl⟩

/-! Bounds. -/
theorem put_len (l : List UInt8) (h : l.length ≤ 2000) : (Nets.putS l).length ≤ 2022 := by
  have h1 : (Lib.decDigits l.length).length ≤ 20 := by rw [Lib.decDigits_length]; exact Lib.nDigits_le20 _ (by omega)
  unfold Nets.putS
  simp
  omega
theorem write_size {x : Chg} (h1 : x.key.size ≤ 2000) (h2 : x.val.size ≤ 2000) : (texB x).size ≤ 100000 := by
  have hk := put_len (Batch.bl x.key) (by rw [Batch.bl_length]; omega)
  have hv := put_len (Batch.bl x.val) (by rw [Batch.bl_length]; omega)
  have hp := put_len (Batch.bl ⟨#[43]⟩) (by decide)
  have hq := put_len (Batch.bl ⟨#[45]⟩) (by decide)
  have e : (texB x).size = (writeS x).length := by
    show (Batch.ba (writeS x)).size = _
    rw [← Batch.bl_length, Batch.bl_ba]
  rw [e]
  unfold writeS Batch.parts Nets.rowS
  split <;> simp <;> omega
theorem used_bound {l : List Pr} {M : Nat} (h : ∀ p ∈ l, p.key.size + p.val.size ≤ M) : used l ≤ l.length * M := by
  induction l with
  | nil => simp [Kv.used]
  | cons x l ih =>
    have e : Kv.used (x :: l) = x.key.size + x.val.size + Kv.used l := by simp [Kv.used]
    have h1 := h x (by simp)
    have h2 := ih fun p hp => h p (by simp [hp])
    rw [e, List.length_cons, Nat.add_mul]
    omega
theorem Inv.sizes (h : Inv S L gs cs q m n P) {b : List Chg} (hq : q < 2000) (hl : ∀ c ∈ b, LightC c) {p : Pr} (hp : p ∈ done P b) : p.key.size ≤ 2000 ∧ p.val.size ≤ 2000 ∧ p.key.size + p.val.size ≤ 2000 := by
  rcases done_mem hp with ⟨c, h1, _, rfl⟩ | hp
  · have := hl c h1
    unfold LightC at this
    show c.key.size ≤ 2000 ∧ c.val.size ≤ 2000 ∧ c.key.size + c.val.size ≤ 2000
    omega
  · have := used_le hp
    have := h.usd
    omega
theorem Inv.fair (h : Inv S L gs cs q m n P) (hq : q < 2000) (hm : m ≤ 360) (hg : Batch.Good b) (hl : ∀ c ∈ b, LightC c) (hbl : b.length ≤ 12) : Fair P b := by
  have hd := done_length P b
  have hf := h.few
  have hsz := fun p hp => h.sizes hq hl (p := p) hp
  refine ⟨h.fits.rise, hg.rise, by omega, by omega, fun c hc => ?_, ⟨by rw [List.length_map]; omega, fun s hs => ?_⟩, fun p hp => ?_, ⟨?_, fun s hs => ?_⟩, ?_⟩
  · have := hl c hc
    unfold LightC at this
    exact ⟨by omega, by omega⟩
  · obtain ⟨c, hc, rfl⟩ := List.mem_map.1 hs
    have := hl c hc
    unfold LightC at this
    exact write_size (by omega) (by omega)
  · have := hsz p hp
    exact ⟨by show p.key.size ≤ _; omega, by show p.val.size ≤ _; omega⟩
  · unfold ptexts
    rw [List.length_map]
    omega
  · unfold ptexts at hs
    obtain ⟨p, hp, rfl⟩ := List.mem_map.1 hs
    have := hsz p hp
    exact write_size (x := putC p) this.1 this.2.1
  · have := used_bound (M := 2000) fun p hp => (hsz p hp).2.2
    omega
theorem Inv.fairP (h : Inv S L gs cs q m n P) (hq : q < 2000) (hm : m ≤ 372) : P.length ≤ 100000 ∧ (∀ p ∈ P, Fine (putC p)) ∧ Small (ptexts P) ∧ (∀ p ∈ P, p.key.size ≤ 9223372036854775807) := by
  have hf := h.few
  have hsz : ∀ p ∈ P, p.key.size + p.val.size ≤ 2000 := fun p hp => by have := used_le hp; have := h.usd; omega
  refine ⟨by omega, fun p hp => ?_, ⟨?_, fun s hs => ?_⟩, fun p hp => by have := hsz p hp; omega⟩
  · have := hsz p hp
    exact ⟨by show p.key.size ≤ _; omega, by show p.val.size ≤ _; omega⟩
  · unfold ptexts
    rw [List.length_map]
    omega
  · unfold ptexts at hs
    obtain ⟨p, hp, rfl⟩ := List.mem_map.1 hs
    have := hsz p hp
    exact write_size (x := putC p) (by show p.key.size ≤ _; omega) (by show p.val.size ≤ _; omega)
end
section
variable {w : World} {x : Sk} {S : St} {L : Wl} {gs : List Grp} {cs : List Chg} {q m n : Nat} {P : List Pr}
/-- Opened anew. -/
theorem Inv.opens (h : Inv S L gs cs q m n P) {d : Dk} (hd : Is w d S) (hq : q < 2000) : Calls Tryz.prog 26 #[ptr d.pb, .int .i64 q] w (OpenPost w d S L.half gs q P) := by
  have hf := has_flat h.has
  have hl : cs.length ≤ 100000 := by
    have e := congrArg List.length h.tells.txt
    rw [List.length_map] at e
    omega
  have := openS hd L.half gs h.has cs h.tells.txt h.tells.told (fun c hc => by
    have : texB c ∈ gs.flatten := by rw [h.tells.txt]; exact List.mem_map_of_mem hc
    have := hf.2 _ this
    omega) hl q (by omega) (by rw [h.tells.is]; have := h.usd; omega)
  rwa [h.tells.is] at this
theorem scan_all (P : List Pr) : scanL ⟨#[]⟩ P = P := by
  unfold scanL
  rw [List.filter_eq_self]
  intro y _
  rw [hasP_iff]
  exact List.nil_prefix
end
end Go.Proofs.YtghpohiinnallaaGreatDoor.Kv

/-
  A store in memory while a law goes on: the calls on it, and lists beside it.
-/
namespace Go.Proofs.YtghpohiinnallaaGreatDoor.Kv
open Go Go.RowKit
open Go.Proofs.YtghpohiinnallaaGreatDoor.Disk (St Dk Is own Fr Lies newS fillS cutS)
open Go.Proofs.YtghpohiinnallaaGreatDoor.Wal (Wl Wk Log ownW StepW Done Grp Has Kin Either SyncO ResetO framesS fmtS fmt_has Grd)
open Go.Proofs.YtghpohiinnallaaGreatDoor.Batch (less Rising at? Chg ptr Mem Bt Fine LightC madeL good_madeL madeL_length madeL_light madeL_norm)
open Go.Proofs.YtghpohiinnallaaGreatDoor.Nets (Tab Reads Small)

/-- A list of pairs beside a store. -/
def Aside (w : World) (x : Sk) (u : Value) (T : List Pr) : Prop := ReadsP w u T ∧ ∀ b, u.ownBlock = some b → b < w.heap.size ∧ ¬ ownS x b
section
variable {w w' : World} {x x' : Sk} {u : Value} {T : List Pr} {S : St} {L : Wl} {q : Nat} {P : List Pr}
theorem Aside.nil : Aside w x (.slice none 0 0) [] := ⟨nil_readsP _, fun b hb => by cases hb⟩
theorem Aside.below (h : Aside w x u T) (hb : Below w.heap.size w w') : Aside w' x u T := ⟨h.1.below hb, fun b e => ⟨Nat.lt_of_lt_of_le (h.2 b e).1 hb.size, (h.2 b e).2⟩⟩
theorem Aside.step (h : Aside w x u T) (hs : StepS w x w' x') : Aside w' x' u T := by
  refine ⟨h.1.frame (frB hs.fr) fun b e => (h.2 b e).2, fun b e => ⟨Nat.lt_of_lt_of_le (h.2 b e).1 hs.fr.size, fun o => ?_⟩⟩
  rcases hs.own b o with o | o
  · exact (h.2 b e).2 o
  · have := (h.2 b e).1; omega
theorem Aside.of {t : TypeId} (hst : Store w x S L q P) (h : w'.ownsRow w.heap.size t 2 u T.length (T.flatMap prC)) : Aside w' x u T :=
  ⟨owns_readsP h, fun b e => ⟨(h.lt b e).2, fun o => by have := (h.lt b e).1; have := (hst.own_lt o).1; omega⟩⟩
end

/-- A store in memory while a law goes on: what was there before it stays. -/
structure Runs (w0 w : World) (ps pb : Nat) (x : Sk) (S : St) (L : Wl) (gs : List Grp) (cs : List Chg) (q m n : Nat) (P : List Pr) : Prop where
  st : Store w x S L q P
  inv : Inv S L gs cs q m n P
  old : Below w0.heap.size w0 w
  low : w0.heap.size ≤ x.k.d.B
  ps : x.ps = ps
  pb : x.k.d.pb = pb
section
variable {w0 w w' : World} {ps pb : Nat} {x x' : Sk} {S S' : St} {L L' : Wl} {gs : List Grp} {cs : List Chg} {q m n : Nat} {P P' : List Pr}
theorem Runs.below (h : Runs w0 w ps pb x S L gs cs q m n P) (hb : Below w.heap.size w w') : Runs w0 w' ps pb x S L gs cs q m n P :=
  ⟨h.st.below hb, h.inv, h.old.trans (hb.mono h.old.size), h.low, h.ps, h.pb⟩
theorem Runs.oldS (h : Runs w0 w ps pb x S L gs cs q m n P) (hs : StepS w x w' x') : Below w0.heap.size w0 w' :=
  h.old.trans (hs.fr.below h.old.size fun _b hb => Nat.le_trans h.low (h.st.own_lt hb).2)
theorem Runs.step (h : Runs w0 w ps pb x S L gs cs q m n P) {gs' : List Grp} {cs' : List Chg} {m' n' : Nat} (hst : Store w' x' S' L' q P') (hs : StepS w x w' x') (hi : Inv S' L' gs' cs' q m' n' P') : Runs w0 w' ps pb x' S' L' gs' cs' q m' n' P' :=
  ⟨hst, hi, h.oldS hs, by rw [hs.B]; exact h.low, hs.ps.trans h.ps, hs.pb.trans h.pb⟩
theorem Runs.more (h : Runs w0 w ps pb x S L gs cs q m n P) {m' n' : Nat} (hm : m ≤ m') (hn : n ≤ n') : Runs w0 w ps pb x S L gs cs q m' n' P :=
  ⟨h.st, h.inv.more hm hn, h.old, h.low, h.ps, h.pb⟩
theorem Runs.grd (h : Runs w0 w ps pb x S L gs cs q m n P) (ht : Tab w0) : Grd x.k := by
  unfold Grd
  have := ht.2
  have := h.low
  omega
theorem Runs.scan (h : Runs w0 w ps pb x S L gs cs q m n P) (hq : q < 2000) (hm : m ≤ 372) : Calls Tryz.prog 12 #[ptr ps, .string ⟨#[]⟩] w (ListPost w P) := by
  obtain ⟨h1, h2, h3, h4⟩ := h.inv.fairP hq hm
  have := scanS h.st h.inv.fits.rise h1 ⟨#[]⟩ (by decide) h4
  rw [scan_all, h.ps] at this
  exact this
theorem Runs.scanT (h : Runs w0 w ps pb x S L gs cs q m n P) (hq : q < 2000) (hm : m ≤ 372) {W : World} {t : Sk} (ht : Store W t S' L' q P) : Calls Tryz.prog 12 #[ptr t.ps, .string ⟨#[]⟩] W (ListPost W P) := by
  obtain ⟨h1, h2, h3, h4⟩ := h.inv.fairP hq hm
  have := scanS ht h.inv.fits.rise h1 ⟨#[]⟩ (by decide) h4
  rw [scan_all] at this
  exact this
theorem Runs.quota (h : Runs w0 w ps pb x S L gs cs q m n P) : Calls Tryz.prog 17 #[ptr ps] w fun e w' => e = .returned (.int .i64 q) ∧ w' = w := by
  have := quotaS h.st
  rwa [h.ps] at this
theorem Runs.used (h : Runs w0 w ps pb x S L gs cs q m n P) : Calls Tryz.prog 13 #[ptr ps] w fun e w' => e = .returned (.int .i64 (used P)) ∧ w' = w := by
  have := usedS h.st
  rwa [h.ps] at this
theorem Runs.open_ (h : Runs w0 w ps pb x S L gs cs q m n P) (hq : q < 2000) : Calls Tryz.prog 26 #[ptr pb, .int .i64 q] w (OpenPost w x.k.d S L.half gs q P) := by
  have := h.inv.opens h.st.log.disk hq
  rwa [h.pb] at this
/-- What a Fill leaves. -/
def FillPost (w0 w : World) (ps pb : Nat) (x : Sk) (S : St) (L : Wl) (gs : List Grp) (cs : List Chg) (q m n : Nat) (P : List Pr) (b : Bool) (e : Ending) (w' : World) : Prop :=
  e = .returned (.tuple #[]) ∧ ∃ x', Runs w0 w' ps pb x' (fillS S b) L gs cs q m n P ∧ StepS w x w' x'
theorem Runs.fill (h : Runs w0 w ps pb x S L gs cs q m n P) (b : Bool) : Calls Tryz.prog 32 #[ptr pb, .bool b] w (FillPost w0 w ps pb x S L gs cs q m n P b) := by
  have := Wal.fillW h.st.log b
  rw [h.pb] at this
  refine this.mono fun e w' hh => ?_
  obtain ⟨rfl, hd⟩ := hh
  obtain ⟨k', hst, hs⟩ := h.st.logged hd
  exact ⟨rfl, _, h.step hst hs (h.inv.fill b), hs⟩
/-- What a Commit, a Compact leaves. -/
def EndPost (_w0 w : World) (_ps _pb : Nat) (x : Sk) (S : St) (gs : List Grp) (q m n : Nat) (P Q : List Pr) (e : Ending) (w' : World) : Prop :=
  ∃ S' L' c x' P', e = .returned (.int .i64 c) ∧ Ends S gs q m n P Q S' L' P' c ∧ Kin S S' 168 ∧ Store w' x' S' L' q P' ∧ StepS w x w' x'
theorem Runs.commit (h : Runs w0 w ps pb x S L gs cs q m n P) (hq : q < 2000) (hm : m ≤ 360) (hn : n ≤ 900000) (ht : Tab w0) {d : Bt} {l : List Chg} (hmem : Mem w d (madeL l)) (hl : ∀ c ∈ l, LightC c) (hll : l.length ≤ 12) :
    Calls Tryz.prog 33 #[ptr ps, ptr d.pb] w (EndPost w0 w ps pb x S gs q (m + 12) (n + 168) P (done P (madeL l))) := by
  have hb : (madeL l).length ≤ 12 := by have := madeL_length l; omega
  have hg := good_madeL l
  have hf := h.inv.fair hq hm hg (fun c hc => madeL_light hl hc) hb
  have := commitS h.st gs h.inv.has h.inv.end_ h.inv.wait hmem hf (ht.below h.old) (h.grd ht) (by have := h.inv.ops; omega) (by omega)
  rw [h.ps] at this
  refine this.mono fun e w' hh => ?_
  obtain ⟨S', L', c, x', P', rfl, ho, hk, hst, hs⟩ := hh
  exact ⟨S', L', c, x', P', rfl, h.inv.com (fun c hc => ⟨madeL_norm hc, hg.fits c hc⟩) hb ho hk, hk, hst, hs⟩
theorem Runs.compact (h : Runs w0 w ps pb x S L gs cs q m n P) (hq : q < 2000) (hm : m ≤ 360) (hn : n ≤ 900000) (ht : Tab w0) :
    Calls Tryz.prog 34 #[ptr ps] w (EndPost w0 w ps pb x S gs q (m + 12) (n + 168) P P) := by
  obtain ⟨h1, h2, h3, h4⟩ := h.inv.fairP hq (by omega)
  have := compactS h.st gs h.inv.has h1 h2 h3 (ht.below h.old) (by have := h.inv.ops; omega)
  rw [h.ps] at this
  refine this.mono fun e w' hh => ?_
  obtain ⟨S', L', c, k', rfl, ho, hk, hst, hs⟩ := hh
  exact ⟨S', L', c, _, P, rfl, h.inv.compact ho hk, hk.mono (by omega), hst, hs⟩
/-- Where the power does not go: it goes on. -/
theorem EndPost.on (h : Runs w0 w ps pb x S L gs cs q m n P) {m' n' : Nat} {Q : List Pr} {c : Int} (he : Ends S gs q m' n' P Q S' L' P' c) (hl : S.left = 0) (hst : Store w' x' S' L' q P') (hs : StepS w x w' x') :
    (∃ gs' cs', Runs w0 w' ps pb x' S' L' gs' cs' q m' n' P') ∧ (c ≠ 0 → P' = P) ∧ (c = 0 → P' = Q) := by
  rcases he with ⟨_, ⟨gs', cs', hi⟩, h1, h2⟩ | ⟨_, h2, _⟩
  · exact ⟨⟨gs', cs', h.step hst hs hi⟩, h1, h2⟩
  · exact absurd hl h2
end
end Go.Proofs.YtghpohiinnallaaGreatDoor.Kv
