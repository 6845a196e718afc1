/-
  A call, done to both disks: what lies where; a Write.
-/
import Derived.Test.YtebiebbbkdbffaaDiskSec
namespace Go.Proofs.Ytebiebbbkdbffaa.Disk
open Go Go.RowKit
open Go.Proofs.Ytebiebbbkdbffaa.Sha (Kept wp_region_drawn_tail wp_region_kept_tail quiet_load_row)

/-- The two disks are one: the program's in memory, the document's as a value beside it. -/
structure Both (w : World) (d : Dk) (B : Nat) (lv cv : Value) (S : St) : Prop where
  is : Is w d S
  q : IsQ w B lv cv S
  al : ∀ k, lv.ownBlock = some k → ¬ own d k
  ac : ∀ k, cv.ownBlock = some k → ¬ own d k
  le : B ≤ w.heap.size
theorem Both.below {w w' : World} {d : Dk} {B : Nat} {lv cv : Value} {S : St} (h : Both w d B lv cv S) (hb : Below w.heap.size w w') : Both w' d B lv cv S :=
  ⟨h.is.below hb, h.q.below hb, h.al, h.ac, Nat.le_trans h.le hb.size⟩
/-- First the document's, then the program's. -/
theorem Both.then {w w1 w2 : World} {d : Dk} {B : Nat} {lv cv lv' cv' : Value} {S S' : St} (h : Both w d B lv cv S) (hq : QLeft w B lv cv S' w1 lv' cv') {w1' : World} (hb : Below w1.heap.size w1 w1') (hl : Left w1' d S' w2) :
    ∃ d', Both w2 d' B lv' cv' S' ∧ Step w d w2 d' ∧ ∀ k, own d' k → own d k ∨ w1'.heap.size ≤ k := by
  obtain ⟨cv2, hI, hS⟩ := hl
  have hb1 := hq.below.trans (hb.mono hq.below.size)
  have hq' := hq.q.below hb
  have al' : ∀ k, lv'.ownBlock = some k → ¬ own d k := fun k hk e => by
    rcases hq.l k hk with e2 | e2
    · exact h.al k e2 e
    · have := (h.is.own_lt e).1
      omega
  have ac' : ∀ k, cv'.ownBlock = some k → ¬ own d k := fun k hk e => by
    rcases hq.c k hk with e2 | e2
    · exact h.ac k e2 e
    · have := (h.is.own_lt e).1
      omega
  refine ⟨_, ⟨hI, ⟨Fr.owns hq'.l hS.fr al', Fr.owns hq'.c hS.fr ac'⟩, fun k hk e => ?_, fun k hk e => ?_, ?_⟩, (Step.of_below d hb1).trans hS, fun k hk => hS.own hk⟩
  · rcases hS.own e with e | e
    · exact al' k hk e
    · have := (hq'.l.lt k hk).2
      omega
  · rcases hS.own e with e | e
    · exact ac' k hk e
    · have := (hq'.c.lt k hk).2
      omega
  · exact Nat.le_trans h.le (Nat.le_trans hb1.size hS.fr.size)
/-- First the program's, then the document's. -/
theorem Both.thenQ {w w1 w2 : World} {d : Dk} {B : Nat} {lv cv lv' cv' : Value} {S S' : St} (h : Both w d B lv cv S) (hl : Left w d S' w1) (hq : ∀ cv2, IsQ w1 B lv cv S → Is w1 { d with cv := cv2 } S' → Step w d w1 { d with cv := cv2 } → Below w1.heap.size w1 w2 ∧ IsQ w2 B lv' cv' S' ∧ New w1 lv lv' ∧ New w1 cv cv') :
    ∃ d', Both w2 d' B lv' cv' S' ∧ Step w d w2 d' ∧ ∀ k, own d' k → own d k ∨ w.heap.size ≤ k := by
  obtain ⟨cv2, hI, hS⟩ := hl
  have hq0 : IsQ w1 B lv cv S := ⟨Fr.owns h.q.l hS.fr h.al, Fr.owns h.q.c hS.fr h.ac⟩
  obtain ⟨hb, hq1, hn1, hn2⟩ := hq cv2 hq0 hI hS
  have key : ∀ v v' : Value, (∀ k, v.ownBlock = some k → ¬ own d k) → (∀ k, v.ownBlock = some k → k < w.heap.size) → New w1 v v' → ∀ k, v'.ownBlock = some k → ¬ own { d with cv := cv2 } k := fun v v' ha hlt hn k hk e => by
    rcases hn k hk with e2 | e2
    · rcases hS.own e with e | e
      · exact ha k e2 e
      · have := hlt k e2
        omega
    · have := (hI.own_lt e).1
      omega
  exact ⟨_, ⟨hI.below hb, hq1, key lv lv' h.al (fun k hk => (h.q.l.lt k hk).2) hn1, key cv cv' h.ac (fun k hk => (h.q.c.lt k hk).2) hn2, Nat.le_trans h.le (Nat.le_trans hS.fr.size hb.size)⟩, hS.trans (Step.of_below _ hb), fun k hk => hS.own hk⟩
theorem Both.lt {w : World} {d : Dk} {B : Nat} {lv cv : Value} {S : St} (h : Both w d B lv cv S) : d.pb < w.heap.size := (h.is.own_lt (.inl rfl)).1
/-- What a call does to the plain disk. -/
def stepS (S : St) (a : Act) (s : ByteArray) : St :=
  if a.kind = 0 then (putS S a.at_ s).1
  else if a.kind = 1 then (flushS S).1
  else if a.kind = 2 then cutS S a.n
  else if a.kind = 3 then fillS S a.is
  else if a.kind = 4 then crashS S a.ks a.n
  else S
/-- What is asked of a call. -/
structure OkA (w : World) (d : Dk) (a : Act) : Prop where
  n : -9223372036854775808 ≤ a.n ∧ a.n ≤ 9223372036854775807
  fill : a.fill < 256
  reads : ReadsK w a.kv a.ks
  len : a.ks.length ≤ 9223372036854775807
  far : 0 < a.ks.length → ∀ k, a.kv.ownBlock = some k → k < d.B
/-- What a call leaves of both. -/
def DoneB (w : World) (d : Dk) (B : Nat) (lv cv : Value) (S' : St) (w' : World) (lv' cv' : Value) : Prop := (∃ d', Both w' d' B lv' cv' S' ∧ Step w d w' d') ∧ New w lv lv' ∧ New w cv cv'
theorem seven {w : World} {b : Nat} {a0 a1 a2 a3 a4 a5 a6 : Value} {t : TypeId} (h : Lies w b #[a0, a1, a2, a3, a4, a5, a6] t) :
    w.cell? ⟨b, 0, none⟩ = some a0 ∧ w.cell? ⟨b, 1, none⟩ = some a1 ∧ w.cell? ⟨b, 2, none⟩ = some a2 ∧ w.cell? ⟨b, 3, none⟩ = some a3 ∧ w.cell? ⟨b, 4, none⟩ = some a4 ∧ w.cell? ⟨b, 5, none⟩ = some a5 ∧ w.cell? ⟨b, 6, none⟩ = some a6 :=
  ⟨h.cell 0, h.cell 1, h.cell 2, h.cell 3, h.cell 4, h.cell 5, h.cell 6⟩
/-- The seven cells written one by one. -/
abbrev fill7 (w : World) (b : Nat) (a0 a1 a2 a3 a4 a5 a6 : Value) : World :=
  ((((((w.setCell ⟨b, 0, none⟩ a0).setCell ⟨b, 1, none⟩ a1).setCell ⟨b, 2, none⟩ a2).setCell ⟨b, 3, none⟩ a3).setCell ⟨b, 4, none⟩ a4).setCell ⟨b, 5, none⟩ a5).setCell ⟨b, 6, none⟩ a6
theorem Lies.fill7 {w : World} {b : Nat} {z0 z1 z2 z3 z4 z5 z6 : Value} {t : TypeId} (h : Lies w b #[z0, z1, z2, z3, z4, z5, z6] t) (a0 a1 a2 a3 a4 a5 a6 : Value) :
    Lies (Disk.fill7 w b a0 a1 a2 a3 a4 a5 a6) b #[a0, a1, a2, a3, a4, a5, a6] t := by
  have h0 : Lies _ b #[a0, z1, z2, z3, z4, z5, z6] t := h.set 0 a0
  have h1 : Lies _ b #[a0, a1, z2, z3, z4, z5, z6] t := h0.set 1 a1
  have h2 : Lies _ b #[a0, a1, a2, z3, z4, z5, z6] t := h1.set 2 a2
  have h3 : Lies _ b #[a0, a1, a2, a3, z4, z5, z6] t := h2.set 3 a3
  have h4 : Lies _ b #[a0, a1, a2, a3, a4, z5, z6] t := h3.set 4 a4
  have h5 : Lies _ b #[a0, a1, a2, a3, a4, a5, z6] t := h4.set 5 a5
  have h6 : Lies _ b #[a0, a1, a2, a3, a4, a5, a6] t := h5.set 6 a6
  exact h6
theorem Fr.fill7 (w : World) (b : Nat) (a0 a1 a2 a3 a4 a5 a6 : Value) : Fr (fun k => k = b) w (Disk.fill7 w b a0 a1 a2 a3 a4 a5 a6) := by
  have e : ∀ {u v : World} {i : Nat} {x : Value}, Fr (fun k => k = b) u v → Fr (fun k => k = b) u (v.setCell ⟨b, i, none⟩ x) := fun h => Fr.setCell (F := fun k => k = b) h (fun _ => rfl) _
  exact e (e (e (e (e (e (e (Fr.refl _ _)))))))
theorem cell_fill7 (w : World) (b c j : Nat) (a0 a1 a2 a3 a4 a5 a6 : Value) (h : c ≠ b) : (Disk.fill7 w b a0 a1 a2 a3 a4 a5 a6).cell? ⟨c, j, none⟩ = w.cell? ⟨c, j, none⟩ := by
  simp only [Disk.fill7, World.cell?, heap_setCell_other _ ⟨b, _, none⟩ c _ h]
theorem Both.frame {F : Nat → Prop} {w w' : World} {d : Dk} {B : Nat} {lv cv : Value} {S : St} (h : Both w d B lv cv S) (hf : Fr F w w') (hd : ∀ k, F k → ¬ own d k) (hl : ∀ k, lv.ownBlock = some k → ¬ F k) (hc : ∀ k, cv.ownBlock = some k → ¬ F k) : Both w' d B lv cv S :=
  ⟨h.is.frame hf hd, ⟨Fr.owns h.q.l hf hl, Fr.owns h.q.c hf hc⟩, h.al, h.ac, Nat.le_trans h.le hf.size⟩
theorem Step.frame {F : Nat → Prop} {w w1 w2 : World} {d d' : Dk} (h : Step w d w1 d') (hf : Fr F w1 w2) (hF : ∀ k, F k → w.heap.size ≤ k) : Step w d w2 d' :=
  ⟨h.fr.trans hf fun i hi e => by have := hF i e; omega, h.B, h.pb, h.db, h.cb, h.cv⟩
/-- The result's box written behind all that was done. -/
theorem doneB_fill {w w1 w3 : World} {d d' : Dk} {B : Nat} {lv cv lv' cv' : Value} {S S' : St} {b : Nat} (h : Both w d B lv cv S) (hB : Both w3 d' B lv' cv' S') (hS : Step w d w3 d') (hs1 : w.heap.size ≤ w1.heap.size) (hl : New w1 lv lv') (hc : New w1 cv cv') (hb : w.heap.size ≤ b) (hb1 : b < w1.heap.size) {w4 : World} (hf : Fr (fun k => k = b) w3 w4) (hown : ¬ own d' b) : DoneB w d B lv cv S' w4 lv' cv' := by
  refine ⟨⟨d', hB.frame hf (fun k hk e => hown (hk ▸ e)) (fun k hk e => ?_) (fun k hk e => ?_), hS.frame hf fun k hk => by omega⟩, fun k hk => (hl k hk).imp id fun e => Nat.le_trans hs1 e, fun k hk => (hc k hk).imp id fun e => Nat.le_trans hs1 e⟩
  · subst e
    rcases hl k hk with e2 | e2
    · have := (h.q.l.lt k e2).2
      omega
    · omega
  · subst e
    rcases hc k hk with e2 | e2
    · have := (h.q.c.lt k e2).2
      omega
    · omega
theorem doneB_frame {F : Nat → Prop} {w w1 w3 w4 : World} {d d' : Dk} {B : Nat} {lv cv lv' cv' : Value} {S S' : St} (h : Both w d B lv cv S) (hB : Both w3 d' B lv' cv' S') (hS : Step w d w3 d') (hs1 : w.heap.size ≤ w1.heap.size) (hl : New w1 lv lv') (hc : New w1 cv cv') (hF : ∀ k, F k → w.heap.size ≤ k ∧ k < w1.heap.size) (hf : Fr F w3 w4) (hown : ∀ k, own d' k → own d k ∨ w1.heap.size ≤ k) : DoneB w d B lv cv S' w4 lv' cv' := by
  refine ⟨⟨d', hB.frame hf (fun k hk e => ?_) (fun k hk e => ?_) (fun k hk e => ?_), hS.frame hf fun k hk => (hF k hk).1⟩, fun k hk => (hl k hk).imp id fun e => Nat.le_trans hs1 e, fun k hk => (hc k hk).imp id fun e => Nat.le_trans hs1 e⟩
  · have h1 := hF k hk
    rcases hown k e with e | e
    · have := (h.is.own_lt e).1
      omega
    · omega
  · have h1 := hF k e
    rcases hl k hk with e2 | e2
    · have := (h.q.l.lt k e2).2
      omega
    · omega
  · have h1 := hF k e
    rcases hc k hk with e2 | e2
    · have := (h.q.c.lt k e2).2
      omega
    · omega
theorem Is.stepBelow {w w' : World} {d d' : Dk} {S : St} (h : Is w d S) (hs : Step w d w' d') : Below d.B w w' := by
  obtain ⟨_, l, _, _, _, hm⟩ := h
  exact hs.below hm (Nat.le_refl _)
end Go.Proofs.Ytebiebbbkdbffaa.Disk
