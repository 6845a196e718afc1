/-
  Walks of the law DiskPlays.
-/
import Derived.Test.YtebiebbbkdbffaaDiskWorks
import Derived.Test.YtebiebbbkdbffaaDiskPlainB
namespace Go.Proofs.Ytebiebbbkdbffaa.Disk
open Go Go.RowKit
open Go.Proofs.Ytebiebbbkdbffaa.Sha (Kept wp_region_drawn_tail wp_region_kept_tail quiet_load_row)

/-- What is known of a call among the arguments. -/
structure OkL (w : World) (a : Act) : Prop where
  n : -9223372036854775808 ≤ a.n ∧ a.n ≤ 9223372036854775807
  fill : a.fill < 256
  reads : ReadsK w a.kv a.ks
  len : a.ks.length ≤ 9223372036854775807
/-- The value is a slice that reads as these calls. -/
def aC (a : Act) : List Value := [.int .i64 a.kind, .int .i64 a.at_, .int .i64 a.n, .int .u8 a.fill, .bool a.short, .bool a.is, a.kv]
def ReadsA (w : World) (v : Value) (es : List Act) : Prop :=
  (∃ a cap, v = .slice a 0 cap ∧ es = []) ∨
  (0 < es.length ∧ ∃ b off cap, v = .slice (some ⟨b, off, none⟩) es.length cap ∧ b < w.heap.size ∧ ∀ i a, es[i]? = some a → w.rangeAt b (off + i * 7) (aC a))
theorem ReadsA.shape {w : World} {v : Value} {es : List Act} (h : ReadsA w v es) : ∃ a cap, v = .slice a es.length cap ∧ (0 < es.length → ∃ b off, a = some ⟨b, off, none⟩ ∧ b < w.heap.size ∧ ∀ i x, es[i]? = some x → w.rangeAt b (off + i * 7) (aC x)) := by
  rcases h with ⟨a, cap, rfl, rfl⟩ | ⟨h0, b, off, cap, rfl, h1, h2⟩
  · exact ⟨a, cap, rfl, fun h => by simp at h⟩
  · exact ⟨_, cap, rfl, fun _ => ⟨b, off, rfl, h1, h2⟩⟩
theorem OkL.far {w : World} {a : Act} (h : OkL w a) : 0 < a.ks.length → ∀ k, a.kv.ownBlock = some k → k < w.heap.size := fun h0 k hk => by
  rcases h.reads with ⟨_, _, _, e⟩ | ⟨_, b, off, cap, e, hb, _⟩
  · rw [e] at h0; simp at h0
  · rw [e] at hk
    obtain rfl : b = k := by simpa [Value.ownBlock] using hk
    exact hb
theorem OkL.okA {w wr : World} {d : Dk} {a : Act} (h : OkL w a) (hb : Below w.heap.size w wr) (hd : w.heap.size ≤ d.B) : OkA wr d a :=
  ⟨h.n, h.fill, h.reads.below hb, h.len, fun h0 k hk => Nat.lt_of_lt_of_le (h.far h0 k hk) hd⟩
/-- Both disks, the document's in its box. -/
structure AtB (w : World) (d0 : Dk) (qb n z k : Nat) (wr : World) (d : Dk) (B : Nat) (lv cv : Value) (S : St) : Prop where
  both : Both wr d B lv cv S
  box : Lies wr qb (qC S lv cv) qT
  own : ¬ Disk.own d qb
  lne : lv.ownBlock ≠ some qb
  cne : cv.ownBlock ≠ some qb
  pb : d.pb = d0.pb
  dB : d.B = d0.B
  ops : S.ops ≤ k
  len : S.dur.length = n
  siz : S.z = z
  qb : w.heap.size ≤ qb
  dle : w.heap.size ≤ d.B
  below : Below w.heap.size w wr
/-- The next one: the value that a call gave, put into the box. -/
theorem AtB.next {w wr w2 w3 : World} {d0 d : Dk} {qb n z k B : Nat} {lv cv lv' cv' : Value} {S S' : St} (h : AtB w d0 qb n z k wr d B lv cv S) (hb : Below wr.heap.size wr w2) (hd : DoneB w2 d B lv cv S' w3 lv' cv') (ho : S'.ops ≤ S.ops + 1) (hl : S'.dur.length = S.dur.length) (hz : S'.z = S.z) {w4 : World} (h34 : Below w3.heap.size w3 w4) :
    ∃ d', AtB w d0 qb n z (k + 1) (w4.setRow qb (qC S' lv' cv')) d' B lv' cv' S' := by
  obtain ⟨⟨d', hB, hS⟩, hn1, hn2⟩ := hd
  have hs := hb.size
  have hqb := h.box.lt
  have hno : ∀ v v' : Value, v.ownBlock ≠ some qb → New w2 v v' → v'.ownBlock ≠ some qb := fun v v' h1 h2 e => by
    rcases h2 qb e with e2 | e2
    · exact h1 e2
    · omega
  have hown : ¬ Disk.own d' qb := fun e => by
    rcases hS.own e with e2 | e2
    · exact h.own e2
    · omega
  have hbox3 : Lies w3 qb (qC S lv cv) qT := (h.box.same (hb.block _ hqb)).same (hS.fr.block _ (by omega) h.own)
  have hbox4 := hbox3.same (h34.block _ hbox3.lt)
  have hB4 := hB.below h34
  refine ⟨d', hB4.frame (Fr.row w4 qb (qC S' lv' cv')) (fun k hk e => hown (hk ▸ e)) (fun k hk e => hno lv lv' h.lne hn1 (e ▸ hk)) (fun k hk e => hno cv cv' h.cne hn2 (e ▸ hk)), hbox4.setRow _, hown, hno lv lv' h.lne hn1, hno cv cv' h.cne hn2, hS.pb.trans h.pb, hS.B.trans h.dB, Nat.le_trans ho (Nat.succ_le_succ h.ops), hl.trans h.len, hz.trans h.siz, h.qb, by rw [hS.B]; exact h.dle, ?_⟩
  have hb1 : Below w.heap.size w w2 := h.below.trans (hb.mono h.below.size)
  have hi2 : Is w2 d S := (h.both.below hb).is
  have hb2 : Below w.heap.size w2 w3 := (hi2.stepBelow hS).mono h.dle
  exact ((hb1.trans hb2).trans (h34.mono (Nat.le_trans hb1.size hS.fr.size))).trans ((Fr.row w4 qb _).below (Nat.le_trans (Nat.le_trans hb1.size hS.fr.size) h34.size) fun k hk => by have := h.qb; omega)
theorem AtB.on {w wr w2 : World} {d0 d : Dk} {qb n z k B : Nat} {lv cv : Value} {S : St} (h : AtB w d0 qb n z k wr d B lv cv S) (hb : Below wr.heap.size wr w2) : AtB w d0 qb n z k w2 d B lv cv S :=
  ⟨h.both.below hb, h.box.same (hb.block _ h.box.lt), h.own, h.lne, h.cne, h.pb, h.dB, h.ops, h.len, h.siz, h.qb, h.dle, h.below.trans (hb.mono h.below.size)⟩
/-- A call of the loop: what it gives, wherever the round has come to. -/
theorem AtB.does {w wr : World} {d0 d : Dk} {qb n z k B : Nat} {lv cv : Value} {S : St} (h : AtB w d0 qb n z k wr d B lv cv S) {a : Act} (ha : OkL w a) (hn : 0 < n) (hk : k < 1000000) {W : World} (hb : Below wr.heap.size wr W) :
    Calls Try.prog 10 #[ptr d0.pb, qV S lv cv, actV a] W fun e w3 => ∃ z2 la' dur2 lc' ca' cache2 cc' left2 off2 full2 ops2,
      e = .returned (.tuple #[.agg #[.int .i64 (z2 : Nat), .slice la' (dur2 : List ByteArray).length lc', .slice ca' (cache2 : List Wr).length cc', .int .i64 (left2 : Nat), .bool off2, .bool full2, .int .i64 (ops2 : Nat)], .bool true]) ∧
      DoneB W d B lv cv ⟨z2, dur2, cache2, left2, full2, off2, ops2⟩ w3 (.slice la' dur2.length lc') (.slice ca' cache2.length cc') ∧ ops2 ≤ S.ops + 1 ∧ dur2.length = S.dur.length ∧ z2 = S.z ∧ Lies w3 qb (qC S lv cv) qT ∧ Below w.heap.size w w3 ∧ W.heap.size ≤ w3.heap.size ∧ (∀ i cs t, wr.heap.size ≤ i → Lies W i cs t → Lies w3 i cs t) := by
  have h2 := h.on hb
  have hd := does_any lv cv a h2.both (ha.okA h2.below h2.dle) (by have := h.ops; omega) (by rw [h.len]; exact hn)
  rw [h2.pb] at hd
  refine hd.mono ?_
  rintro e w3 ⟨s, lv', cv', rfl, hdo⟩
  obtain ⟨la', lc', rfl⟩ : ∃ x y, lv' = .slice x (stepS S a s).dur.length y := by obtain ⟨⟨_, hB, _⟩, _⟩ := hdo; exact owns_slice hB.q.l
  obtain ⟨ca', cc', rfl⟩ : ∃ x y, cv' = .slice x (stepS S a s).cache.length y := by obtain ⟨⟨_, hB, _⟩, _⟩ := hdo; exact owns_slice hB.q.c
  have h5 := step_ops S a s
  have h6 := step_len S a s
  have h7 := step_z S a s
  generalize stepS S a s = X at hdo h5 h6 h7 ⊢
  obtain ⟨z2, dur2, cache2, left2, full2, off2, ops2⟩ := X
  refine ⟨z2, la', dur2, lc', ca', cache2, cc', left2, off2, full2, ops2, rfl, hdo, h5, h6, h7, ?_⟩
  obtain ⟨⟨d', _, hS⟩, _⟩ := hdo
  exact ⟨h2.box.same (hS.fr.block _ h2.box.lt h2.own), h2.below.trans ((h2.both.is.stepBelow hS).mono h2.dle), hS.fr.size, fun i cs t hi hL => hL.same (hS.fr.block _ hL.lt fun e => by have := (h.both.is.own_lt e).1; omega)⟩
/-- The next one, by way of another box. -/
theorem AtB.next2 {w wr W w3 : World} {d0 d : Dk} {qb nb n z k B : Nat} {lv cv lv' cv' : Value} {S S' : St} (h : AtB w d0 qb n z k wr d B lv cv S) (hb : Below wr.heap.size wr W) (hd : DoneB W d B lv cv S' w3 lv' cv') (ho : S'.ops ≤ S.ops + 1) (hl : S'.dur.length = S.dur.length) (hz : S'.z = S.z) {w4 : World} (hf : Fr (fun k => k = nb) w3 w4) (hnb : wr.heap.size ≤ nb) (hnb2 : nb < W.heap.size ∨ w3.heap.size ≤ nb) :
    ∃ d', AtB w d0 qb n z (k + 1) (w4.setRow qb (qC S' lv' cv')) d' B lv' cv' S' := by
  have hnq : qb ≠ nb := by have := h.box.lt; omega
  obtain ⟨⟨d', hB, hS⟩, hn1, hn2⟩ := hd
  have hs := hb.size
  have hqb := h.box.lt
  have hS2 : Step wr d w3 d' := (Step.of_below d hb).trans hS
  have hd2 : DoneB wr d B lv cv S' w4 lv' cv' := by
    refine ⟨⟨d', hB.frame hf (fun k hk e => ?_) (fun k hk e => ?_) (fun k hk e => ?_), hS2.frame hf fun k hk => by omega⟩, fun k hk => (hn1 k hk).imp id fun e => Nat.le_trans hs e, fun k hk => (hn2 k hk).imp id fun e => Nat.le_trans hs e⟩
    · subst hk
      have h1 := (hB.is.own_lt e).1
      rcases hS.own e with e2 | e2
      · have := (h.both.is.own_lt e2).1; omega
      · omega
    · subst e
      have h1 := (hB.q.l.lt _ hk).2
      rcases hn1 _ hk with e2 | e2
      · have := (h.both.q.l.lt _ e2).2; omega
      · omega
    · subst e
      have h1 := (hB.q.c.lt _ hk).2
      rcases hn2 _ hk with e2 | e2
      · have := (h.both.q.c.lt _ e2).2; omega
      · omega
  exact h.next (Below.refl _ _) hd2 ho hl hz (Below.refl _ _)
/-- The seven cells of a call in its list. -/
def Lies7 (W : World) (b o : Nat) (a : Act) : Prop :=
  W.cell? ⟨b, o, none⟩ = some (.int .i64 a.kind) ∧ W.cell? ⟨b, o + 1, none⟩ = some (.int .i64 a.at_) ∧ W.cell? ⟨b, o + 2, none⟩ = some (.int .i64 a.n) ∧ W.cell? ⟨b, o + 3, none⟩ = some (.int .u8 a.fill) ∧ W.cell? ⟨b, o + 4, none⟩ = some (.bool a.short) ∧ W.cell? ⟨b, o + 5, none⟩ = some (.bool a.is) ∧ W.cell? ⟨b, o + 6, none⟩ = some a.kv
theorem lies7 {w W : World} {b o : Nat} {a : Act} (h : w.rangeAt b o (aC a)) (hb : b < w.heap.size) (hw : Below w.heap.size w W) : Lies7 W b o a := by
  have e : ∀ j x, (aC a)[j]? = some x → W.cell? ⟨b, o + j, none⟩ = some x := fun j x hx => (hw.cell (p := ⟨b, o + j, none⟩) hb).trans (h j x hx)
  exact ⟨e 0 _ rfl, e 1 _ rfl, e 2 _ rfl, e 3 _ rfl, e 4 _ rfl, e 5 _ rfl, e 6 _ rfl⟩
theorem cellAl {w : World} {p : Addr} {x : Value} (h : w.cell? p = some x) (o : Obj) : (w.alloc o).cell? p = some x :=
  (World.cell?_alloc_lt _ _ _ (World.block_lt_of_cell? w p h)).trans h
theorem cellDr {w : World} {p : Addr} {x : Value} (h : w.cell? p = some x) : w.drew.cell? p = some x := h
theorem cellAlD {w : World} {p : Addr} {x : Value} (h : w.cell? p = some x) (o : Obj) : (w.alloc o).drew.cell? p = some x := cellAl h o
theorem take_at0 {L : List ByteArray} {j : Nat} (h : j < L.length) : L.take j ++ [at0 L j] = L.take (j + 1) := by
  rw [List.take_succ_eq_append_getElem h]
  unfold at0
  rw [List.getD_eq_getElem?_getD, List.getElem?_eq_getElem h]
  rfl
/-- The two new disks, beside each other. -/
theorem AtB.start {w w1 w2 : World} {d : Dk} {n z : Nat} {lv cv : Value} (hI : Is w1 d (newS n z)) (hd : w.heap.size ≤ d.B) (hb1 : Below w.heap.size w w1) (hQ : IsQ w2 w1.heap.size lv cv (newS n z)) (hb2 : Below w1.heap.size w1 w2) :
    AtB w d w2.heap.size n z 0 (w2.alloc (.cells (qC (newS n z) lv cv) qT)) d w1.heap.size lv cv (newS n z) := by
  have hfar : ∀ k, w1.heap.size ≤ k → ¬ Disk.own d k := fun k hk e => by have := (hI.own_lt e).1; omega
  have hI2 := hI.below hb2
  have hs2 := hb2.size
  have hb3 : Below w2.heap.size w2 (w2.alloc (.cells (qC (newS n z) lv cv) qT)) := (Below.refl _ _).alloc (Nat.le_refl _) _
  refine ⟨⟨hI2.below hb3, hQ.below hb3, fun k hk => hfar k (hQ.l.lt k hk).1, fun k hk => hfar k (hQ.c.lt k hk).1, by simp; omega⟩, Lies.new _ _ _, hfar _ hs2, fun e => ?_, fun e => ?_, rfl, rfl, Nat.le_refl _, by show (List.replicate n (zs z)).length = n; simp, rfl, Nat.le_trans hb1.size hs2, hd, (hb1.trans (hb2.mono hb1.size)).alloc (Nat.le_trans hb1.size hs2) _⟩
  · have := (hQ.l.lt _ e).2
    omega
  · have := (hQ.c.lt _ e).2
    omega
/-- Behind the crash: the crashed disk, what was durable, the document's cache. -/
structure TornAt (w : World) (pb qb : Nat) (was : Value) (cv : Value) (L : List ByteArray) (ws : List Wr) (C : St) (W : World) : Prop where
  is : ∃ d, d.pb = pb ∧ Is W d C
  len : C.dur.length = 8
  size : ∀ x ∈ C.dur, x.size = 16
  old : ∀ i k, i < 8 → k < 16 → Old L ws i k (byt (at0 C.dur i) k)
  fit : Fit 16 8 L ws
  cell : W.cell? ⟨qb, 2, none⟩ = some cv
  cache : ∃ B, W.ownsRow B wqT 2 cv ws.length (ws.flatMap wC)
  was : ∃ B, W.ownsRow B strT 1 was L.length (L.map Value.string)
  qlt : qb < W.heap.size
  below : Below w.heap.size w W
theorem AtB.torn {w wb wr w7 : World} {d0 d : Dk} {qb k B : Nat} {lv cv was cv7 : Value} {S : St} {ks : List Bool} {torn : Int} (h : AtB w d0 qb 8 16 k wb d B lv cv S) (ho : wr.ownsRow wb.heap.size strT 1 was S.dur.length (S.dur.map Value.string)) (hb : Below wb.heap.size wb wr) (hI : Is w7 { d with cv := cv7 } (crashS S ks torn)) (hS : Step wr d w7 { d with cv := cv7 }) :
    TornAt w d0.pb qb was cv S.dur S.cache (crashS S ks torn) w7 := by
  have h2 := h.on hb
  have hok : Ok S := h.both.is.1
  have hbx := h2.box.same (hS.fr.block _ h2.box.lt h2.own)
  refine ⟨⟨{ d with cv := cv7 }, h.pb, hI⟩, (crashL_length S.z torn S.dur (chosen S.cache ks)).trans h.len, fun x hx => ?_, fun i k hi hk => crash_old hok ks torn (by rw [h.len]; exact hi) (by rw [h.siz]; exact hk), ?_, hbx.cell 2, ⟨_, Fr.owns h2.both.q.c hS.fr fun k hk => h2.both.ac k hk⟩, ⟨_, Fr.owns ho hS.fr fun k hk e => ?_⟩, hbx.lt, h2.below.trans ((h2.both.is.stepBelow hS).mono h2.dle)⟩
  · have := hI.1.fit.size x hx
    rw [this]
    exact h.siz
  · have := hok.fit
    rw [h.siz, h.len] at this
    exact this
  · have h1 := (ho.lt k hk).1
    have h3 := (h.both.is.own_lt e).1
    omega
theorem TornAt.dur {w W wr : World} {pb qb i : Nat} {was cv : Value} {L : List ByteArray} {ws : List Wr} {C : St} (h : TornAt w pb qb was cv L ws C W) (hb : Below W.heap.size W wr) (hi : i < 8) :
    Calls Try.prog 15 #[ptr pb, .int .i64 i] wr fun e w' => e = .returned (.string (at0 C.dur i)) ∧ w' = wr := by
  obtain ⟨d, rfl, hI⟩ := h.is
  exact durableIs (hI.below hb) i (by rw [h.len]; exact hi)
theorem at0_mem {L : List ByteArray} {i : Nat} (h : i < L.length) : at0 L i ∈ L := by
  unfold at0
  rw [List.getD_eq_getElem?_getD, List.getElem?_eq_getElem h]
  exact List.getElem_mem h
theorem at0_cell {L : List ByteArray} {i : Nat} (h : i < L.length) : (L.map Value.string)[i]? = some (.string (at0 L i)) := by
  unfold at0
  rw [List.getElem?_map, List.getElem?_eq_getElem h, List.getD_eq_getElem?_getD, List.getElem?_eq_getElem h]
  rfl
theorem cell_lt' {W : World} {b o : Nat} {x : Value} (h : W.cell? ⟨b, o, none⟩ = some x) : b < W.heap.size := World.block_lt_of_cell? W _ h
/-- Some write from here on put that byte there. -/
def Some5 (ws : List Wr) (x : ByteArray) (m i k : Nat) : Prop := ∃ v ∈ ws.drop m, v.p = i ∧ byt v.s k = byt x k
theorem byt_get {x : ByteArray} {k : Nat} (h : k < x.size) : byt x k = some x[k] := by
  unfold byt
  have h2 : k < x.data.toList.length := by simpa using h
  rw [List.getElem?_eq_getElem h2]
  rfl
theorem byt_eq {x y : ByteArray} {k : Nat} (hx : k < x.size) (hy : k < y.size) (h : byt x k = byt y k) : (((x[k].toNat : Nat) : Int) == ((y[k].toNat : Nat) : Int)) = true := by
  rw [byt_get hx, byt_get hy] at h
  rw [Option.some.inj h]
  simp
theorem old_start {L : List ByteArray} {ws : List Wr} {x y : ByteArray} {i k : Nat} (hy : y = at0 L i) (h : Old L ws i k (byt x k)) (hx1 : k < x.size) (hy1 : k < y.size) :
    (((x[k].toNat : Nat) : Int) == ((y[k].toNat : Nat) : Int)) = true ∨ Some5 ws x 0 i k := by
  rcases h with h | ⟨v, hv, h1, h2⟩
  · exact .inl (byt_eq hx1 hy1 (by rw [hy]; exact h))
  · exact .inr ⟨v, by simpa using hv, h1, h2⟩
def Step5 (ws : List Wr) (x : ByteArray) (v : Wr) (m i k : Nat) : Prop := (v.p = i ∧ byt v.s k = byt x k) ∨ Some5 ws x (m + 1) i k
theorem step5 {ws : List Wr} {x : ByteArray} {v : Wr} {m i k : Nat} (h : false = true ∨ Some5 ws x m i k) (hv : ws[m]? = some v) : Step5 ws x v m i k := by
  rcases h with h | ⟨u, hu, h1, h2⟩
  · cases h
  · obtain ⟨hl, rfl⟩ := List.getElem?_eq_some_iff.1 hv
    rw [List.drop_eq_getElem_cons hl] at hu
    rcases List.mem_cons.1 hu with rfl | hu
    · exact .inl ⟨h1, h2⟩
    · exact .inr ⟨u, hu, h1, h2⟩
theorem Step5.hit {ws : List Wr} {x : ByteArray} {v : Wr} {m i k : Nat} (h : Step5 ws x v m i k) (hv : k < v.s.size) (hx : k < x.size) : (((v.s[k].toNat : Nat) : Int) == ((x[k].toNat : Nat) : Int)) = true ∨ Some5 ws x (m + 1) i k :=
  h.imp (fun e => byt_eq hv hx e.2) id
theorem Step5.miss {ws : List Wr} {x : ByteArray} {v : Wr} {m i k : Nat} (h : Step5 ws x v m i k) (he : ¬ v.p = i) : Some5 ws x (m + 1) i k := h.resolve_left fun e => he e.1
theorem Some5.none {ws : List Wr} {x : ByteArray} {m i k : Nat} (h : Some5 ws x m i k) (hm : ws.length ≤ m) : False := by
  obtain ⟨u, hu, _⟩ := h
  rw [List.drop_eq_nil_of_le hm] at hu
  cases hu
theorem TornAt.olds {w W : World} {pb qb i : Nat} {was cv : Value} {L : List ByteArray} {ws : List Wr} {C : St} (h : TornAt w pb qb was cv L ws C W) (hi : i < 8) :
    (at0 C.dur i).size = 16 ∧ ∀ k, k < 16 → Old L ws i k (byt (at0 C.dur i) k) :=
  ⟨h.size _ (at0_mem (by rw [h.len]; exact hi)), fun k hk => h.old i k hi hk⟩
end Go.Proofs.Ytebiebbbkdbffaa.Disk
