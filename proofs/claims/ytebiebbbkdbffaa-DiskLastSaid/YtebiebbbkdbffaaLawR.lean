/-
  For the law DiskLast: two lists that grow by turns, a list of bools that is filled, what is known behind the crash.
-/
import Derived.Test.YtebiebbbkdbffaaLawP
namespace Go.Proofs.Ytebiebbbkdbffaa.Disk
open Go Go.RowKit

/-- Two lists of texts in different blocks, each one longer. -/
theorem two_appends (w : World) (B : Nat) (a1 a2 : Option Addr) (c1 c2 j : Nat) (L1 L2 : List ByteArray) (x y : ByteArray) (h1 : w.ownsRow B strT 1 (.slice a1 j c1) j (L1.map Value.string)) (h2 : w.ownsRow B strT 1 (.slice a2 j c2) j (L2.map Value.string)) (hl1 : L1.length = j) (hl2 : L2.length = j) (hj : j ≤ 2000000) (hB : B ≤ w.heap.size)
    (hne : ∀ k, (Value.slice a1 j c1).ownBlock = some k → (Value.slice a2 j c2).ownBlock ≠ some k) :
    ∃ a1' c1' w6 a2' c2' w9, (Builtin.append_ #[30, 30] 30 #[.slice a1 j c1, .slice (some ⟨w.heap.size, 0, none⟩) 1 1]).run Try.prog (w.alloc (.cells #[.string x] strT)) = .ok (.slice a1' (j + 1) c1') w6 ∧
      (Builtin.append_ #[30, 30] 30 #[.slice a2 j c2, .slice (some ⟨w6.heap.size, 0, none⟩) 1 1]).run Try.prog (w6.alloc (.cells #[.string y] strT)) = .ok (.slice a2' (j + 1) c2') w9 ∧
      w9.ownsRow B strT 1 (.slice a1' (j + 1) c1') (j + 1) ((L1 ++ [x]).map Value.string) ∧ w9.ownsRow B strT 1 (.slice a2' (j + 1) c2') (j + 1) ((L2 ++ [y]).map Value.string) ∧
      (∀ k, (Value.slice a1' (j + 1) c1').ownBlock = some k → (Value.slice a2' (j + 1) c2').ownBlock ≠ some k) ∧ Below B w w9 := by
  obtain ⟨v1, w6, r1, o1, g1, f1⟩ := append_str (w.alloc (.cells #[.string x] strT)) B w.heap.size (.slice a1 j c1) L1 x (Lies.new _ _ _) (by rw [hl1]; exact h1.alloc _) (by omega) (by simp; omega)
  rw [hl1] at o1
  obtain ⟨a1', c1', rfl⟩ := owns_slice o1
  have F1 : Fr (fun k => (Value.slice a1 j c1).ownBlock = some k) w w6 := (Fr.of_below ((Below.refl _ _).alloc (Nat.le_refl _) _)).grown g1 fun k hk _ => hk
  have h2' : w6.ownsRow B strT 1 (.slice a2 j c2) j (L2.map Value.string) := Fr.owns h2 F1 fun k hk e => hne k e hk
  obtain ⟨v2, w9, r2, o2, g2, f2⟩ := append_str (w6.alloc (.cells #[.string y] strT)) B w6.heap.size (.slice a2 j c2) L2 y (Lies.new _ _ _) (by rw [hl2]; exact h2'.alloc _) (by omega) (by have := F1.size; simp; omega)
  rw [hl2] at o2
  obtain ⟨a2', c2', rfl⟩ := owns_slice o2
  have F2 : Fr (fun k => (Value.slice a2 j c2).ownBlock = some k) w6 w9 := (Fr.of_below ((Below.refl _ _).alloc (Nat.le_refl _) _)).grown g2 fun k hk _ => hk
  have hx : ∀ k, (Value.slice a1' (j + 1) c1').ownBlock = some k → (Value.slice a2 j c2).ownBlock ≠ some k := fun k hk e => by
    rcases f1 k hk with e1 | e1
    · exact hne k e1 e
    · have := (h2.lt k e).2
      simp at e1
      omega
  refine ⟨a1', c1', w6, a2', c2', w9, r1, r2, Fr.owns o1 F2 fun k hk e => hx k hk e, o2, fun k hk e => ?_, ?_⟩
  · rcases f2 k e with e2 | e2
    · exact hx k hk e2
    · have := (o1.lt k hk).2
      simp at e2
      omega
  · exact (F1.below hB fun k hk => (h1.lt k hk).1).trans (F2.below (Nat.le_trans hB F1.size) fun k hk => (h2.lt k hk).1)
/-- The list of bools, filled so far. -/
def boolC (m n : Nat) (b : Bool) : Array Value := (List.replicate m (Value.bool b) ++ List.replicate (n - m) (Value.bool false)).toArray
theorem boolC_size {m n : Nat} {b : Bool} (h : m ≤ n) : (boolC m n b).size = n := by
  unfold boolC
  simp
  omega
theorem boolC_at {m n : Nat} {b : Bool} (h : m < n) : (boolC m n b)[m]? = some (.bool false) := by
  unfold boolC
  simp [List.getElem?_append, List.getElem?_replicate]
  omega
theorem boolC_set {m n : Nat} {b : Bool} (h : m < n) : (boolC m n b).setIfInBounds m (.bool b) = boolC (m + 1) n b := by
  unfold boolC
  obtain ⟨r, rfl⟩ : ∃ r, n = m + 1 + r := ⟨n - (m + 1), by omega⟩
  rw [show m + 1 + r - m = r + 1 by omega, show m + 1 + r - (m + 1) = r by omega, List.replicate_succ, List.replicate_succ']
  simp [List.set_append]
theorem boolC_all {n i : Nat} {b : Bool} (h : i < n) : (boolC n n b)[i]? = some (.bool b) := by
  unfold boolC
  simp [h]
theorem infoB : (Try.prog.info? 4).map (fun i => (i.zero, i.size, i.bytes)) = some (some (.bool false), 1, 1) := by kernel_rfl
theorem made_bools (n : Nat) (b : Bool) : madeCells (Value.bool false).cells n = boolC 0 n b := by
  show madeCells #[.bool false] n = _
  apply Array.ext_getElem?
  intro j
  by_cases hj : j < n
  · rw [Array.getElem?_eq_getElem (by rw [size_madeCells]; exact hj)]
    unfold madeCells boolC
    simp [hj, Nat.mod_one]
  · rw [Array.getElem?_eq_none (by rw [size_madeCells]; omega), Array.getElem?_eq_none (by rw [boolC_size (by omega)]; omega)]
theorem make_bools (n : Nat) (b : Bool) (hn : n ≤ 1000000) (W : World) : (Instr.makeSlice 37 (.int .i64 n) (.int .i64 n)).run Try.prog W = .ok (.slice (some ⟨W.heap.size, 0, none⟩) n n) (W.alloc (.cells (boolC 0 n b) 4)) := by
  obtain ⟨i, hi, hz0, hz1, hz2⟩ := info_parts infoB
  have h := run_make (P := Try.prog) W 37 4 i (.bool false) Try.underlying37 hi hz0 .i64 .i64 n n (by omega) (by omega) (by rw [hz2]; omega) (by omega)
  rw [h, hz1, Int.toNat_natCast, Nat.mul_one, made_bools n b]
theorem reads_bools {W : World} {g n : Nat} {b : Bool} (h : Lies W g (boolC n n b) 4) : ReadsK W (.slice (some ⟨g, 0, none⟩) n n) (List.replicate n b) := by
  by_cases h0 : n = 0
  · subst h0
    exact .inl ⟨_, _, rfl, rfl⟩
  · refine .inr ⟨by simp; omega, g, 0, n, by simp, h.lt, fun i hi => ?_⟩
    rw [List.length_replicate] at hi
    rw [Nat.zero_add, h.cell i, boolC_all hi]
    simp [List.getD_eq_getElem?_getD, hi]
/-- What the reads give, the first j. -/
def readL (S : St) (j : Nat) : List ByteArray := (List.range j).map fun i : Nat => (readS S (i : Int)).1
theorem readL_length (S : St) (j : Nat) : (readL S j).length = j := by simp [readL]
theorem readL_succ (S : St) (j : Nat) : readL S j ++ [(readS S (j : Int)).1] = readL S (j + 1) := by
  unfold readL
  rw [List.range_succ, List.map_append]
  rfl
theorem readL_at {S : St} {i j : Nat} (h : i < j) : ((readL S j).map Value.string)[i]? = some (.string (readS S (i : Int)).1) := by
  unfold readL
  simp [h]
/-- The crash that keeps all, or none. -/
def lastS (S : St) (all : Bool) : St := crashS S (List.replicate S.cache.length all) (-1)
theorem last_read {S : St} {all : Bool} {i : Nat} (h : i < S.dur.length) : readS (lastS S all) (i : Int) = (at0 (lastS S all).dur i, 0) := by
  have hl : (lastS S all).dur.length = S.dur.length := crashL_length _ _ _ _
  unfold readS
  rw [if_neg (by rw [hl]; omega), if_neg (by show ¬ (false = true); simp)]
  rfl
theorem last_none {S : St} {i : Nat} : at0 (lastS S false).dur i = at0 S.dur i := by
  unfold lastS
  rw [crash_no]
theorem last_all {S : St} {i : Nat} (h : i < S.dur.length) (ho : S.off = false) : at0 (lastS S true).dur i = (readS S (i : Int)).1 := by
  unfold lastS
  rw [crash_all _ _ (Nat.le_refl _)]
  unfold readS
  rw [if_neg (by omega), if_neg (by rw [ho]; simp)]
  rfl
theorem AtB.cut {w wr w3 : World} {d0 d : Dk} {qb n z k B : Nat} {lv cv cv3 : Value} {S S' : St} (h : AtB w d0 qb n z k wr d B lv cv S) (hI : Is w3 { d with cv := cv3 } S') (hS : Step wr d w3 { d with cv := cv3 }) :
    ∃ d3, d3.pb = d0.pb ∧ Is w3 d3 S' ∧ Below w.heap.size w w3 ∧ w.heap.size ≤ d3.B :=
  ⟨{ d with cv := cv3 }, h.pb, hI, h.below.trans ((h.both.is.stepBelow hS).mono h.dle), h.dle⟩
/-- The two lists, so far. -/
structure Two (w3 : World) (S : St) (a1 a2 : Option Addr) (c1 c2 j : Nat) (wr : World) : Prop where
  o1 : wr.ownsRow w3.heap.size strT 1 (.slice a1 j c1) j ((S.dur.take j).map Value.string)
  o2 : wr.ownsRow w3.heap.size strT 1 (.slice a2 j c2) j ((readL S j).map Value.string)
  ne : ∀ k, (Value.slice a1 j c1).ownBlock = some k → (Value.slice a2 j c2).ownBlock ≠ some k
  below : Below w3.heap.size w3 wr
theorem Two.start (w3 : World) (S : St) : Two w3 S none none 0 0 0 w3 := ⟨World.ownsRow_nil _ _ _ _, World.ownsRow_nil _ _ _ _, fun k h => by simp [Value.ownBlock] at h, Below.refl _ _⟩
theorem Two.next {w3 wr : World} {S : St} {a1 a2 : Option Addr} {c1 c2 j : Nat} (h : Two w3 S a1 a2 c1 c2 j wr) (hj : j < 8) (hl : S.dur.length = 8) :
    ∃ a1' c1' w6 a2' c2' w9, (Builtin.append_ #[30, 30] 30 #[.slice a1 j c1, .slice (some ⟨wr.heap.size, 0, none⟩) 1 1]).run Try.prog (wr.alloc (.cells #[.string (at0 S.dur j)] strT)) = .ok (.slice a1' (j + 1) c1') w6 ∧
      (Builtin.append_ #[30, 30] 30 #[.slice a2 j c2, .slice (some ⟨w6.heap.size, 0, none⟩) 1 1]).run Try.prog (w6.alloc (.cells #[.string (readS S (j : Int)).1] strT)) = .ok (.slice a2' (j + 1) c2') w9 ∧ Two w3 S a1' a2' c1' c2' (j + 1) w9 := by
  obtain ⟨a1', c1', w6, a2', c2', w9, r1, r2, o1, o2, hn, hb⟩ := two_appends wr w3.heap.size a1 a2 c1 c2 j (S.dur.take j) (readL S j) (at0 S.dur j) (readS S (j : Int)).1 h.o1 h.o2 (by rw [List.length_take]; omega) (readL_length _ _) (by omega) h.below.size h.ne
  exact ⟨a1', c1', w6, a2', c2', w9, r1, r2, by rw [take_at0 (by omega)] at o1; rw [readL_succ] at o2; exact ⟨o1, o2, hn, h.below.trans hb⟩⟩
/-- Behind the last crash. -/
structure LastAt (w : World) (pb : Nat) (S : St) (all : Bool) (g1 g2 : Nat) (W : World) : Prop where
  is : ∃ d, d.pb = pb ∧ Is W d (lastS S all)
  was : ∀ i, i < 8 → W.cell? ⟨g1, i, none⟩ = some (.string (at0 S.dur i))
  now : ∀ i, i < 8 → W.cell? ⟨g2, i, none⟩ = some (.string (readS S (i : Int)).1)
  lt1 : g1 < W.heap.size
  lt2 : g2 < W.heap.size
  below : Below w.heap.size w W
theorem Two.crash {w w3 wc wr w7 : World} {d3 : Dk} {S : St} {a1 a2 : Option Addr} {c1 c2 : Nat} {all : Bool} {cv7 : Value} (h : Two w3 S a1 a2 c1 c2 8 wc) (hl : S.dur.length = 8) (hI : Is w3 d3 S) (hw : Below w.heap.size w w3) (hle : w.heap.size ≤ d3.B) (hb : Below wc.heap.size wc wr) (hI7 : Is w7 { d3 with cv := cv7 } (lastS S all)) (hS : Step wr d3 w7 { d3 with cv := cv7 }) :
    ∃ g1 g2, a1 = some ⟨g1, 0, none⟩ ∧ a2 = some ⟨g2, 0, none⟩ ∧ LastAt w d3.pb S all g1 g2 w7 := by
  have hbw : Below w3.heap.size w3 wr := h.below.trans (hb.mono h.below.size)
  have own : ∀ v xs, wc.ownsRow w3.heap.size strT 1 v 8 xs → w7.ownsRow w3.heap.size strT 1 v 8 xs := fun v xs ho => Fr.owns (Fr.owns ho (Fr.of_below (F := fun _ => False) hb) fun _ _ e => e) hS.fr fun k hk e => by
    have := (ho.lt k hk).1
    have := (hI.own_lt e).1
    omega
  have e1 := h.o1
  rw [List.take_of_length_le (by omega)] at e1
  obtain ⟨g1, x1, hv1, hg1, _, hc1, _⟩ := owns_block (own _ _ e1) (by omega)
  obtain ⟨g2, x2, hv2, hg2, _, hc2, _⟩ := owns_block (own _ _ h.o2) (by omega)
  obtain ⟨ha1, -, -⟩ := Value.slice.inj hv1
  obtain ⟨ha2, -, -⟩ := Value.slice.inj hv2
  refine ⟨g1, g2, ha1, ha2, ⟨{ d3 with cv := cv7 }, rfl, hI7⟩, fun i hi => hc1 _ _ (at0_cell (by omega)), fun i hi => hc2 _ _ (readL_at hi), cell_lt' (hc1 0 _ (at0_cell (by omega))), cell_lt' (hc2 0 _ (readL_at (by omega))), ?_⟩
  exact (hw.trans (hbw.mono hw.size)).trans (((hI.below hbw).stepBelow hS).mono hle)
theorem LastAt.read {w W wr : World} {pb g1 g2 i : Nat} {S : St} {all : Bool} (h : LastAt w pb S all g1 g2 W) (hl : S.dur.length = 8) (hb : Below W.heap.size W wr) (hi : i < 8) :
    Calls Try.prog 14 #[ptr pb, .int .i64 i] wr fun e w' => e = .returned (.tuple #[.string (at0 (lastS S all).dur i), .int .i64 0]) ∧ wr = w' := by
  obtain ⟨d, rfl, hI⟩ := h.is
  have := readIs_any (hI.below hb) (i : Int)
  rw [last_read (by omega)] at this
  exact this
theorem LastAt.cached {w W wr : World} {pb g1 g2 : Nat} {S : St} {all : Bool} (h : LastAt w pb S all g1 g2 W) (hb : Below W.heap.size W wr) :
    Calls Try.prog 16 #[ptr pb] wr fun e w' => e = .returned (.int .i64 0) ∧ w' = wr := by
  obtain ⟨d, rfl, hI⟩ := h.is
  exact cachedIs (hI.below hb)
theorem LastAt.isOn {w W wr : World} {pb g1 g2 : Nat} {S : St} {all : Bool} (h : LastAt w pb S all g1 g2 W) (hb : Below W.heap.size W wr) :
    Calls Try.prog 13 #[ptr pb] wr fun e w' => e = .returned (.bool false) ∧ w' = wr := by
  obtain ⟨d, rfl, hI⟩ := h.is
  exact offIs (hI.below hb)
end Go.Proofs.Ytebiebbbkdbffaa.Disk
