/-
  Walks of the store: Format, Open, Scan.
-/
import Derived.Test.YtghpohiinnallaaGreatDoorKgStore
import Derived.Test.YtghpohiinnallaaGreatDoorKgWalB
import Derived.Lib.SliceRun
import Derived.Test.YtghpohiinnallaaGreatDoorKgWal

/-
  Walks of the store: Format, Open.
-/
namespace Go.Proofs.YtghpohiinnallaaGreatDoor.Kv
open Go Go.RowKit
open Go.Proofs.YtghpohiinnallaaGreatDoor.Disk (St Dk Is own Fr Lies newS)
open Go.Proofs.YtghpohiinnallaaGreatDoor.Wal (Wl Wk Log ownW StepW Done Grp Has Kin framesS fmtS formatW openW)
open Go.Proofs.YtghpohiinnallaaGreatDoor.Batch (less Rising at? Chg ptr)
open Go.Proofs.YtghpohiinnallaaGreatDoor.Nets (Tab Reads Small)

section
variable {w : World} {d : Dk}
theorem range_neg (d : Value) (q : Int) (hq : q < 0) (_h1 : -9223372036854775808 ≤ q) : Calls Tryz.prog 25 #[d, .int .i64 q] w fun e w' => e = .returned (.tuple #[.pointer none, .int .i64 1]) ∧ w' = w := by
  have hd : decide (q < 0) = true := decide_eq_true hq
  go_enter Tryz.func25, Tryz.ntmps25
  go_wp2_with fail
  go_ret2
  exact ⟨rfl, rfl⟩
theorem range_open (d : Value) (q : Int) (hq : q < 0) (_h1 : -9223372036854775808 ≤ q) : Calls Tryz.prog 26 #[d, .int .i64 q] w fun e w' => e = .returned (.tuple #[.pointer none, .int .i64 1]) ∧ w' = w := by
  have hd : decide (q < 0) = true := decide_eq_true hq
  go_enter Tryz.func26, Tryz.ntmps26
  go_wp2_with fail
  go_ret2
  exact ⟨rfl, rfl⟩
def FormatPost (w : World) (d : Dk) (n z q : Nat) (e : Ending) (w' : World) : Prop :=
  ∃ x, e = .returned (.tuple #[ptr x.ps, .int .i64 0]) ∧ Store w' x (fmtS n z) ⟨0, 0, []⟩ q [] ∧ x.k.d.B = d.B ∧ x.k.d.pb = d.pb ∧ Below d.B w w' ∧ x.pv = .slice none 0 0
theorem formatS {n z q : Nat} (h : Is w d (newS n z)) (h1 : 8 ≤ n) (h2 : n ≤ 40) (h3 : 16 ≤ z) (h4 : z ≤ 64) (hq : q ≤ 9223372036854775807) :
    Calls Tryz.prog 25 #[ptr d.pb, .int .i64 q] w (FormatPost w d n z q) := by
  have HF := Lib.hid (formatW h h1 h2 h3 h4)
  have hd : decide ((q : Int) < 0) = false := decide_eq_false (by omega)
  clear h
  go_enter Tryz.func25, Tryz.ntmps25
  go_wp2_with fail
  refine HF.out.mono ?_
  rintro e w1 ⟨k, rfl, hl, hB, hpb, hbl⟩
  have HH := Lib.hid (And.intro hl (And.intro hB (And.intro hpb hbl)))
  clear hl hB hpb hbl
  go_wp2_with fail
  go_ret2
  obtain ⟨hl, hB, hpb, hbl⟩ := HH.out
  have hlt := fun b hb => hl.own_lt (b := b) hb
  have hb : Below w1.heap.size w1 (w1.alloc (.cells #[ptr k.pw, .int .i64 q, .slice none 0 0, .int .i64 0] stT)) := (Below.refl _ _).alloc (Nat.le_refl _) _
  have hpw := (hl.own_lt (b := k.pw) (.inr (.inl rfl)))
  have hBs : d.B ≤ w1.heap.size := by have := hpw.2; rw [← hB]; omega
  refine ⟨⟨k, w1.heap.size, .slice none 0 0⟩, rfl, ⟨hl.below hb, Lies.new _ _ _, nil_readsP _, ?_, fun e => ?_, fun b hb => by cases hb⟩, hB, hpb, hbl.trans (hb.mono hBs), rfl⟩
  · show k.d.B ≤ w1.heap.size; omega
  · have := (hlt _ e).1
    exact Nat.lt_irrefl _ this
/-- How an opened store stands. -/
def OpenPost (w : World) (d : Dk) (S : St) (hf : Nat) (gs : List Grp) (q : Nat) (P : List Pr) (e : Ending) (w' : World) : Prop :=
  ∃ x, e = .returned (.tuple #[ptr x.ps, .int .i64 0]) ∧ Store w' x S ⟨hf, (framesS gs).length, []⟩ q P ∧ x.k.d = d ∧ Below w.heap.size w w' ∧ (∀ b, ownS x b → own d b ∨ w.heap.size ≤ b) ∧ w.heap.size ≤ x.ps
set_option maxRecDepth 100000 in
set_option maxHeartbeats 2000000 in
theorem openS {S : St} (h : Is w d S) (hf : Nat) (gs : List Grp) (hh : Has S hf gs) (cs : List Chg) (hcs : gs.flatten = cs.map texB) (ht : ∀ c ∈ cs, Told c) (hsz : ∀ c ∈ cs, (texB c).size ≤ 100000) (hl : cs.length ≤ 100000) (q : Nat) (hq : q ≤ 9223372036854775807) (hu : used (done [] cs) ≤ 1000000000000) :
    Calls Tryz.prog 26 #[ptr d.pb, .int .i64 q] w (OpenPost w d S hf gs q (done [] cs)) := by
  have HO := Lib.hid (openW h hf gs hh)
  have hd : decide ((q : Int) < 0) = false := decide_eq_false (by omega)
  have HOL := Lib.hid (fun b (hb : own d b) => (h.own_lt hb).1)
  have HT := Lib.hid (And.intro hcs (And.intro ht (And.intro hsz (And.intro hl hu))))
  clear h hh hcs ht hsz hl hu
  go_enter Tryz.func26, Tryz.ntmps26
  go_wp2_with fail
  refine HO.out.mono ?_
  rintro e w1 ⟨k, v, rfl, hkd, ho, hlog, hpw, hB, hvn, hown⟩
  obtain ⟨hcs, ht, hsz, hl, hu⟩ := HT.out
  have HRA := Lib.hid (read_all v cs w1 (by rw [← hcs]; exact Nets.reads_owns ho) ht hsz hl)
  obtain ⟨va, vc, hv⟩ := Disk.owns_slice ho
  generalize gs.flatten.length = n1 at hv
  have HL := Lib.hid (And.intro hlog (And.intro hkd (And.intro hpw (And.intro hB hown))))
  clear hkd ho hlog hpw hB hvn hown hcs ht hsz hl hu
  subst hv
  go_wp2_with fail
  refine HRA.out.mono ?_
  rintro e w2 ⟨u, rfl, ho2, hb2⟩
  have HLA := Lib.hid (latest_any w2 w1.heap.size u cs ho2 hb2.size HT.out.2.2.2.1)
  obtain ⟨ua, uc, hu⟩ := Batch.owns_slice ho2
  generalize cs.length = n2 at hu
  have HB2 := Lib.hid hb2
  clear ho2 hb2
  subst hu
  go_wp2_with fail
  refine HLA.out.mono ?_
  rintro e w3 ⟨v3, t, rfl, hrt, hrise, htl, hmem, hdt, hb3⟩
  have hb3' : Below w1.heap.size w1 w3 := HB2.out.trans hb3
  have HAP := Lib.hid (apply_any (.slice none 0 0) v3 [] t w3 (nil_readsP _) hrt rising_nil hrise (by simp) (by have := HT.out.2.2.2.1; omega))
  have HB3 := Lib.hid (And.intro hb3' hdt)
  clear hrt hrise htl hmem hdt hb3 hb3'
  go_wp2_with fail
  refine HAP.out.mono ?_
  rintro e w4 ⟨u4, rfl, ho4, hb4⟩
  rw [HB3.out.2] at ho4
  have hb4' : Below w1.heap.size w1 w4 := HB3.out.1.trans (hb4.mono HB3.out.1.size)
  have hrp := owns_readsP ho4
  have hpl : (done [] cs).length ≤ 1000000 := by
    have := done_length [] cs
    have := HT.out.2.2.2.1
    simp at *
    omega
  have HSP := Lib.hid (space_any u4 (done [] cs) w4 hrp hpl HT.out.2.2.2.2)
  obtain ⟨a4, c4, h4⟩ := Batch.owns_slice ho4
  have hlt4 := ho4.lt
  have HB4 := Lib.hid (And.intro hb4' (And.intro hrp (And.intro hlt4 HB3.out.1.size)))
  clear ho4 hb4 hb4' hrp hpl hlt4
  obtain ⟨US, hUS⟩ : ∃ US, US = used (done [] cs) := ⟨_, rfl⟩
  rw [← hUS] at HSP
  have HUS := Lib.hid hUS
  have hUl : US ≤ 1000000000000 := by rw [hUS]; exact HT.out.2.2.2.2
  clear hUS
  generalize (done [] cs).length = n4 at *
  subst h4
  go_wp2_with fail
  refine HSP.out.mono ?_
  rintro e w5 ⟨rfl, hb5⟩
  have HB5 := Lib.hid hb5
  clear hb5
  go_wp2_with fail
  go_ret2
  obtain ⟨hlog, hkd, hpw, hB, hown⟩ := HL.out
  obtain ⟨hb4, hrp, hlt4, hs34⟩ := HB4.out
  have hb5 : Below w1.heap.size w1 w5 := hb4.trans (HB5.out.mono hb4.size)
  have hb6 : Below w5.heap.size w5 (w5.alloc (.cells #[ptr k.pw, .int .i64 q, .slice a4 n4 c4, .int .i64 US] stT)) := (Below.refl _ _).alloc (Nat.le_refl _) _
  have hb7 := hb5.trans (hb6.mono hb5.size)
  have hl7 := hlog.below hb7
  have hown1 : ∀ b, ownW k b → b < w1.heap.size := fun b hb => (hlog.own_lt hb).1
  refine ⟨⟨k, w5.heap.size, .slice a4 n4 c4⟩, rfl, ⟨hl7, ?_, (hrp.below HB5.out).below hb6, ?_, fun e => ?_, fun b hb e => ?_⟩, hkd, hB.trans (hb7.mono hB.size), fun b hb => ?_, ?_⟩
  · unfold cellsS
    rw [← HUS.out]
    exact Lies.new w5 _ _
  · show k.d.B ≤ w5.heap.size
    have := (hlog.own_lt (b := k.pw) (.inr (.inl rfl))).2
    have := hown1 k.pw (.inr (.inl rfl))
    have := hb5.size
    omega
  · have h1 : w5.heap.size < w1.heap.size := hown1 _ e
    have := hb5.size
    omega
  · have h1 := (hlt4 b hb)
    rcases e with e | e
    · have := hown1 _ e
      have := HB3.out.1.size
      omega
    · have : b = w5.heap.size := e
      have := HB5.out.size
      omega
  · rcases hb with hb | hb
    · exact hown b hb
    · have : b = w5.heap.size := hb
      have := hb5.size
      have := hB.size
      exact .inr (by omega)
  · have := hb5.size
    have := hB.size
    show w.heap.size ≤ w5.heap.size
    omega
end
end Go.Proofs.YtghpohiinnallaaGreatDoor.Kv

/-
  Walks of the store: Scan.
-/
namespace Go.Proofs.YtghpohiinnallaaGreatDoor.Kv
open Go Go.RowKit
open Go.Proofs.YtghpohiinnallaaGreatDoor.Disk (St Dk own Fr Lies)
open Go.Proofs.YtghpohiinnallaaGreatDoor.Wal (Wl Wk Log)
open Go.Proofs.YtghpohiinnallaaGreatDoor.Batch (less less_iff less_not Rising at? lo lo_le lo_below Chg ptr bl)
open Go.Proofs.YtghpohiinnallaaGreatDoor.Nets (Tab Reads Small)

/-! Which keys begin with a text. -/
def hasP (p s : ByteArray) : Bool := (bl p).isPrefixOf (bl s)
theorem hasP_len {p s : ByteArray} (h : s.size < p.size) : hasP p s = false := by
  unfold hasP
  rw [← Bool.not_eq_true, List.isPrefixOf_iff_prefix]
  intro e
  have := e.length_le
  simp at this
  omega
theorem extract_bl (s : ByteArray) (a b : Nat) : bl (s.extract a b) = ((bl s).drop a).take (b - a) := Lib.extract_data s a b
theorem hasP_eq {p s : ByteArray} (_h : p.size ≤ s.size) : ((s.extract 0 p.size).toList == p.toList) = hasP p s := by
  rw [Batch.key_eq, Bool.eq_iff_iff, decide_eq_true_eq]
  unfold hasP
  rw [List.isPrefixOf_iff_prefix, List.prefix_iff_eq_take]
  have e : bl (s.extract 0 p.size) = (bl s).take (bl p).length := by
    rw [extract_bl]
    simp
  constructor
  · intro h1
    rw [← e, h1]
  · intro h1
    exact Batch.bl_inj (by rw [e]; exact h1.symm)
set_option maxHeartbeats 1000000 in
theorem prefixL_any (s p : ByteArray) (w : World) (b : Bool) (hb : hasP p s = b) (_h1 : s.size ≤ 9223372036854775807) (_h2 : p.size ≤ 9223372036854775807) :
    Calls Tryz.prog 76 #[.string s, .string p] w fun e w' => e = .returned (.bool b) ∧ w' = w := by
  by_cases hl : p.size ≤ s.size
  · have he := (hasP_eq hl).trans hb
    have hd : decide ((p.size : Int) ≤ (s.size : Int)) = true := decide_eq_true (by omega)
    have hd2 : decide (p.size ≤ s.size) = true := decide_eq_true hl
    clear hb
    go_enter Tryz.func76, Tryz.ntmps76
    go_wp2_with fail
    go_ret
    exact ⟨rfl, rfl⟩
  · obtain rfl : b = false := by rw [← hb]; exact hasP_len (by omega)
    have hd : decide ((p.size : Int) ≤ (s.size : Int)) = false := decide_eq_false (by omega)
    have hd2 : decide (p.size ≤ s.size) = false := decide_eq_false hl
    clear hb
    go_enter Tryz.func76, Tryz.ntmps76
    go_wp2_with fail
    go_ret
    exact ⟨rfl, rfl⟩
theorem prefix_any (s p : ByteArray) (w : World) (b : Bool) (hb : hasP p s = b) (h1 : s.size ≤ 9223372036854775807) (h2 : p.size ≤ 9223372036854775807) :
    Calls Tryz.prog 43 #[.string s, .string p] w fun e w' => e = .returned (.bool b) ∧ w' = w := by
  have HP := Lib.hid (fun W => prefixL_any s p W b hb h1 h2)
  clear hb
  go_enter Tryz.func43, Tryz.ntmps43
  go_wp2_with fail
  refine (HP.out _).mono ?_
  rintro e w1 ⟨rfl, rfl⟩
  go_wp2_with fail
  go_ret
  exact ⟨rfl, rfl⟩

/-! A part of the pairs, copied. -/
theorem eq_nilP (w : World) (a : Option Addr) (n c : Nat) : (binOp .eql prsT (.slice a n c) (.slice none 0 0)).run Tryz.prog w = .ok (.bool a.isNone) w :=
  Lib.run_eql_slice_nil w prsT prT a n c 0 0 Tryz.underlying44
theorem owns_empty (w : World) : (w.alloc (.cells #[] prT)).ownsRow w.heap.size prT 2 (.slice (some ⟨w.heap.size, 0, none⟩) 0 0) 0 [] :=
  ⟨by simp, .inr ⟨w.heap.size, 0, #[], rfl, Nat.le_refl _, heap_alloc_new _ _, Nat.le_refl _, by decide, by simp, by simp⟩⟩
theorem cloneP_any (w : World) (v : Value) (T : List Pr) (h : ReadsP w v T) (hl : T.length ≤ 100000) :
    Calls Tryz.prog 44 #[v] w fun e w' => ∃ u, e = .returned u ∧ w'.ownsRow w.heap.size prT 2 u T.length (T.flatMap prC) ∧ Below w.heap.size w w' := by
  rcases h.cases with ⟨rfl, rfl⟩ | ⟨b, off, cap, rfl, hrow⟩
  · have hq := fun W => eq_nilP W none 0 0
    clear h
    go_enter Tryz.func44, Tryz.ntmps44
    go_wp2_with fail
    go_ret
    exact ⟨_, rfl, World.ownsRow_nil _ _ _ _, Below.refl _ _⟩
  · obtain ⟨n, hn⟩ : ∃ n, n = T.length := ⟨_, rfl⟩
    rw [← hn] at h ⊢
    have hb : Below w.heap.size w (w.alloc (.cells #[] prT)) := (Below.refl _ _).alloc (Nat.le_refl _) _
    obtain ⟨v', w', hr, hh⟩ := append_pairs (w.alloc (.cells #[] prT)) w.heap.size (.slice (some ⟨w.heap.size, 0, none⟩) 0 0) _ [] T (by simpa using owns_empty w) (h.below hb) (by simp) (by omega) (by simp)
    obtain ⟨h1, h2, _⟩ := hh.out
    have hB : Below w.heap.size w w' := hb.trans (h2.below (by simp) fun k hk => by
      have : w.heap.size = k := by simpa [Value.ownBlock] using hk
      omega)
    rw [List.nil_append] at h1
    have HR := Lib.hid hr
    have HH := Lib.hid (And.intro h1 (And.intro hB hn))
    have hq := fun W => eq_nilP W (some ⟨b, off, none⟩) n cap
    clear h hr hh h1 h2 hB hb hn hrow
    go_enter Tryz.func44, Tryz.ntmps44
    go_wp2_with (at_builtin; refine Lib.wpList_append_run _ rfl _ _ _ _ rfl _ _ rfl rfl _ _ HR.out ?_)
    go_ret
    refine ⟨_, rfl, ?_, HH.out.2.1⟩
    rw [HH.out.2.2]
    exact HH.out.1

/-- The pairs whose keys begin with a text. -/
def scanL (p : ByteArray) (P : List Pr) : List Pr := P.filter fun x => hasP p x.key
theorem prefix_less {p s : List UInt8} (h : p <+: s) : p ≤ s := by
  obtain ⟨t, rfl⟩ := h
  induction p with
  | nil => exact List.nil_le _
  | cons a p ih => rw [List.cons_append]; exact List.cons_le_cons_iff.2 (.inr ⟨rfl, ih⟩)
theorem prefix_conv : ∀ {p y z : List UInt8}, p ≤ y → y ≤ z → p <+: z → p <+: y
  | [], _, _, _, _, _ => List.nil_prefix
  | a :: p, [], _, h, _, _ => by
    exfalso
    exact absurd h (by simp)
  | a :: p, b :: y, [], _, h, _ => by
    exfalso
    exact absurd h (by simp)
  | a :: p, b :: y, c :: z, h1, h2, h3 => by
    obtain ⟨rfl, h4⟩ := List.cons_prefix_cons.1 h3
    rcases List.cons_le_cons_iff.1 h1 with g1 | ⟨rfl, g1⟩
    · rcases List.cons_le_cons_iff.1 h2 with g2 | ⟨rfl, g2⟩
      · exact absurd (UInt8.lt_trans g1 g2) (UInt8.lt_irrefl a)
      · exact absurd g1 (UInt8.lt_irrefl b)
    · rcases List.cons_le_cons_iff.1 h2 with g2 | ⟨_, g2⟩
      · exact absurd g2 (UInt8.lt_irrefl a)
      · exact List.cons_prefix_cons.2 ⟨rfl, prefix_conv g1 g2 h4⟩
theorem hasP_iff {p s : ByteArray} : hasP p s = true ↔ bl p <+: bl s := by unfold hasP; rw [List.isPrefixOf_iff_prefix]
theorem scan_ahead {p : ByteArray} {P : List Pr} (hr : Rising Pr.key P) {i : Nat} (hi : i < P.length) (h : i < lo Pr.key p P) : hasP p P[i].key = false := by
  have h1 := lo_below Pr.key hr (n := p) hi
  rw [decide_eq_true h, less_iff] at h1
  rw [← Bool.not_eq_true, hasP_iff]
  intro h2
  exact absurd h1 (List.not_lt.2 (prefix_less h2))
theorem scan_behind {p : ByteArray} {P : List Pr} (hr : Rising Pr.key P) {i j : Nat} (hi : i < P.length) (hj : j < P.length) (h : lo Pr.key p P ≤ i) (hij : i ≤ j) (hno : hasP p P[i].key = false) : hasP p P[j].key = false := by
  have h1 := lo_below Pr.key hr (n := p) hi
  rw [decide_eq_false (by omega), less_not] at h1
  rw [← Bool.not_eq_true, hasP_iff] at hno ⊢
  intro h2
  refine hno (prefix_conv h1 ?_ h2)
  rcases Nat.lt_or_ge i j with h3 | h3
  · exact List.le_of_lt ((less_iff _ _).1 (List.pairwise_iff_getElem.1 hr i j hi hj h3))
  · obtain rfl : i = j := by omega
    exact List.le_refl _
/-- They stand side by side. -/
theorem scan_eq {p : ByteArray} {P : List Pr} (hr : Rising Pr.key P) {t : Nat} (h1 : lo Pr.key p P ≤ t) (h2 : t ≤ P.length) (hy : ∀ i (hi : i < P.length), lo Pr.key p P ≤ i → i < t → hasP p P[i].key = true) (hn : ∀ (ht : t < P.length), hasP p P[t].key = false) :
    scanL p P = (P.drop (lo Pr.key p P)).take (t - lo Pr.key p P) := by
  have e : P = P.take (lo Pr.key p P) ++ ((P.drop (lo Pr.key p P)).take (t - lo Pr.key p P) ++ P.drop t) := by
    have e2 : P.drop (lo Pr.key p P) = (P.drop (lo Pr.key p P)).take (t - lo Pr.key p P) ++ P.drop t := by
      conv => lhs; rw [← List.take_append_drop (t - lo Pr.key p P) (P.drop (lo Pr.key p P))]
      rw [List.drop_drop, show lo Pr.key p P + (t - lo Pr.key p P) = t by omega]
    conv => lhs; rw [← List.take_append_drop (lo Pr.key p P) P]
    rw [← e2]
  unfold scanL
  conv => lhs; rw [e]
  rw [List.filter_append, List.filter_append]
  have f1 : (P.take (lo Pr.key p P)).filter (fun x => hasP p x.key) = [] := by
    rw [List.filter_eq_nil_iff]
    intro x hx
    obtain ⟨i, hi, rfl⟩ := List.getElem_of_mem hx
    rw [List.length_take] at hi
    rw [List.getElem_take, scan_ahead hr (by omega) (by omega)]
    simp
  have f2 : ((P.drop (lo Pr.key p P)).take (t - lo Pr.key p P)).filter (fun x => hasP p x.key) = (P.drop (lo Pr.key p P)).take (t - lo Pr.key p P) := by
    rw [List.filter_eq_self]
    intro x hx
    obtain ⟨i, hi, rfl⟩ := List.getElem_of_mem hx
    rw [List.length_take, List.length_drop] at hi
    rw [List.getElem_take, List.getElem_drop]
    exact hy _ _ (by omega) (by omega)
  have f3 : (P.drop t).filter (fun x => hasP p x.key) = [] := by
    rw [List.filter_eq_nil_iff]
    intro x hx
    obtain ⟨i, hi, rfl⟩ := List.getElem_of_mem hx
    rw [List.length_drop] at hi
    rw [List.getElem_drop, scan_behind hr (i := t) (j := t + i) (by omega) (by omega) h1 (by omega) (hn (by omega))]
    simp
  rw [f1, f2, f3]
  simp

theorem RowP.part {w : World} {b off cap n m : Nat} {q : List Pr} (h : RowP w b off cap q) (hn : n ≤ m) (hm : m ≤ q.length) : ReadsP w (.slice (some ⟨b, off + n * 2, Option.none⟩) (m - n) (cap - n)) ((q.drop n).take (m - n)) := by
  have hl : ((q.drop n).take (m - n)).length = m - n := by rw [List.length_take, List.length_drop]; omega
  have := h.len
  have := h.cap
  refine .inr ⟨b, off + n * 2, cap - n, by rw [hl], by omega, by omega, h.lt, fun i e hi => ?_⟩
  rw [List.getElem?_take] at hi
  split at hi
  · rw [List.getElem?_drop] at hi
    have := h.at_ (n + i) e hi
    rwa [show off + (n + i) * 2 = off + n * 2 + i * 2 by omega] at this
  · cases hi
theorem RowP.empty {w : World} {b off cap m : Nat} {q : List Pr} (h : RowP w b off cap q) (hm : m ≤ cap) : ReadsP w (.slice (some ⟨b, off, Option.none⟩) 0 m) [] :=
  .inr ⟨b, off, m, rfl, by simp, by have := h.cap; omega, h.lt, fun i e hi => by simp at hi⟩
section
variable {w : World} {x : Sk} {S : St} {L : Wl} {q : Nat} {P : List Pr}
/-- What a Scan hands back. -/
def ListPost (w : World) (T : List Pr) (e : Ending) (w' : World) : Prop := ∃ u, e = .returned u ∧ w'.ownsRow w.heap.size prT 2 u T.length (T.flatMap prC) ∧ Below w.heap.size w w'
set_option maxRecDepth 100000 in
set_option maxHeartbeats 4000000 in
theorem scanS (h : Store w x S L q P) (hr : Rising Pr.key P) (hl : P.length ≤ 100000) (p : ByteArray) (hp : p.size ≤ 9223372036854775807) (hks : ∀ y ∈ P, y.key.size ≤ 9223372036854775807) :
    Calls Tryz.prog 12 #[ptr x.ps, .string p] w (ListPost w (scanL p P)) := by
  obtain ⟨c0, c1, c2, c3⟩ := h.cells
  have HF := Lib.hid (findP_any x.pv P p w h.pairs hr (by omega))
  have HC := Lib.hid (fun (W : World) (hW : Below w.heap.size w W) => (h.below hW).cells.2.2.1)
  have hlo := lo_le Pr.key p P
  have HSE := Lib.hid (fun (t : Nat) => scan_eq (p := p) hr (t := t))
  rcases h.pairs.cases with ⟨hv, hP⟩ | ⟨b, off, cap, hv, hrow⟩
  · rw [hv] at c2 HC HF
    have e0 : lo Pr.key p P = 0 := by rw [hP] at hlo ⊢; simpa using hlo
    have es : scanL p P = [] := by rw [hP]; rfl
    rw [e0] at HF
    rw [es]
    have HCL := Lib.hid (fun (W : World) => cloneP_any W (.slice none 0 0) [] (nil_readsP W) (by simp))
    generalize (at? Pr.key p P).isSome = is at *
    clear h hr hv hP hlo HSE e0 es
    go_enter Tryz.func12, Tryz.ntmps12
    go_wp2_with fail
    refine HF.out.mono ?_
    rintro e w1 ⟨rfl, hb1⟩
    have d2 := HC.out w1 hb1
    have HB1 := Lib.hid hb1
    clear hb1
    go_wp2_with fail
    go_loopw [7] (fun tv wr => tv = .int .i64 0 ∧ wr = w1) (fun _ _ => 0)
    case atStart => exact ⟨rfl, rfl⟩
    case round =>
      obtain ⟨rfl, rfl⟩ := hrel
      go_wp2_with fail
      refine (HCL.out _).mono ?_
      rintro e w2 ⟨u, rfl, ho, hb2⟩
      have HH := Lib.hid (And.intro ho hb2)
      clear ho hb2
      go_wp2_with fail
      go_ret
      exact ⟨u, rfl, Wal.owns_low HH.out.1 HB1.out.size, HB1.out.trans (HH.out.2.mono HB1.out.size)⟩
  · have HRW := Lib.hid (fun (W : World) (hW : Below w.heap.size w W) => hrow.below hW)
    have hlc := hrow.len
    have hcap := hrow.cap
    obtain ⟨n, hn⟩ : ∃ n, n = P.length := ⟨_, rfl⟩
    rw [← hn] at hl hv hlc hlo
    rw [hv] at c2 HC HF
    obtain ⟨f, hf⟩ : ∃ f, f = lo Pr.key p P := ⟨_, rfl⟩
    rw [← hf] at HF hlo
    have HD := Lib.hid (And.intro hn (And.intro hf hks))
    generalize (at? Pr.key p P).isSome = is at *
    clear h hr hv hrow hn hf hks
    go_enter Tryz.func12, Tryz.ntmps12
    go_wp2_with fail
    refine HF.out.mono ?_
    rintro e w1 ⟨rfl, hb1⟩
    have d2 := HC.out w1 hb1
    have HB1 := Lib.hid hb1
    clear hb1
    go_wp2_with fail
    go_loopw [7] (fun tv wr => ∃ t : Nat, tv = .int .i64 t ∧ f ≤ t ∧ t ≤ n ∧ (∀ i (hi : i < P.length), f ≤ i → i < t → hasP p P[i].key = true) ∧ wr = w1) (fun t _ => n - (intOf t).toNat)
    case atStart => exact ⟨f, rfl, Nat.le_refl _, hlo, fun i _ h1 h2 => by omega, rfl⟩
    case round =>
      obtain ⟨t, rfl, ht1, ht2, hy, rfl⟩ := hrel
      obtain ⟨hn, hf, hks⟩ := HD.out
      have hfin : (∀ (ht : t < P.length), hasP p P[t].key = false) → Hid (scanL p P = (P.drop f).take (t - f)) := fun hno => by
        have := HSE.out t (by rw [← hf]; exact ht1) (by omega) (by rw [← hf]; exact hy) hno
        rw [← hf] at this
        exact Lib.hid this
      have hclone : Hid (∀ (u : Value), ReadsP wr u ((P.drop f).take (t - f)) → Calls Tryz.prog 44 #[u] wr fun e w' => ∃ u', e = .returned u' ∧ w'.ownsRow wr.heap.size prT 2 u' ((P.drop f).take (t - f)).length (((P.drop f).take (t - f)).flatMap prC) ∧ Below wr.heap.size wr w') :=
        Lib.hid fun u hu => cloneP_any wr u _ hu (by rw [List.length_take, List.length_drop]; omega)
      have hrow1 := HRW.out wr HB1.out
      have hpart : f < cap → Hid (ReadsP wr (.slice (some ⟨b, off + f * 2, none⟩) (t - f) (cap - f)) ((P.drop f).take (t - f))) := fun _ => Lib.hid (hrow1.part ht1 (by omega))
      have hpart0 : f = cap → Hid (ReadsP wr (.slice (some ⟨b, off, none⟩) 0 0) ((P.drop f).take (t - f)) ∧ t - f = 0) := fun hfc => Lib.hid ⟨by
        have h0 : t - f = 0 := by omega
        rw [h0, List.take_zero]
        exact hrow1.empty (Nat.zero_le _), by omega⟩
      by_cases hlt : t < n
      · have hP1 : t < P.length := by omega
        have ky := (two (hrow1.at_ t P[t] (List.getElem?_eq_getElem hP1))).1
        obtain ⟨hb, hhb⟩ : ∃ hb, hasP p P[t].key = hb := ⟨_, rfl⟩
        have HPX := Lib.hid (fun W => prefix_any P[t].key p W hb hhb (hks _ (List.getElem_mem hP1)) hp)
        have HS := Lib.hid (And.intro hy hhb)
        obtain ⟨kt, hkt⟩ : ∃ kt, kt = P[t].key := ⟨_, rfl⟩
        rw [← hkt] at ky HPX
        have hltb : decide ((t : Int) < (n : Int)) = true := decide_eq_true (by omega)
        cases hb
        · have HFIN := hfin fun _ => hhb
          clear hfin hy hhb hks hn hf hrow1 hkt
          by_cases hfc : f = cap
          · omega
          · have hpt := hpart (by omega)
            have hne : ¬ (cap = f) := by omega
            clear hpart hpart0 hfc
            go_wp2_with fail
            refine (HPX.out _).mono ?_
            rintro e w2 ⟨rfl, rfl⟩
            go_wp2_with fail
            refine (hclone.out _ hpt.out).mono ?_
            rintro e w2 ⟨u, rfl, ho, hb2⟩
            have HH := Lib.hid (And.intro ho hb2)
            clear ho hb2
            go_wp2_with fail
            go_ret
            refine ⟨u, rfl, ?_, HB1.out.trans (HH.out.2.mono HB1.out.size)⟩
            rw [HFIN.out]
            exact Wal.owns_low HH.out.1 HB1.out.size
        · clear hfin hclone hpart hpart0 hy hhb hks hn hf hrow1 hkt
          go_wp2_with fail
          refine (HPX.out _).mono ?_
          rintro e w2 ⟨rfl, rfl⟩
          go_wp2_with fail
          go_roundw
          case rel =>
            refine ⟨t + 1, by simp, by omega, hlt, fun i hi h1 h2 => ?_, by first | rfl | trivial⟩
            rcases Nat.lt_or_ge i t with h3 | h3
            · exact HS.out.1 i hi h1 h3
            · obtain rfl : i = t := by omega
              exact HS.out.2
          case measure => simp [intOf]; omega
      · obtain rfl : t = n := by omega
        have HFIN := hfin fun ht => by omega
        have hltb : decide ((t : Int) < (t : Int)) = false := decide_eq_false (by omega)
        clear hfin hy hks hn hf hrow1
        by_cases hfc : f = cap
        · have hpt := hpart0 hfc
          have hz := hpt.out.2
          clear hpart hpart0
          subst hfc
          go_wp2_with fail
          refine (hclone.out _ hpt.out.1).mono ?_
          rintro e w2 ⟨u, rfl, ho, hb2⟩
          have HH := Lib.hid (And.intro ho hb2)
          clear ho hb2
          go_wp2_with fail
          go_ret
          refine ⟨u, rfl, ?_, HB1.out.trans (HH.out.2.mono HB1.out.size)⟩
          rw [HFIN.out]
          exact Wal.owns_low HH.out.1 HB1.out.size
        · have hpt := hpart (by omega)
          have hne : ¬ (cap = f) := by omega
          clear hpart hpart0 hfc
          go_wp2_with fail
          refine (hclone.out _ hpt.out).mono ?_
          rintro e w2 ⟨u, rfl, ho, hb2⟩
          have HH := Lib.hid (And.intro ho hb2)
          clear ho hb2
          go_wp2_with fail
          go_ret
          refine ⟨u, rfl, ?_, HB1.out.trans (HH.out.2.mono HB1.out.size)⟩
          rw [HFIN.out]
          exact Wal.owns_low HH.out.1 HB1.out.size
end
end Go.Proofs.YtghpohiinnallaaGreatDoor.Kv
