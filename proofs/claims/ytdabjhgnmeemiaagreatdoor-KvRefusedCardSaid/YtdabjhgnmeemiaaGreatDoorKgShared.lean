/-
  What the laws of the store share: made, works, acts, light lists, alike; the arguments.
-/
import Derived.Test.YtdabjhgnmeemiaaGreatDoorKgNets
import Derived.Test.YtdabjhgnmeemiaaGreatDoorKgLog
import Derived.Test.YtdabjhgnmeemiaaGreatDoorKgWalB
import Derived.Test.YtdabjhgnmeemiaaGreatDoorKgWal
import Derived.Test.YtdabjhgnmeemiaaGreatDoorKgCommit
import Derived.Test.YtdabjhgnmeemiaaGreatDoorKgOpen
import Derived.Test.YtdabjhgnmeemiaaGreatDoorKgBatchA
import Derived.Test.YtdabjhgnmeemiaaGreatDoorKgSetB
import Derived.Laws.StructEq
import Derived.ProofKit
import Derived.OpenShut
import Derived.SliceStrings
import Derived.ChangeSame
import Derived.Deep.Slices
import Derived.Deep.Grids
import Derived.Laws.BitsAllLaws

/-
  What the laws of the log share: numbers below one another, acts, light lists of acts.
-/
namespace Go.Proofs.YtdabjhgnmeemiaaGreatDoor.Wal
open Go Go.RowKit
open Go.Proofs.YtdabjhgnmeemiaaGreatDoor.Nets (Reads Tab Small bl ba)

theorem ret_int {k : IntKind} {a b : Int} (h : a = b) : Ending.returned (.int k a) = .returned (.int k b) := by rw [h]
theorem below_any (x : Int) (n : Nat) (w : World) (_h1 : -9223372036854775808 ≤ x) (_h2 : x ≤ 9223372036854775807) (hn : 4 ≤ n) (hn2 : n ≤ 100000) :
    Calls Tryz.prog 35 #[.int .i64 x, .int .i64 n] w fun e w' => e = .returned (.int .i64 (x % (n : Int))) ∧ w' = w := by
  have hE : x % (n : Int) = if x.tmod n < 0 then x.tmod n + n else x.tmod n := by
    have hp := Int.emod_nonneg x (show (n : Int) ≠ 0 by omega)
    have hl := Int.emod_lt_of_pos x (show (0 : Int) < n by omega)
    have h : x.tmod (n : Int) = x % (n : Int) - ((if 0 ≤ x ∨ (n : Int) ∣ x then 0 else Int.natAbs (n : Int) : Nat) : Int) := Int.tmod_eq_emod
    by_cases hc : 0 ≤ x ∨ (n : Int) ∣ x
    · rw [if_pos hc] at h
      rw [if_neg (by omega)]
      omega
    · rw [if_neg hc, Int.natAbs_natCast] at h
      rw [if_pos (by omega)]
      omega
  have hl := Int.tmod_lt_of_pos x (show (0 : Int) < n by omega)
  have hg : -(n : Int) < x.tmod n := Int.lt_tmod_of_pos x (by omega)
  have HE := Lib.hid hE
  clear hE
  go_enter Tryz.func35, Tryz.ntmps35
  go_wp2
  · go_ret
    exact ⟨ret_int (by rw [HE.out, if_pos (by assumption)]), rfl⟩
  · go_ret
    exact ⟨ret_int (by rw [HE.out, if_neg (by omega)]), rfl⟩

/-- An act of the laws. -/
structure Ak where
  kind : Int
  s : ByteArray
  lv : Value
  ls : List ByteArray
  is : Bool
def aC (a : Ak) : List Value := [.int .i64 a.kind, .string a.s, a.lv, .bool a.is]
structure OkA (w : World) (a : Ak) : Prop where
  s : a.s.size ≤ 9223372036854775807
  reads : Reads w a.lv a.ls
  each : ∀ s ∈ a.ls, s.size ≤ 9223372036854775807
  few : a.ls.length ≤ 9223372036854775807
theorem OkA.below {w w' : World} {a : Ak} (h : OkA w a) (hb : Below w.heap.size w w') : OkA w' a := ⟨h.s, h.reads.below hb, h.each, h.few⟩
def ReadsA (w : World) (v : Value) (es : List Ak) : Prop :=
  (∃ a cap, v = .slice a 0 cap ∧ es = []) ∨
  (0 < es.length ∧ ∃ b off cap, v = .slice (some ⟨b, off, none⟩) es.length cap ∧ b < w.heap.size ∧ ∀ i a, es[i]? = some a → w.rangeAt b (off + i * 4) (aC a))
theorem ReadsA.shape {w : World} {v : Value} {es : List Ak} (h : ReadsA w v es) : ∃ a cap, v = .slice a es.length cap ∧ (0 < es.length → ∃ b off, a = some ⟨b, off, none⟩ ∧ b < w.heap.size ∧ ∀ i x, es[i]? = some x → w.rangeAt b (off + i * 4) (aC x)) := by
  rcases h with ⟨a, cap, rfl, rfl⟩ | ⟨h0, b, off, cap, rfl, h1, h2⟩
  · exact ⟨a, cap, rfl, fun h => by simp at h⟩
  · exact ⟨_, cap, rfl, fun _ => ⟨b, off, rfl, h1, h2⟩⟩
theorem range_below {w w' : World} {b o : Nat} {cs : List Value} (h : w.rangeAt b o cs) (hl : b < w.heap.size) (hb : Below w.heap.size w w') : w'.rangeAt b o cs := fun j v hv => by
  rw [hb.cell (p := ⟨b, o + j, none⟩) hl]
  exact h j v hv
theorem ReadsA.below {w w' : World} {v : Value} {es : List Ak} (h : ReadsA w v es) (hb : Below w.heap.size w w') : ReadsA w' v es := by
  rcases h with h | ⟨h0, b, off, cap, rfl, h1, h2⟩
  · exact .inl h
  · exact .inr ⟨h0, b, off, cap, rfl, by have := hb.size; omega, fun i a ha => range_below (h2 i a ha) h1 hb⟩
theorem four {w : World} {b o : Nat} {e : Ak} (h : w.rangeAt b o (aC e)) : w.cell? ⟨b, o, none⟩ = some (.int .i64 e.kind) ∧ w.cell? ⟨b, o + 1, none⟩ = some (.string e.s) ∧ w.cell? ⟨b, o + 2, none⟩ = some e.lv ∧ w.cell? ⟨b, o + 3, none⟩ = some (.bool e.is) :=
  ⟨h 0 _ rfl, h 1 _ rfl, h 2 _ rfl, h 3 _ rfl⟩

/-! Light lists, light acts. -/
theorem take_next {α : Type} {p : α → Prop} {q : List α} {k : Nat} {e : α} (hk : q[k]? = some e) (hn : ∀ x ∈ q.take k, p x) (he : p e) : ∀ x ∈ q.take (k + 1), p x := by
  rw [List.take_add_one, hk]
  intro x hx
  rcases List.mem_append.1 hx with hx | hx
  · exact hn x hx
  · simp at hx
    rw [hx]; exact he
def lightB (ss : List ByteArray) : Bool := decide (ss.length ≤ 20 ∧ ∀ s ∈ ss, s.size ≤ 300)
theorem lightB_far {ss : List ByteArray} (h : 20 < ss.length) : lightB ss = false := decide_eq_false (by omega)
theorem lightB_bad {ss : List ByteArray} {s : ByteArray} (h : s ∈ ss) (hs : 300 < s.size) : lightB ss = false := decide_eq_false (by rintro ⟨_, h2⟩; have := h2 s h; omega)
theorem lightB_good {ss : List ByteArray} (h1 : ss.length ≤ 20) (h2 : ∀ s ∈ ss, s.size ≤ 300) : lightB ss = true := decide_eq_true ⟨h1, h2⟩
theorem lightB_small {ss : List ByteArray} (h : lightB ss = true) : ss.length ≤ 20 ∧ ∀ s ∈ ss, s.size ≤ 300 := of_decide_eq_true h
def lightE (e : Ak) : Bool := decide (e.s.size ≤ 300) && lightB e.ls
def lightS (es : List Ak) : Bool := (es.take 40).all lightE
theorem lightS_bad {es : List Ak} {k : Nat} {e : Ak} (hk : es[k]? = some e) (h40 : k < 40) (h : lightE e = false) : lightS es = false := by
  unfold lightS
  rw [List.all_eq_false]
  refine ⟨e, ?_, by simp [h]⟩
  rw [List.mem_iff_getElem?]
  exact ⟨k, by rw [List.getElem?_take_of_lt h40]; exact hk⟩
theorem lightS_good {es : List Ak} {k : Nat} (h : ∀ e ∈ es.take k, lightE e = true) (hk : k = es.length ∨ k = 40) : lightS es = true := by
  unfold lightS
  rw [List.all_eq_true]
  intro e he
  refine h e ?_
  rcases hk with rfl | rfl
  · rw [List.take_length]; exact List.mem_of_mem_take he
  · exact he
/-- What is known of a light act. -/
theorem lightS_at {es : List Ak} (h : lightS es = true) {k : Nat} {e : Ak} (hk : es[k]? = some e) (h40 : k < 40) : e.s.size ≤ 300 ∧ e.ls.length ≤ 20 ∧ ∀ s ∈ e.ls, s.size ≤ 300 := by
  unfold lightS at h
  rw [List.all_eq_true] at h
  have h1 := h e (by rw [List.mem_iff_getElem?]; exact ⟨k, by rw [List.getElem?_take_of_lt h40]; exact hk⟩)
  unfold lightE at h1
  rw [Bool.and_eq_true, decide_eq_true_eq] at h1
  exact ⟨h1.1, lightB_small h1.2⟩
end Go.Proofs.YtdabjhgnmeemiaaGreatDoor.Wal

/-
  What the laws of the log share, third part: the document's log, new; a log made.
-/
namespace Go.Proofs.YtdabjhgnmeemiaaGreatDoor.Wal
open Go Go.RowKit
open Go.Proofs.YtdabjhgnmeemiaaGreatDoor.Disk
open Go.Proofs.YtdabjhgnmeemiaaGreatDoor.Nets (Reads Tab Small bl ba)

abbrev qT : TypeId := 30
/-- The document's log: the bytes of a half, the half, the bytes of its frames, its texts, what waits. -/
abbrev qC (n h : Int) (s : ByteArray) (tv wv : Value) (f : Bool) : Array Value := #[.int .i64 n, .int .i64 h, .string s, tv, wv, .bool f]
theorem sizeQ : (Tryz.prog.info? 30).map (·.size) = some 6 := by kernel_rfl
theorem results_row3 {P : Program} {fn : Func} {p u u' : Tmp} {ty : TypeId} (h : fn.results = #[.tmp u, .tmp u', .cell p ty]) (tmps : Array Value) (w : World) (g : Nat) (t : TypeId) (cs : Array Value) (fr : Nat × Nat) (d : TypeDesc)
    (hp : tmps.getD p undef = .pointer (some ⟨g, 0, none⟩)) (hg : w.heap[g]? = some (.cells cs t fr))
    (hu : P.underlying ty = some d) (hd : (match d with | .struct _ | .array _ _ => true | _ => false) = true) (hi : (P.info? ty).map (·.size) = some cs.size) :
    (results fn tmps).run P w = .ok (.tuple #[tmps.getD u undef, tmps.getD u' undef, .agg cs]) w := by
  have hp' : tmps[p]?.getD undef = .pointer (some ⟨g, 0, none⟩) := by simpa using hp
  simp [results, h, hp', asAddr, run_loadVar_row w g t ty cs fr d hg hu hd hi]
theorem setRow_lies {w : World} {b : Nat} {cs : Array Value} {t : TypeId} (h : Lies w b cs t) (cs' : Array Value) : Lies (w.setRow b cs') b cs' t := setRow_heap w b cs cs' t (0, 0) h
theorem fr_row (w : World) (b : Nat) (cs : Array Value) : Fr (fun k => k = b) w (w.setRow b cs) :=
  ⟨rfl, rfl, rfl, by simp, fun k _ hk => setRow_other w b k cs hk⟩
abbrev fill6 (w : World) (b : Nat) (a0 a1 a2 a3 a4 a5 : Value) : World :=
  (((((w.setCell ⟨b, 0, none⟩ a0).setCell ⟨b, 1, none⟩ a1).setCell ⟨b, 2, none⟩ a2).setCell ⟨b, 3, none⟩ a3).setCell ⟨b, 4, none⟩ a4).setCell ⟨b, 5, none⟩ a5
theorem lies_fill6 {w : World} {b : Nat} {z0 z1 z2 z3 z4 z5 : Value} {t : TypeId} (h : Lies w b #[z0, z1, z2, z3, z4, z5] t) (a0 a1 a2 a3 a4 a5 : Value) : Lies (fill6 w b a0 a1 a2 a3 a4 a5) b #[a0, a1, a2, a3, a4, a5] t :=
  (((((h.set 0 a0).set 1 a1).set 2 a2).set 3 a3).set 4 a4).set 5 a5
theorem fr_fill6 (w : World) (b : Nat) (a0 a1 a2 a3 a4 a5 : Value) : Fr (fun k => k = b) w (fill6 w b a0 a1 a2 a3 a4 a5) := by
  have e : ∀ {u v : World} {i : Nat} {x : Value}, Fr (fun k => k = b) u v → Fr (fun k => k = b) u (v.setCell ⟨b, i, none⟩ x) := fun h => Fr.setCell (F := fun k => k = b) h (fun _ => rfl) _
  exact e (e (e (e (e (e (Fr.refl _ _))))))
theorem six {w : World} {b : Nat} {z0 z1 z2 z3 z4 z5 : Value} {t : TypeId} (h : Lies w b #[z0, z1, z2, z3, z4, z5] t) : w.cell? ⟨b, 0, none⟩ = some z0 ∧ w.cell? ⟨b, 1, none⟩ = some z1 ∧ w.cell? ⟨b, 2, none⟩ = some z2 ∧ w.cell? ⟨b, 3, none⟩ = some z3 ∧ w.cell? ⟨b, 4, none⟩ = some z4 ∧ w.cell? ⟨b, 5, none⟩ = some z5 :=
  ⟨h.cell 0, h.cell 1, h.cell 2, h.cell 3, h.cell 4, h.cell 5⟩
theorem sec_div {n : Nat} (h : 1 ≤ n) : ((n : Int) - 1).tdiv 2 = (sec n : Int) := by
  unfold sec
  rw [show ((n : Int) - 1) = ((n - 1 : Nat) : Int) by omega, Int.tdiv_eq_ediv_of_nonneg (by omega)]
  omega
set_option maxHeartbeats 1000000 in
theorem newR_any (w : World) (n z : Nat) (h1 : 1 ≤ n) (h2 : n ≤ 40) (h3 : z ≤ 64) :
    Calls Tryz.prog 66 #[.int .i64 n, .int .i64 z] w fun e w' => e = .returned (.agg (qC ((sec n * z : Nat) : Int) 0 ⟨#[]⟩ (.slice none 0 0) (.slice none 0 0) false)) ∧ Below w.heap.size w w' := by
  have hd := sec_div h1
  have hb : sec n * z ≤ 20 * 64 := Nat.mul_le_mul (by unfold sec; omega) h3
  have hc : ((sec n : Int) * (z : Int)) = ((sec n * z : Nat) : Int) := by rw [Int.natCast_mul]
  have hs : sec n ≤ 20 := by unfold sec; omega
  generalize sec n = q at *
  generalize q * z = m at *
  go_enter Tryz.func66, Tryz.ntmps66
  go_wp2_with fail
  exact bodyPost_ret (v := .agg (qC (m : Int) 0 ⟨#[]⟩ (.slice none 0 0) (.slice none 0 0) false)) (results_cell_row Tryz.results66 _ _ w.heap.size qT _ (0, 0) _ rfl (new_at rfl) Tryz.underlying30 rfl sizeQ) rfl ⟨rfl, (Below.refl _ _).alloc (Nat.le_refl _) _⟩
/-- A log that was made. -/
def MadeOut (w : World) (e : Ending) (w' : World) : Prop := ∃ (k : Wk) (n z m : Nat), e = .returned (.tuple #[ptr k.pw, ptr k.d.pb, .agg (qC (m : Int) 0 ⟨#[]⟩ (.slice none 0 0) (.slice none 0 0) false)]) ∧ m = sec n * z ∧
  8 ≤ n ∧ n ≤ 40 ∧ 16 ≤ z ∧ z ≤ 64 ∧ Log w' k (fmtS n z) ⟨0, 0, []⟩ ∧ w.heap.size ≤ k.d.B ∧ Below w.heap.size w w'
end Go.Proofs.YtdabjhgnmeemiaaGreatDoor.Wal

/-
  What the laws of the store share: the document's store, new; a store made; the example.
-/
namespace Go.Proofs.YtdabjhgnmeemiaaGreatDoor.Kv
open Go Go.RowKit
open Go.Proofs.YtdabjhgnmeemiaaGreatDoor.Disk (St Dk Is own Fr Lies newS new_at)
open Go.Proofs.YtdabjhgnmeemiaaGreatDoor.Wal (Wl Wk Log ownW StepW Done Grp Has Kin SyncO ResetO Grd framesS payS sec fmtS fmt_has qC newR_any below_any fill6 setRow_lies fr_row)
open Go.Proofs.YtdabjhgnmeemiaaGreatDoor.Batch (less Rising at? Chg ptr Mem Bt Fine Good)
open Go.Proofs.YtdabjhgnmeemiaaGreatDoor.Nets (Tab Reads Small)

abbrev r11T : TypeId := 33
abbrev geoT : TypeId := 23
/-- The document's store. -/
abbrev rsC (n h : Int) (s : ByteArray) (tv wv : Value) (f : Bool) (q : Int) (lv : Value) : Array Value := #[.int .i64 n, .int .i64 h, .string s, tv, wv, .bool f, .int .i64 q, lv]
abbrev rs0 : Array Value := rsC 0 0 ⟨#[]⟩ (.slice none 0 0) (.slice none 0 0) false 0 (.slice none 0 0)
theorem size8 : (Tryz.prog.info? r11T).map (·.size) = some 8 := by kernel_rfl
abbrev fill8 (w : World) (b : Nat) (a0 a1 a2 a3 a4 a5 a6 a7 : Value) : World :=
  (((((((w.setCell ⟨b, 0, none⟩ a0).setCell ⟨b, 1, none⟩ a1).setCell ⟨b, 2, none⟩ a2).setCell ⟨b, 3, none⟩ a3).setCell ⟨b, 4, none⟩ a4).setCell ⟨b, 5, none⟩ a5).setCell ⟨b, 6, none⟩ a6).setCell ⟨b, 7, none⟩ a7
theorem lies_fill8 {w : World} {b : Nat} {z0 z1 z2 z3 z4 z5 z6 z7 : Value} {t : TypeId} (h : Lies w b #[z0, z1, z2, z3, z4, z5, z6, z7] t) (a0 a1 a2 a3 a4 a5 a6 a7 : Value) : Lies (fill8 w b a0 a1 a2 a3 a4 a5 a6 a7) b #[a0, a1, a2, a3, a4, a5, a6, a7] t := by
  have h0 : Lies (w.setCell ⟨b, 0, none⟩ a0) b #[a0, z1, z2, z3, z4, z5, z6, z7] t := by
    have h := h.set 0 a0
    simpa using h
  have h1 : Lies ((w.setCell ⟨b, 0, none⟩ a0).setCell ⟨b, 1, none⟩ a1) b #[a0, a1, z2, z3, z4, z5, z6, z7] t := by
    have h := h0.set 1 a1
    simpa using h
  have h2 : Lies (((w.setCell ⟨b, 0, none⟩ a0).setCell ⟨b, 1, none⟩ a1).setCell ⟨b, 2, none⟩ a2) b #[a0, a1, a2, z3, z4, z5, z6, z7] t := by
    have h := h1.set 2 a2
    simpa using h
  have h3 : Lies ((((w.setCell ⟨b, 0, none⟩ a0).setCell ⟨b, 1, none⟩ a1).setCell ⟨b, 2, none⟩ a2).setCell ⟨b, 3, none⟩ a3) b #[a0, a1, a2, a3, z4, z5, z6, z7] t := by
    have h := h2.set 3 a3
    simpa using h
  have h4 : Lies (((((w.setCell ⟨b, 0, none⟩ a0).setCell ⟨b, 1, none⟩ a1).setCell ⟨b, 2, none⟩ a2).setCell ⟨b, 3, none⟩ a3).setCell ⟨b, 4, none⟩ a4) b #[a0, a1, a2, a3, a4, z5, z6, z7] t := by
    have h := h3.set 4 a4
    simpa using h
  have h5 : Lies ((((((w.setCell ⟨b, 0, none⟩ a0).setCell ⟨b, 1, none⟩ a1).setCell ⟨b, 2, none⟩ a2).setCell ⟨b, 3, none⟩ a3).setCell ⟨b, 4, none⟩ a4).setCell ⟨b, 5, none⟩ a5) b #[a0, a1, a2, a3, a4, a5, z6, z7] t := by
    have h := h4.set 5 a5
    simpa using h
  have h6 : Lies (((((((w.setCell ⟨b, 0, none⟩ a0).setCell ⟨b, 1, none⟩ a1).setCell ⟨b, 2, none⟩ a2).setCell ⟨b, 3, none⟩ a3).setCell ⟨b, 4, none⟩ a4).setCell ⟨b, 5, none⟩ a5).setCell ⟨b, 6, none⟩ a6) b #[a0, a1, a2, a3, a4, a5, a6, z7] t := by
    have h := h5.set 6 a6
    simpa using h
  have h7 : Lies ((((((((w.setCell ⟨b, 0, none⟩ a0).setCell ⟨b, 1, none⟩ a1).setCell ⟨b, 2, none⟩ a2).setCell ⟨b, 3, none⟩ a3).setCell ⟨b, 4, none⟩ a4).setCell ⟨b, 5, none⟩ a5).setCell ⟨b, 6, none⟩ a6).setCell ⟨b, 7, none⟩ a7) b #[a0, a1, a2, a3, a4, a5, a6, a7] t := by
    have h := h6.set 7 a7
    simpa using h
  exact h7
theorem fr_fill8 (w : World) (b : Nat) (a0 a1 a2 a3 a4 a5 a6 a7 : Value) : Fr (fun k => k = b) w (fill8 w b a0 a1 a2 a3 a4 a5 a6 a7) := by
  exact ((Wal.fr_fill6 w b a0 a1 a2 a3 a4 a5).setCell (F := fun k => k = b) (fun _ => rfl) a6).setCell (F := fun k => k = b) (fun _ => rfl) a7
theorem eight {w : World} {b : Nat} {z0 z1 z2 z3 z4 z5 z6 z7 : Value} {t : TypeId} (h : Lies w b #[z0, z1, z2, z3, z4, z5, z6, z7] t) : w.cell? ⟨b, 0, none⟩ = some z0 ∧ w.cell? ⟨b, 1, none⟩ = some z1 ∧ w.cell? ⟨b, 2, none⟩ = some z2 ∧ w.cell? ⟨b, 3, none⟩ = some z3 ∧ w.cell? ⟨b, 4, none⟩ = some z4 ∧ w.cell? ⟨b, 5, none⟩ = some z5 ∧ w.cell? ⟨b, 6, none⟩ = some z6 ∧ w.cell? ⟨b, 7, none⟩ = some z7 :=
  ⟨h.cell 0, h.cell 1, h.cell 2, h.cell 3, h.cell 4, h.cell 5, h.cell 6, h.cell 7⟩
set_option maxRecDepth 100000 in
set_option maxHeartbeats 1000000 in
theorem newR11_any (w : World) (n z q : Nat) (h1 : 1 ≤ n) (h2 : n ≤ 40) (h3 : z ≤ 64) (m : Nat) (hm : m = sec n * z) :
    Calls Tryz.prog 36 #[.int .i64 n, .int .i64 z, .int .i64 q] w fun e w' => e = .returned (.agg (rsC (m : Int) 0 ⟨#[]⟩ (.slice none 0 0) (.slice none 0 0) false q (.slice none 0 0))) ∧ Below w.heap.size w w' := by
  have hA : Below w.heap.size w (w.alloc (.cells rs0 r11T)) := (Below.refl _ _).alloc (Nat.le_refl _) _
  have HN := Lib.hid (newR_any (w.alloc (.cells rs0 r11T)) n z h1 h2 h3)
  rw [← hm] at HN
  have HA := Lib.hid hA
  clear hA hm h1 h2 h3
  go_enter Tryz.func36, Tryz.ntmps36
  go_wp2_with fail
  refine HN.out.mono ?_
  rintro e w1 ⟨rfl, hb⟩
  have hL : Lies w1 w.heap.size rs0 r11T := (hb.block _ (by simp)).trans (heap_alloc_new w _)
  have HL := Lib.hid (And.intro hL (HA.out.trans (hb.mono HA.out.size)))
  obtain ⟨z0, z1, z2, z3, z4, z5, z6, z7⟩ := eight hL
  have zf := fun j => hL.free j
  clear hL hb
  go_wp2_with fail
  have hrow := lies_fill8 HL.out.1 (.int .i64 m) (.int .i64 0) (.string ⟨#[]⟩) (.slice none 0 0) (.slice none 0 0) (.bool false) (.int .i64 q) (.slice none 0 0)
  refine bodyPost_ret (v := .agg (rsC (m : Int) 0 ⟨#[]⟩ (.slice none 0 0) (.slice none 0 0) false q (.slice none 0 0))) (results_cell_row Tryz.results36 _ _ w.heap.size r11T _ (0, 0) _ rfl hrow Tryz.underlying33 rfl size8) rfl ?_
  exact ⟨rfl, HL.out.2.trans ((fr_fill8 w1 w.heap.size (.int .i64 m) (.int .i64 0) (.string ⟨#[]⟩) (.slice none 0 0) (.slice none 0 0) (.bool false) (.int .i64 q) (.slice none 0 0)).below HL.out.2.size fun b e => by omega)⟩
/-- A store that was made. -/
def MadeK (w : World) (c : Int) (e : Ending) (w' : World) : Prop := ∃ (x : Sk) (n z m q : Nat), e = .returned (.tuple #[ptr x.ps, ptr x.k.d.pb, .agg (rsC (m : Int) 0 ⟨#[]⟩ (.slice none 0 0) (.slice none 0 0) false q (.slice none 0 0))]) ∧ m = sec n * z ∧
  8 ≤ n ∧ n ≤ 40 ∧ 16 ≤ z ∧ z ≤ 64 ∧ (q : Int) = c % 2000 ∧ Store w' x (fmtS n z) ⟨0, 0, []⟩ q [] ∧ w.heap.size ≤ x.k.d.B ∧ Below w.heap.size w w'
set_option maxRecDepth 100000 in
set_option maxHeartbeats 1000000 in
theorem madeK_any (a b c : Int) (w : World) (ha1 : -9223372036854775808 ≤ a) (ha2 : a ≤ 9223372036854775807) (hb1 : -9223372036854775808 ≤ b) (hb2 : b ≤ 9223372036854775807) (hc1 : -9223372036854775808 ≤ c) (hc2 : c ≤ 9223372036854775807) :
    Calls Tryz.prog 7 #[.agg #[.int .i64 a, .int .i64 b, .int .i64 c]] w (MadeK w c) := by
  obtain ⟨p, hp, hp2⟩ : ∃ p : Nat, (p : Int) = a % 33 ∧ p < 33 := ⟨(a % 33).toNat, by omega, by omega⟩
  obtain ⟨q, hq, hq2⟩ : ∃ q : Nat, (q : Int) = b % 49 ∧ q < 49 := ⟨(b % 49).toNat, by omega, by omega⟩
  obtain ⟨r, hr, hr2⟩ : ∃ r : Nat, (r : Int) = c % 2000 ∧ r < 2000 := ⟨(c % 2000).toNat, by omega, by omega⟩
  have HBA := Lib.hid (fun W => below_any a 33 W ha1 ha2 (by omega) (by omega))
  have HBB := Lib.hid (fun W => below_any b 49 W hb1 hb2 (by omega) (by omega))
  have HBC := Lib.hid (fun W => below_any c 2000 W hc1 hc2 (by omega) (by omega))
  have e33 : ((33 : Nat) : Int) = 33 := rfl
  have e49 : ((49 : Nat) : Int) = 49 := rfl
  have e2k : ((2000 : Nat) : Int) = 2000 := rfl
  rw [e33, ← hp] at HBA
  rw [e49, ← hq] at HBB
  rw [e2k, ← hr] at HBC
  have HRR := Lib.hid hr
  obtain ⟨m, hm⟩ : ∃ m, m = sec (8 + p) * (16 + q) := ⟨_, rfl⟩
  have HN := Lib.hid (fun W => Disk.new_any W (8 + p) (16 + q) (by omega) (by omega) (by omega) (by omega))
  have HR := Lib.hid (fun W => newR11_any W (8 + p) (16 + q) r (by omega) (by omega) (by omega) m hm)
  have HF := Lib.hid (fun W (d : Dk) (h : Is W d (newS (8 + p) (16 + q))) => formatS (q := r) h (by omega) (by omega) (by omega) (by omega) (by omega))
  have hd1 : ((8 + p : Nat) : Int) = 8 + (p : Int) := by omega
  have hd2 : ((16 + q : Nat) : Int) = 16 + (q : Int) := by omega
  simp only [hd1, hd2] at HN HR
  have HM := Lib.hid hm
  clear hp hq hr hd1 hd2 ha1 ha2 hb1 hb2 hc1 hc2 e33 e49 e2k hm
  have hG : Lies ((w.alloc (.cells #[.int .i64 a, .int .i64 b, .int .i64 c] geoT)).alloc (.cells rs0 r11T)) w.heap.size #[.int .i64 a, .int .i64 b, .int .i64 c] geoT := (Lies.new w _ _).same (Below.heap_alloc _ _ _ (by simp))
  have g0 := hG.cell 0
  have g1 := hG.cell 1
  have g2 := hG.cell 2
  have hL : Lies ((w.alloc (.cells #[.int .i64 a, .int .i64 b, .int .i64 c] geoT)).alloc (.cells rs0 r11T)) (w.heap.size + 1) rs0 r11T := new_at (by simp)
  have hbx : Below w.heap.size w ((w.alloc (.cells #[.int .i64 a, .int .i64 b, .int .i64 c] geoT)).alloc (.cells rs0 r11T)) := ((Below.refl _ _).alloc (Nat.le_refl _) _).alloc (by simp) _
  have HL := Lib.hid (And.intro hL hbx)
  clear hL hbx hG
  go_enter Tryz.func7, Tryz.ntmps7
  go_wp2_with fail
  generalize (w.alloc (.cells #[.int .i64 a, .int .i64 b, .int .i64 c] geoT)).alloc (.cells rs0 r11T) = W0 at *
  simp at g0 g1 g2
  go_quiet (first | (go_at_call 35; with_reducible exact Calls.quiet_of_same (HBA.out _)) | (go_at_call 35; with_reducible exact Calls.quiet_of_same (HBB.out _)) | (go_at_call 35; with_reducible exact Calls.quiet_of_same (HBC.out _)))
  go_wp2_with fail
  have HB0 := Lib.hid (And.intro (HL.out.1.drewN nq) (HL.out.2.trans ((below_drewN (Below.refl W0.heap.size W0) nq).mono HL.out.2.size)))
  clear g0 g1 g2 HBA HBB HBC
  generalize W0.drewN nq = W1 at *
  refine (HN.out _).mono ?_
  rintro e w2 ⟨d, rfl, hI, hB, hb2⟩
  have hlt : w.heap.size + 1 < d.B := by rw [hB]; exact HB0.out.1.lt
  have H2 := Lib.hid (And.intro hlt (And.intro (HB0.out.2.trans (hb2.mono HB0.out.2.size)) (HB0.out.1.same (hb2.block _ HB0.out.1.lt))))
  have hF2 := HF.out _ _ hI
  have HF2 := Lib.hid hF2
  clear hI hB hb2 hF2 HF HN hlt
  go_wp2_with fail
  refine HF2.out.mono ?_
  rintro e w3 ⟨x, rfl, hst, hkB, hkpb, hb3, hpv⟩
  rw [← hkpb]
  have HPV := Lib.hid hpv
  have H3 := Lib.hid (And.intro hst (And.intro (show w.heap.size + 1 < x.k.d.B by rw [hkB]; exact H2.out.1) (And.intro (H2.out.2.1.trans (hb3.mono (Nat.le_of_lt (Nat.lt_of_succ_lt H2.out.1)))) (H2.out.2.2.same (hb3.block _ H2.out.1)))))
  clear hst hkB hkpb hb3 HF2 H2 hpv
  go_wp2_with fail
  refine (HR.out _).mono ?_
  rintro e w4 ⟨rfl, hb4⟩
  have H4 := Lib.hid (And.intro (H3.out.1.below hb4) (And.intro (H3.out.2.2.1.trans (hb4.mono H3.out.2.2.1.size)) (H3.out.2.2.2.same (hb4.block _ H3.out.2.2.2.lt))))
  clear hb4
  obtain ⟨z0, z1, z2, z3, z4, z5, z6, z7⟩ := eight H4.out.2.2
  have zf := fun j => H4.out.2.2.free j
  go_wp2_with fail
  have hrow := lies_fill8 H4.out.2.2 (.int .i64 m) (.int .i64 0) (.string ⟨#[]⟩) (.slice none 0 0) (.slice none 0 0) (.bool false) (.int .i64 r) (.slice none 0 0)
  refine bodyPost_ret (v := .tuple #[ptr x.ps, ptr x.k.d.pb, .agg (rsC (m : Int) 0 ⟨#[]⟩ (.slice none 0 0) (.slice none 0 0) false r (.slice none 0 0))]) (Wal.results_row3 Tryz.results7 _ _ (w.heap.size + 1) r11T (rsC (m : Int) 0 ⟨#[]⟩ (.slice none 0 0) (.slice none 0 0) false r (.slice none 0 0)) (0, 0) _ rfl hrow Tryz.underlying33 rfl size8) rfl ?_
  have hf := fr_fill8 w4 (w.heap.size + 1) (.int .i64 m) (.int .i64 0) (.string ⟨#[]⟩) (.slice none 0 0) (.slice none 0 0) (.bool false) (.int .i64 r) (.slice none 0 0)
  refine ⟨x, 8 + p, 16 + q, m, r, rfl, HM.out, by omega, by omega, by omega, by omega, HRR.out, H4.out.1.frame hf (fun b e o => ?_) (fun b hb e => ?_), by have := H3.out.2.1; omega, H4.out.2.1.trans (hf.below H4.out.2.1.size fun b e => by omega)⟩
  · have h1 := (H4.out.1.own_lt o).2
    have h2 := H3.out.2.1
    omega
  · rw [HPV.out] at hb; cases hb
end Go.Proofs.YtdabjhgnmeemiaaGreatDoor.Kv

/-
  What the laws of the store share: the example.
-/
namespace Go.Proofs.YtdabjhgnmeemiaaGreatDoor.Kv
open Go Go.RowKit
open Go.Proofs.YtdabjhgnmeemiaaGreatDoor.Disk (St Dk Is own Fr Lies newS new_at)
open Go.Proofs.YtdabjhgnmeemiaaGreatDoor.Wal (Wl Wk Log ownW StepW Done Grp Has Kin SyncO ResetO Grd framesS payS sec fmtS fmt_has)
open Go.Proofs.YtdabjhgnmeemiaaGreatDoor.Batch (less Rising at? Chg ptr Mem Bt Fine Good writeS)
open Go.Proofs.YtdabjhgnmeemiaaGreatDoor.Nets (Tab Reads Small)

abbrev aB : ByteArray := ⟨#[97]⟩
abbrev bB : ByteArray := ⟨#[98]⟩
def cA : Chg := ⟨aB, bB, false⟩
theorem cA_write : writeS cA = [49, 58, 43, 44, 49, 58, 97, 44, 49, 58, 98, 44] := by simp [writeS, Batch.parts, cA, Nets.rowS, Nets.putS, Lib.decDigits, Batch.bl]
theorem cA_size : (texB cA).size = 12 := by
  show (Batch.ba (writeS cA)).size = 12
  rw [cA_write]; rfl
theorem cA_told : Told cA := ⟨rfl, by simp [Batch.chk, cA]; decide⟩
theorem cA_pay : (payS [texB cA]).length = 16 := by
  show (Nets.rowS [Nets.bl (Batch.ba (writeS cA))]).length = 16
  rw [cA_write]
  simp [Nets.rowS, Nets.putS, Lib.decDigits]
theorem cA_done : done [] [cA] = [⟨aB, bB⟩] := rfl
theorem cA_used : used [(⟨aB, bB⟩ : Pr)] = 2 := rfl
theorem cA_ptexts : ptexts [(⟨aB, bB⟩ : Pr)] = [texB cA] := rfl
theorem cA_fair : Fair [] [cA] := by
  have h1 : Fine cA := ⟨by decide, by decide⟩
  have h2 : Small [texB cA] := ⟨by simp, fun s hs => by simp at hs; subst hs; rw [cA_size]; decide⟩
  refine ⟨rising_nil, List.pairwise_singleton _ _, by simp, by simp, fun c hc => ?_, h2, fun p hp => ?_, ?_, ?_⟩
  · obtain rfl := List.mem_singleton.1 hc; exact h1
  · rw [cA_done] at hp
    obtain rfl := List.mem_singleton.1 hp
    exact h1
  · rw [cA_done, cA_ptexts]; exact h2
  · rw [cA_done, cA_used]; decide
theorem half_room {n z : Nat} (h1 : 8 ≤ n) (h3 : 16 ≤ z) : 48 ≤ sec n * z := by
  have h : 3 ≤ sec n := by unfold sec; omega
  have := Nat.mul_le_mul h h3
  omega
/-- The example's commit is there. -/
theorem cA_com {S' : St} {L' : Wl} {P' : List Pr} {c : Int} {n z : Nat} (h1 : 8 ≤ n) (h3 : 16 ≤ z) (h : ComO (fmtS n z) ⟨0, 0, []⟩ [] 99 [] [cA] S' L' P' c) : c = 0 ∧ P' = [⟨aB, bB⟩] ∧ Has S' 0 [[texB cA]] := by
  have hr := half_room h1 h3
  have hd : (fmtS n z).dur.length = n := by simp [fmtS]
  have hsync : ∀ {S2 : St} {L2 : Wl} {c2 : Int}, SyncO (fmtS n z) ⟨0, 0, [texB cA]⟩ [] S2 L2 c2 → c2 = 0 ∧ Has S2 0 [[texB cA]] := by
    intro S2 L2 c2 hs
    cases hs with
    | none hw => cases hw
    | room hw hrr hS hL =>
      exfalso
      have e1 : (payS (⟨0, 0, [texB cA]⟩ : Wl).wait).length = 16 := cA_pay
      have e2 : (framesS []).length = 0 := rfl
      rw [e1, e2, hd] at hrr
      have e3 : (fmtS n z).z = z := rfl
      rw [e3] at hrr
      omega
    | full hw hr hf => cases hf
    | power hl => exact absurd rfl hl
    | done hw hrr hf hS hL => exact ⟨rfl, hS⟩
  cases h with
  | none hb => cases hb
  | quota hb hu => rw [cA_done, cA_used] at hu; omega
  | good hb hu hr2 hP =>
    rcases hr2 with ⟨h5, _⟩ | ⟨h5, _⟩
    · exact ⟨rfl, hP, (hsync h5).2⟩
    · have := (hsync h5).1; omega
  | bad c hb hu hr2 hc hP =>
    rcases hr2 with ⟨h5, _⟩ | ⟨h5, _⟩
    · exact absurd (hsync h5).1 hc
    · have := (hsync h5).1; omega

set_option maxRecDepth 100000 in
set_option maxHeartbeats 4000000 in
theorem works_any (w : World) (ht : Tab w) : Calls Tryz.prog 9 #[] w fun e w' => e = .returned (.bool true) ∧ Below w.heap.size w w' := by
  have HM := Lib.hid (madeK_any 0 0 99 w (by omega) (by omega) (by omega) (by omega) (by omega) (by omega))
  have HT := Lib.hid ht
  clear ht
  go_enter Tryz.func9, Tryz.ntmps9
  go_wp2_with fail
  refine HM.out.mono ?_
  rintro e w1 ⟨x, n, z, m, q, rfl, hm, h1, h2, h3, h4, hq, hst, hB, hb⟩
  obtain rfl : q = 99 := by omega
  have H1 := Lib.hid (And.intro hst (And.intro hB (And.intro hb (And.intro h1 (And.intro h2 (And.intro h3 h4))))))
  clear hm hq h1 h2 h3 h4 hst hB hb HM
  go_wp2_with fail
  have hbx : Below w1.heap.size w1 (w1.alloc (.cells (rsC (m : Int) 0 ⟨#[]⟩ (.slice none 0 0) (.slice none 0 0) false 99 (.slice none 0 0)) r11T)) := (Below.refl _ _).alloc (Nat.le_refl _) _
  have HBX := Lib.hid hbx
  clear hbx
  generalize w1.alloc (.cells (rsC (m : Int) 0 ⟨#[]⟩ (.slice none 0 0) (.slice none 0 0) false 99 (.slice none 0 0)) r11T) = W1 at *
  have HS1 := Lib.hid (And.intro (H1.out.1.below HBX.out) (H1.out.2.2.1.trans (HBX.out.mono H1.out.2.2.1.size)))
  refine (Batch.new_any _).mono ?_
  rintro e w2 ⟨d, rfl, hdp, hdB, hmem, hb2⟩
  have hput : Calls Tryz.prog 38 #[ptr d.pb, .string aB, .string bB] w2 fun e w' => ∃ d', e = .returned (.int .i64 0) ∧ Mem w' d' [cA] ∧ Batch.Step w2 d w' d' :=
    (Batch.put_any hmem Batch.good_nil aB bB (by decide) (by decide)).mono fun e w' h => by
      obtain ⟨d', h1, h2, h3⟩ := h
      exact ⟨d', h1, h2, h3⟩
  have HPT := Lib.hid hput
  have HM2 := Lib.hid (And.intro hmem (And.intro hdB hb2))
  clear hmem hdp hdB hb2 hput
  go_wp2_with fail
  refine HPT.out.mono ?_
  rintro e w3 ⟨d3, rfl, hm3, hs3⟩
  have hb3 : Below W1.heap.size w2 w3 := hs3.below HM2.out.1 (Nat.le_of_eq HM2.out.2.1.symm)
  have hb3' : Below W1.heap.size W1 w3 := HM2.out.2.2.trans hb3
  have hst3 := HS1.out.1.below hb3'
  have hbw3 : Below w.heap.size w w3 := HS1.out.2.trans (hb3'.mono HS1.out.2.size)
  have hgd : Grd x.k := by unfold Grd; have := HT.out.2; have := H1.out.2.1; omega
  have hcm := commitS hst3 [] (fmt_has H1.out.2.2.2.1 H1.out.2.2.2.2.1 H1.out.2.2.2.2.2.1 H1.out.2.2.2.2.2.2) rfl rfl hm3 cA_fair (HT.out.below hbw3) hgd (by show 3 + 200 < 1000000; omega) (by omega)
  have HCM := Lib.hid hcm
  have H3 := Lib.hid (And.intro hst3 hbw3)
  have hdp3 : d3.pb = d.pb := hs3.pb
  rw [hdp3] at HCM
  clear hm3 hs3 hb3 hb3' hst3 hbw3 hgd hcm hdp3 HPT
  go_wp2_with fail
  refine HCM.out.mono ?_
  rintro e w4 ⟨S4, L4, c4, x4, P4, rfl, hco, hki, hst4, hsp4⟩
  obtain ⟨rfl, rfl, hhas⟩ := cA_com H1.out.2.2.2.1 H1.out.2.2.2.2.2.1 hco
  have hbw4 : Below w.heap.size w w4 := H3.out.2.trans (hsp4.fr.below H3.out.2.size fun b hb => by have := (H3.out.1.own_lt hb).2; have := H1.out.2.1; omega)
  have hop := openS hst4.log.disk 0 [[texB cA]] hhas [cA] rfl (fun c hc => by obtain rfl := List.mem_singleton.1 hc; exact cA_told) (fun c hc => by obtain rfl := List.mem_singleton.1 hc; rw [cA_size]; decide) (by simp) 99 (by omega) (by rw [cA_done, cA_used]; decide)
  rw [show x4.k.d.pb = x.k.d.pb from hsp4.pb] at hop
  have HOP := Lib.hid hop
  have hps4 : x4.ps = x.ps := hsp4.ps
  have H4 := Lib.hid (And.intro hst4 (And.intro hbw4 hps4))
  clear hco hki hst4 hsp4 hhas hbw4 hop hps4 HCM
  go_wp2_with fail
  refine HOP.out.mono ?_
  rintro e w5 ⟨x5, rfl, hst5, hxd, hb5, hown5, hps5⟩
  rw [cA_done] at hst5
  have hr1 : Rising Pr.key [(⟨aB, bB⟩ : Pr)] := List.pairwise_singleton _ _
  have HG := Lib.hid (getS hst5 hr1 (by simp) aB)
  have H5 := Lib.hid (And.intro (H4.out.1.below hb5) (H4.out.2.1.trans (hb5.mono H4.out.2.1.size)))
  clear hst5 hxd hb5 hown5 hps5 HOP
  rw [show getV aB [(⟨aB, bB⟩ : Pr)] = bB from rfl, show (at? Pr.key aB [(⟨aB, bB⟩ : Pr)]).isSome = true from rfl] at HG
  go_wp2_with fail
  refine HG.out.mono ?_
  rintro e w6 ⟨rfl, hb6⟩
  have hst6 := H5.out.1.below hb6
  have hus := usedS hst6
  rw [cA_used, H4.out.2.2] at hus
  have HUS := Lib.hid hus
  have hsc := scanS hst6 hr1 (by simp) aB (by decide) (fun y hy => by obtain rfl := List.mem_singleton.1 hy; decide)
  rw [show scanL aB [(⟨aB, bB⟩ : Pr)] = [(⟨aB, bB⟩ : Pr)] from rfl, H4.out.2.2] at hsc
  have HSC := Lib.hid hsc
  have H6 := Lib.hid (H5.out.2.trans (hb6.mono H5.out.2.size))
  have htl : bB.toList = [98] := by rw [Lib.toList_data]
  clear hb6 hst6 hus hsc hr1
  go_wp2_with fail
  refine HUS.out.mono ?_
  rintro e w7 ⟨rfl, rfl⟩
  go_wp2_with fail
  refine HSC.out.mono ?_
  rintro e w8 ⟨u, rfl, ho, hb8⟩
  obtain ⟨ua, uc, rfl⟩ := Batch.owns_slice ho
  have H8 := Lib.hid (H6.out.trans (hb8.mono H6.out.size))
  clear ho hb8
  go_wp2_with fail
  go_ret
  exact ⟨rfl, H8.out⟩
end Go.Proofs.YtdabjhgnmeemiaaGreatDoor.Kv

/-
  What the laws of the store share: acts, light lists of acts; two lists of pairs, alike.
-/
namespace Go.Proofs.YtdabjhgnmeemiaaGreatDoor.Kv
open Go Go.RowKit
open Go.Proofs.YtdabjhgnmeemiaaGreatDoor.Disk (St Dk Is own Fr Lies newS new_at)
open Go.Proofs.YtdabjhgnmeemiaaGreatDoor.Wal (Wl Wk Log ownW StepW Done Grp Has)
open Go.Proofs.YtdabjhgnmeemiaaGreatDoor.Batch (less Rising at? Chg ptr Mem Bt Fine Good ReadsC OkC LightC LightL LightPost light_any key_eq)
open Go.Proofs.YtdabjhgnmeemiaaGreatDoor.Nets (Tab Reads Small)

/-- An act of the laws. -/
structure Ak where
  kind : Int
  lv : Value
  ls : List Chg
  is : Bool
abbrev akT : TypeId := 42
def aC (a : Ak) : List Value := [.int .i64 a.kind, a.lv, .bool a.is]
structure OkA (w : World) (a : Ak) : Prop where
  k1 : -9223372036854775808 ≤ a.kind
  k2 : a.kind ≤ 9223372036854775807
  reads : ReadsC w a.lv a.ls
  each : ∀ c ∈ a.ls, OkC c
  few : a.ls.length ≤ 9223372036854775807
theorem OkA.below {w w' : World} {a : Ak} (h : OkA w a) (hb : Below w.heap.size w w') : OkA w' a := ⟨h.k1, h.k2, h.reads.below hb, h.each, h.few⟩
def ReadsA (w : World) (v : Value) (es : List Ak) : Prop :=
  (∃ a cap, v = .slice a 0 cap ∧ es = []) ∨
  (0 < es.length ∧ ∃ b off cap, v = .slice (some ⟨b, off, none⟩) es.length cap ∧ b < w.heap.size ∧ ∀ i a, es[i]? = some a → w.rangeAt b (off + i * 3) (aC a))
theorem ReadsA.shape {w : World} {v : Value} {es : List Ak} (h : ReadsA w v es) : ∃ a cap, v = .slice a es.length cap ∧ (0 < es.length → ∃ b off, a = some ⟨b, off, none⟩ ∧ b < w.heap.size ∧ ∀ i x, es[i]? = some x → w.rangeAt b (off + i * 3) (aC x)) := by
  rcases h with ⟨a, cap, rfl, rfl⟩ | ⟨h0, b, off, cap, rfl, h1, h2⟩
  · exact ⟨a, cap, rfl, fun h => by simp at h⟩
  · exact ⟨_, cap, rfl, fun _ => ⟨b, off, rfl, h1, h2⟩⟩
theorem ReadsA.below {w w' : World} {v : Value} {es : List Ak} (h : ReadsA w v es) (hb : Below w.heap.size w w') : ReadsA w' v es := by
  rcases h with h | ⟨h0, b, off, cap, rfl, h1, h2⟩
  · exact .inl h
  · exact .inr ⟨h0, b, off, cap, rfl, by have := hb.size; omega, fun i a ha => Batch.range_below (h2 i a ha) h1 hb⟩
theorem three {w : World} {b o : Nat} {e : Ak} (h : w.rangeAt b o (aC e)) : w.cell? ⟨b, o, none⟩ = some (.int .i64 e.kind) ∧ w.cell? ⟨b, o + 1, none⟩ = some e.lv ∧ w.cell? ⟨b, o + 2, none⟩ = some (.bool e.is) :=
  ⟨h 0 _ rfl, h 1 _ rfl, h 2 _ rfl⟩
theorem take_next {α : Type} {p : α → Prop} {q : List α} {k : Nat} {e : α} (hk : q[k]? = some e) (hn : ∀ x ∈ q.take k, p x) (he : p e) : ∀ x ∈ q.take (k + 1), p x := by
  rw [List.take_add_one, hk]
  intro x hx
  rcases List.mem_append.1 hx with hx | hx
  · exact hn x hx
  · simp at hx
    rw [hx]; exact he
def LightA (e : Ak) : Prop := LightL e.ls ∧ e.ls.length ≤ 12
def LightsPost (w : World) (es : List Ak) (e : Ending) (w' : World) : Prop := ∃ b : Bool, e = .returned (.bool b) ∧ (b = true → ∀ x ∈ es.take 30, LightA x) ∧ w' = w
theorem lights_at {es : List Ak} (h : ∀ x ∈ es.take 30, LightA x) {k : Nat} {e : Ak} (hk : es[k]? = some e) (h30 : k < 30) : LightA e :=
  h e (by rw [List.mem_iff_getElem?]; exact ⟨k, by rw [List.getElem?_take_of_lt h30]; exact hk⟩)
set_option maxHeartbeats 2000000 in
theorem lights_any (v : Value) (es : List Ak) (w : World) (h : ReadsA w v es) (ho : ∀ e ∈ es, OkA w e) (hm : es.length ≤ 9223372036854775807) :
    Calls Tryz.prog 8 #[v] w (LightsPost w es) := by
  rcases h with ⟨a, cap, rfl, rfl⟩ | ⟨h0, b, off, cap, rfl, h3, h4⟩
  · go_enter Tryz.func8, Tryz.ntmps8
    go_wp2_with fail
    go_loopw [3] (fun i wr => i = .int .i64 0 ∧ wr = w) (fun i _ => 0 - (intOf i).toNat)
    case atStart => exact ⟨rfl, rfl⟩
    case round =>
      obtain ⟨rfl, rfl⟩ := hrel
      go_wp2_with fail
      go_ret
      exact ⟨_, rfl, fun _ => by simp, rfl⟩
  · have HC := Lib.hid h4
    have HO := Lib.hid ho
    clear h4 ho
    go_enter Tryz.func8, Tryz.ntmps8
    go_wp2_with fail
    go_loopw [3] (fun i wr => ∃ k : Nat, k ≤ es.length ∧ k ≤ 30 ∧ i = .int .i64 k ∧ (∀ e ∈ es.take k, LightA e) ∧ wr = w) (fun i _ => es.length - (intOf i).toNat)
    case atStart => exact ⟨0, Nat.zero_le _, by omega, rfl, by simp, rfl⟩
    case round =>
      obtain ⟨k, hk, hk2, rfl, hn, rfl⟩ := hrel
      have HN := Lib.hid hn
      clear hn
      by_cases hlt : k < es.length ∧ k < 30
      · obtain ⟨e, hke⟩ : ∃ e, es[k]? = some e := ⟨es[k], List.getElem?_eq_getElem hlt.1⟩
        have hl1 := hlt.1
        have hl2 := hlt.2
        have hoe := HO.out e (List.mem_of_getElem? hke)
        obtain ⟨c0, c1, c2⟩ := three (HC.out k e hke)
        obtain ⟨ea, ec, hlv⟩ := Batch.reads_form hoe.reads
        rw [hlv] at c1
        have hfew := hoe.few
        have hlc := light_any e.lv e.ls wr hoe.reads hoe.each hoe.few
        rw [hlv] at hlc
        have HLC := Lib.hid hlc
        have HK := Lib.hid hke
        clear hke hoe hlt hlc hlv
        go_wp2_with fail
        refine HLC.out.mono ?_
        rintro e' w' ⟨b, rfl, hb, rfl⟩
        have HB := Lib.hid hb
        clear hb
        cases b
        · go_wp2_with fail
          go_ret
          exact ⟨_, rfl, fun h => (by cases h), rfl⟩
        · by_cases h12 : 12 < e.ls.length
          · go_wp2_with fail
            go_ret
            exact ⟨_, rfl, fun h => (by cases h), rfl⟩
          · have HT := Lib.hid (take_next (p := LightA) HK.out HN.out ⟨HB.out rfl, by omega⟩)
            go_wp2_with fail
            go_roundw
            case rel => exact ⟨k + 1, by omega, by omega, by simp, HT.out, trivial⟩
            case measure => simp [intOf]; omega
      · have HB : Hid (∀ x ∈ es.take 30, LightA x) := Lib.hid (by
          rcases (show k = es.length ∨ k = 30 by omega) with hq | hq
          · have := HN.out
            rw [hq, List.take_length] at this
            exact fun x hx => this x (List.mem_of_mem_take hx)
          · have := HN.out
            rwa [hq] at this)
        by_cases h40 : k < es.length
        · have h41 : ¬ k < 30 := by omega
          go_wp2_with fail
          go_ret
          exact ⟨_, rfl, fun _ => HB.out, rfl⟩
        · go_wp2_with fail
          go_ret
          exact ⟨_, rfl, fun _ => HB.out, rfl⟩

/-! Pairs told apart. -/
theorem pr_eq (a b : Pr) : (if (!(a.key.toList == b.key.toList)) = true then false else if (!(a.val.toList == b.val.toList)) = true then false else true) = decide (a = b) := by
  rw [key_eq, key_eq]
  obtain ⟨k, v⟩ := a
  obtain ⟨k', v'⟩ := b
  by_cases h1 : k = k' <;> by_cases h2 : v = v' <;> simp [h1, h2]
theorem eqIn_pr (w : World) (d : Nat) (a b : Pr) : (Op.equalIn (d + 2) prT (prV a) (prV b)).run Tryz.prog w = .ok (decide (a = b)) w := by
  have e : (Op.equalIn (d + 1 + 1) prT (prV a) (prV b)).run Tryz.prog w = _ := run_equalIn_struct w (d + 1) prT _ _ (by unfold Program.fieldsOf; rw [Tryz.underlying86]) (by kernel_rfl)
  rw [e]
  unfold Program.fieldsOf
  rw [Tryz.underlying86, ← pr_eq]
  simp [Op.eqFields, go_sem]
  by_cases h1 : a.key.toList = b.key.toList <;> by_cases h2 : a.val.toList = b.val.toList <;> simp [h1, h2]
theorem eql_pr (w : World) (a b : Pr) : (binOp .eql prT (prV a) (prV b)).run Tryz.prog w = .ok (.bool (decide (a = b))) w := by
  simp only [binOp]
  simp [Op.equal, Op.maxDepth, eqIn_pr w 9998 a b]
theorem alike_step {P Q : List Pr} {k : Nat} {a b : Pr} (ha : P[k]? = some a) (hb : Q[k]? = some b) (h : P.take k = Q.take k) : decide (P.take (k + 1) = Q.take (k + 1)) = decide (a = b) := by
  rw [List.take_add_one, List.take_add_one, ha, hb, h, decide_eq_decide]
  constructor
  · intro e
    simpa using List.append_cancel_left e
  · intro e; rw [e]
def AlikePost (w : World) (P Q : List Pr) (e : Ending) (w' : World) : Prop := e = .returned (.bool (decide (P = Q))) ∧ Below w.heap.size w w'
set_option maxHeartbeats 2000000 in
theorem alike_any (v u : Value) (P Q : List Pr) (w : World) (hv : ReadsP w v P) (hu : ReadsP w u Q) (hl : P.length ≤ 100000) (hm : Q.length ≤ 100000) :
    Calls Tryz.prog 29 #[v, u] w (AlikePost w P Q) := by
  obtain ⟨va, vc, rfl⟩ := hv.shape
  obtain ⟨ua, uc, rfl⟩ := hu.shape
  by_cases hne : P.length = Q.length
  · obtain ⟨n, hn⟩ : ∃ n, n = P.length := ⟨_, rfl⟩
    have hn2 : n = Q.length := by omega
    rw [← hn] at hv hl ⊢
    rw [← hn2] at hu ⊢
    have hee : ((n : Int) == n) = true := beq_self_eq_true _
    have HV : Hid (∀ k a, P[k]? = some a → ∃ b off, va = some ⟨b, off, none⟩ ∧ b < w.heap.size ∧ w.rangeAt b (off + k * 2) (prC a)) := Lib.hid (fun k a ha => by
      rcases hv with ⟨e, rfl⟩ | ⟨b, off, cap, e, h1, h2, h3, h4⟩
      · simp at ha
      · obtain ⟨rfl, -, -⟩ := Value.slice.inj e
        exact ⟨b, off, rfl, h3, h4 k a ha⟩)
    have HU : Hid (∀ k a, Q[k]? = some a → ∃ b off, ua = some ⟨b, off, none⟩ ∧ b < w.heap.size ∧ w.rangeAt b (off + k * 2) (prC a)) := Lib.hid (fun k a ha => by
      rcases hu with ⟨e, rfl⟩ | ⟨b, off, cap, e, h1, h2, h3, h4⟩
      · simp at ha
      · obtain ⟨rfl, -, -⟩ := Value.slice.inj e
        exact ⟨b, off, rfl, h3, h4 k a ha⟩)
    have HNN := Lib.hid (And.intro hn hn2)
    clear hv hu hn hn2 hne hm
    go_enter Tryz.func29, Tryz.ntmps29
    go_wp2_with fail
    go_loopw [5, 6] (fun s i wr => ∃ k : Nat, k ≤ n ∧ i = .int .i64 k ∧ s = .bool (decide (P.take k = Q.take k)) ∧ Below w.heap.size w wr) (fun _ i _ => n - (intOf i).toNat)
    case atStart => exact ⟨0, Nat.zero_le _, rfl, by simp, Below.refl _ _⟩
    case round =>
      obtain ⟨k, hk, rfl, rfl, hb⟩ := hrel
      by_cases hs : P.take k = Q.take k
      · have HQ := Lib.hid hs
        have hd : decide (P.take k = Q.take k) = true := decide_eq_true hs
        rw [hd]
        clear hs hd
        by_cases hlt : k < n
        · obtain ⟨a, ha⟩ : ∃ a, P[k]? = some a := ⟨P[k]'(by have := HNN.out; omega), List.getElem?_eq_getElem _⟩
          obtain ⟨c, hc⟩ : ∃ a, Q[k]? = some a := ⟨Q[k]'(by have := HNN.out; omega), List.getElem?_eq_getElem _⟩
          obtain ⟨b1, o1, rfl, hb1, r1⟩ := HV.out k a ha
          obtain ⟨b2, o2, rfl, hb2, r2⟩ := HU.out k c hc
          obtain ⟨c0, c1⟩ := two (Batch.range_below r1 hb1 hb)
          obtain ⟨d0, d1⟩ := two (Batch.range_below r2 hb2 hb)
          have HG := Lib.hid (alike_step ha hc HQ.out)
          have HEQ := Lib.hid (fun W => eql_pr W a c)
          clear ha hc r1 r2
          go_wp2_with fail
          have hq := fun W => eql_pr W a c
          go_region
          go_wp2_with fail
          go_roundw
          case rel => exact ⟨k + 1, by omega, by simp, by rw [HG.out], hb.drew⟩
          case measure => simp [intOf]; omega
        · have HG := Lib.hid (show decide (P = Q) = true from decide_eq_true (by
            have := HQ.out
            rwa [List.take_of_length_le (by have := HNN.out; omega), List.take_of_length_le (by have := HNN.out; omega)] at this))
          go_wp2_with fail
          go_ret
          exact ⟨by rw [HG.out]; rfl, hb⟩
      · have HG := Lib.hid (show decide (P = Q) = false from decide_eq_false fun e => hs (by rw [e]))
        have hd : decide (P.take k = Q.take k) = false := decide_eq_false hs
        rw [hd]
        clear hs hd
        go_wp2_with fail
        go_ret
        exact ⟨by rw [HG.out]; rfl, hb⟩
  · have hne' : ((P.length : Int) == (Q.length : Int)) = false := beq_eq_false_iff_ne.2 (by omega)
    have HG := Lib.hid (show decide (P = Q) = false from decide_eq_false fun e => hne (by rw [e]))
    generalize P.length = n at *
    generalize Q.length = m at *
    clear hv hu
    go_enter Tryz.func29, Tryz.ntmps29
    go_wp2_with fail
    go_loopw [5, 6] (fun s i wr => s = .bool false ∧ i = .int .i64 0 ∧ wr = w) (fun _ i _ => 0 - (intOf i).toNat)
    case atStart => exact ⟨rfl, rfl, rfl⟩
    case round =>
      obtain ⟨rfl, rfl, rfl⟩ := hrel
      go_wp2_with fail
      go_ret
      exact ⟨by rw [HG.out]; rfl, Below.refl _ _⟩
end Go.Proofs.YtdabjhgnmeemiaaGreatDoor.Kv

/-
  The laws' arguments, opened: three numbers, a list of acts, a crash.
-/
namespace Go.Proofs.YtdabjhgnmeemiaaGreatDoor.Kv
open Go Go.RowKit Go.ChangeShapes Go.WideShapes Go.ChangeAt
open Go.Proofs.YtdabjhgnmeemiaaGreatDoor.Disk (ReadsK addr_add)
open Go.Proofs.YtdabjhgnmeemiaaGreatDoor.Batch (Chg chC ReadsC OkC)

theorem cellsStr : Tryz.prog.cellsOf 9 = 1 := by kernel_rfl
theorem cellsI : Tryz.prog.cellsOf 3 = 1 := by kernel_rfl
theorem cellsB : Tryz.prog.cellsOf 4 = 1 := by kernel_rfl
theorem cellsK : Tryz.prog.cellsOf 62 = 1 := by kernel_rfl
theorem cellsL : Tryz.prog.cellsOf 40 = 1 := by kernel_rfl
theorem cellsCh : Tryz.prog.cellsOf 120 = 3 := by kernel_rfl
theorem cellsAct : Tryz.prog.cellsOf 42 = 3 := by kernel_rfl
theorem cellsCr : Tryz.prog.cellsOf 64 = 3 := by kernel_rfl
theorem cellsG : Tryz.prog.cellsOf 23 = 3 := by kernel_rfl
theorem cell_lt {W : World} {b o : Nat} {x : Value} (h : W.cell? ⟨b, o, none⟩ = some x) : b < W.heap.size := World.block_lt_of_cell? W _ h
/-- What a crash takes. -/
structure CrashArg where
  at_ : Int
  kv : Value
  ks : List Bool
  torn : Int
abbrev crT : TypeId := 64
structure OkX (w : World) (c : CrashArg) : Prop where
  at1 : -9223372036854775808 ≤ c.at_
  at2 : c.at_ ≤ 9223372036854775807
  reads : ReadsK w c.kv c.ks
  len : c.ks.length ≤ 9223372036854775807
theorem OkX.below {w w' : World} {c : CrashArg} (h : OkX w c) (hb : Below w.heap.size w w') : OkX w' c := ⟨h.at1, h.at2, h.reads.below hb, h.len⟩

section
variable {H : Type} {enc : TypeId × Value → H} {W : World}
/-- A list of bools, as it is read: its shape, and what it reads as. -/
theorem open_keep {fuel : Nat} {cs : List Value} {x : DataW H × List MemPlace} (hf : DataW.trod enc Tryz.prog W 0 (fun _ => true) true fuel 62 cs = some x) :
    ∃ a len cap ks, cs = [.slice a len cap] ∧ ReadsK W (.slice a len cap) ks ∧ ks.length ≤ 9223372036854775807 := by
  rcases Go.Deep.open_bools Tryz.underlying62 Tryz.underlying4 cellsB hf with ⟨rfl, _⟩ | ⟨a, len, cap, F, rfl, _, hl, hm, _, hx⟩
  · exact ⟨none, 0, 0, [], rfl, .inl ⟨none, 0, rfl, rfl⟩, by simp⟩
  · by_cases h0 : len = 0
    · subst h0
      exact ⟨_, _, _, [], rfl, .inl ⟨_, _, rfl, rfl⟩, by simp⟩
    · obtain ⟨b, off, spot⟩ := a
      have hspot : spot = none := by simpa [Addr.add] using World.cell?_spot (hx 0 (by omega))
      subst hspot
      have hc : ∀ i, i < cap → W.cell? ⟨b, off + i, none⟩ = some (.bool (F i)) := fun i hi => by rw [← addr_add]; exact hx i hi
      have hlen : ((List.range len).map F).length = len := by simp
      refine ⟨_, _, _, (List.range len).map F, rfl, .inr ⟨by omega, b, off, cap, by rw [hlen], cell_lt (hc 0 (by omega)), fun i hi => ?_⟩, by unfold maxLen at hm; omega⟩
      rw [hlen] at hi
      rw [hc i (by omega)]
      simp [List.getD_eq_getElem?_getD, hi]
theorem trod_struct3 {t : TypeId} {f0 f1 f2 : Field} {fuel : Nat} {cs : List Value} {x : DataW H × List MemPlace} (ht : Tryz.prog.underlying t = some (.struct #[f0, f1, f2])) (h : DataW.trod enc Tryz.prog W 0 (fun _ => true) true fuel t cs = some x) :
    ∃ y0 y1 y2 n, cs.length = Tryz.prog.cellsOf t ∧ DataW.trod enc Tryz.prog W 0 (fun _ => true) true n f0.type ((cs.drop f0.offset).take (Tryz.prog.cellsOf f0.type)) = some y0 ∧
      DataW.trod enc Tryz.prog W 0 (fun _ => true) true n f1.type ((cs.drop f1.offset).take (Tryz.prog.cellsOf f1.type)) = some y1 ∧ DataW.trod enc Tryz.prog W 0 (fun _ => true) true n f2.type ((cs.drop f2.offset).take (Tryz.prog.cellsOf f2.type)) = some y2 := by
  obtain ⟨xs, n, _, rfl, hl, hlen, hf⟩ := DataW.trod_struct ht h
  match xs, hlen with
  | [y0, y1, y2], _ => exact ⟨y0, y1, y2, n, hl, by simpa using hf 0 f0 rfl, by simpa using hf 1 f1 rfl, by simpa using hf 2 f2 rfl⟩
set_option maxRecDepth 100000 in
/-- The three cells of a change. -/
theorem open_chg {fuel : Nat} {cs : List Value} {x : DataW H × List MemPlace} (hf : DataW.trod enc Tryz.prog W 0 (fun _ => true) true fuel 120 cs = some x) : ∃ c : Chg, cs = chC c ∧ OkC c := by
  obtain ⟨y0, y1, y2, n, hl, h0, h1, h2⟩ := trod_struct3 Tryz.underlying120 hf
  rw [cellsCh] at hl
  match cs, hl with
  | [c0, c1, c2], _ =>
    simp only [cellsB, cellsStr, List.drop_zero, List.drop_succ_cons, List.take_succ_cons, List.take_zero] at h0 h1 h2
    obtain ⟨k, e0, _, w0⟩ := DataW.trod_string Tryz.underlying9 h0
    obtain ⟨s, e1, _, w1⟩ := DataW.trod_string Tryz.underlying9 h1
    obtain ⟨g, e2, _⟩ := DataW.trod_bool Tryz.underlying4 h2
    obtain rfl := List.cons.inj e0 |>.1
    obtain rfl := List.cons.inj e1 |>.1
    obtain rfl := List.cons.inj e2 |>.1
    unfold maxLen at w0 w1
    exact ⟨⟨k, s, g⟩, rfl, w0, w1⟩
set_option maxRecDepth 100000 in
theorem open_chgs {fuel : Nat} {cs : List Value} {x : DataW H × List MemPlace} (hf : DataW.trod enc Tryz.prog W 0 (fun _ => true) true fuel 40 cs = some x) :
    ∃ a len cap es, cs = [.slice a len cap] ∧ ReadsC W (.slice a len cap) es ∧ (∀ e ∈ es, OkC e) ∧ es.length ≤ 9223372036854775807 := by
  rcases Go.Deep.open_slice Tryz.underlying40 hf with ⟨e, _⟩ | ⟨a, l, c, m, n, D, Pl, e, _, hl, hm, hmm, _, hel⟩
  · exact ⟨none, 0, 0, [], e, .inl ⟨none, 0, rfl, rfl⟩, by simp, by simp⟩
  · simp only [if_true] at hmm
    subst hmm
    rw [cellsCh] at hel
    by_cases h0 : l = 0
    · subst h0
      exact ⟨_, _, _, [], e, .inl ⟨_, _, rfl, rfl⟩, by simp, by simp⟩
    · have hone : ∀ i, i < l → ∃ e : Chg, W.cells? 0 (a.add (i * 3)) 3 = some (chC e) ∧ OkC e := fun i hi => by
        obtain ⟨cs', h1, h2⟩ := hel i (by omega)
        obtain ⟨e, rfl, h3⟩ := open_chg h2
        exact ⟨e, h1, h3⟩
      haveI : Inhabited Chg := ⟨Chg.none⟩
      obtain ⟨f, hfe⟩ := Go.Deep.choose_lt hone
      have hcell : ∀ i, i < l → ∀ j x, (chC (f i))[j]? = some x → W.cell? ((a.add (i * 3)).add j) = some x := fun i hi j x hx => by
        have hh := World.cells?_some (hfe i hi).1
        rw [hh.2.2 j (by rw [← Batch.chC_length (f i)]; exact (List.getElem?_eq_some_iff.1 hx).1)]
        exact hx
      obtain ⟨b, off, spot⟩ := a
      have hspot : spot = none := by simpa [Addr.add] using World.cell?_spot (hcell 0 (by omega) 0 _ rfl)
      subst hspot
      refine ⟨_, _, _, (List.range l).map f, e, .inr ⟨by simp; omega, b, off, m, by simp, ?_, fun i e hi j x hx => ?_⟩, fun e he => ?_, by unfold maxLen at hm; simp; omega⟩
      · have := hcell 0 (by omega) 0 _ rfl
        rw [addr_add, addr_add] at this
        exact cell_lt this
      · obtain ⟨hi2, rfl⟩ : i < l ∧ f i = e := by
          rw [List.getElem?_map, Option.map_eq_some_iff] at hi
          obtain ⟨y, hy, rfl⟩ := hi
          obtain ⟨h1, h2⟩ := List.getElem?_eq_some_iff.1 hy
          rw [List.getElem_range] at h2
          subst h2
          exact ⟨by simpa using h1, rfl⟩
        have := hcell i hi2 j x hx
        rw [addr_add, addr_add] at this
        exact this
      · obtain ⟨i, hi, rfl⟩ := List.mem_map.1 he
        exact (hfe i (List.mem_range.1 hi)).2
theorem aC_length (a : Ak) : (aC a).length = 3 := rfl
set_option maxRecDepth 100000 in
/-- The three cells of an act. -/
theorem open_act {fuel : Nat} {cs : List Value} {x : DataW H × List MemPlace} (hf : DataW.trod enc Tryz.prog W 0 (fun _ => true) true fuel 42 cs = some x) : ∃ a : Ak, cs = aC a ∧ OkA W a := by
  obtain ⟨y0, y1, y2, n, hl, h0, h1, h2⟩ := trod_struct3 Tryz.underlying42 hf
  rw [cellsAct] at hl
  match cs, hl with
  | [c0, c1, c2], _ =>
    simp only [cellsI, cellsB, cellsL, List.drop_zero, List.drop_succ_cons, List.take_succ_cons, List.take_zero] at h0 h1 h2
    obtain ⟨k, e0, _, w0⟩ := DataW.trod_int Tryz.underlying3 h0
    obtain ⟨a, len, cap, ss, e1, hr, hz, hn⟩ := open_chgs h1
    obtain ⟨is, e2, _⟩ := DataW.trod_bool Tryz.underlying4 h2
    obtain rfl := List.cons.inj e0 |>.1
    obtain rfl := List.cons.inj e1 |>.1
    obtain rfl := List.cons.inj e2 |>.1
    have b0 := bounds_i64 w0
    exact ⟨⟨k, .slice a len cap, ss, is⟩, rfl, b0.1, (by show k ≤ _; have := b0.2; omega), hr, hz, hn⟩
set_option maxRecDepth 100000 in
theorem open_acts {fuel : Nat} {cs : List Value} {x : DataW H × List MemPlace} (hf : DataW.trod enc Tryz.prog W 0 (fun _ => true) true fuel 24 cs = some x) :
    ∃ a len cap es, cs = [.slice a len cap] ∧ ReadsA W (.slice a len cap) es ∧ (∀ e ∈ es, OkA W e) ∧ es.length ≤ 9223372036854775807 := by
  rcases Go.Deep.open_slice Tryz.underlying24 hf with ⟨e, _⟩ | ⟨a, l, c, m, n, D, Pl, e, _, hl, hm, hmm, _, hel⟩
  · exact ⟨none, 0, 0, [], e, .inl ⟨none, 0, rfl, rfl⟩, by simp, by simp⟩
  · simp only [if_true] at hmm
    subst hmm
    rw [cellsAct] at hel
    by_cases h0 : l = 0
    · subst h0
      exact ⟨_, _, _, [], e, .inl ⟨_, _, rfl, rfl⟩, by simp, by simp⟩
    · have hone : ∀ i, i < l → ∃ e : Ak, W.cells? 0 (a.add (i * 3)) 3 = some (aC e) ∧ OkA W e := fun i hi => by
        obtain ⟨cs', h1, h2⟩ := hel i (by omega)
        obtain ⟨e, rfl, h3⟩ := open_act h2
        exact ⟨e, h1, h3⟩
      haveI : Inhabited Ak := ⟨⟨0, .slice none 0 0, [], false⟩⟩
      obtain ⟨f, hfe⟩ := Go.Deep.choose_lt hone
      have hcell : ∀ i, i < l → ∀ j x, (aC (f i))[j]? = some x → W.cell? ((a.add (i * 3)).add j) = some x := fun i hi j x hx => by
        have hh := World.cells?_some (hfe i hi).1
        rw [hh.2.2 j (by rw [← aC_length (f i)]; exact (List.getElem?_eq_some_iff.1 hx).1)]
        exact hx
      obtain ⟨b, off, spot⟩ := a
      have hspot : spot = none := by simpa [Addr.add] using World.cell?_spot (hcell 0 (by omega) 0 _ rfl)
      subst hspot
      refine ⟨_, _, _, (List.range l).map f, e, .inr ⟨by simp; omega, b, off, m, by simp, ?_, fun i e hi j x hx => ?_⟩, fun e he => ?_, by unfold maxLen at hm; simp; omega⟩
      · have := hcell 0 (by omega) 0 _ rfl
        rw [addr_add, addr_add] at this
        exact cell_lt this
      · obtain ⟨hi2, rfl⟩ : i < l ∧ f i = e := by
          rw [List.getElem?_map, Option.map_eq_some_iff] at hi
          obtain ⟨y, hy, rfl⟩ := hi
          obtain ⟨h1, h2⟩ := List.getElem?_eq_some_iff.1 hy
          rw [List.getElem_range] at h2
          subst h2
          exact ⟨by simpa using h1, rfl⟩
        have := hcell i hi2 j x hx
        rw [addr_add, addr_add] at this
        exact this
      · obtain ⟨i, hi, rfl⟩ := List.mem_map.1 he
        exact (hfe i (List.mem_range.1 hi)).2
set_option maxRecDepth 100000 in
theorem arg_acts {base : Nat} {v : Value} {d : DataW H} {p : List MemPlace} (hv : Value.okWide Tryz.prog W .any base 24 v) (h : DataW.Trod enc Tryz.prog W 0 (fun _ => true) true 24 v d p) :
    ∃ es, ReadsA W v es ∧ (∀ e ∈ es, OkA W e) ∧ es.length ≤ 9223372036854775807 := by
  obtain ⟨a0, len, cap, rfl⟩ := okWide_slice Tryz.underlying24 hv
  obtain ⟨fuel, hf⟩ := h
  obtain ⟨a, l, c, es, e, h1, h2, h3⟩ := open_acts hf
  have e2 : Value.slice a0 len cap = .slice a l c := by simpa [Value.cells] using e
  rw [e2]
  exact ⟨es, h1, h2, h3⟩
set_option maxRecDepth 100000 in
theorem arg_crash {base : Nat} {v : Value} {d : DataW H} {p : List MemPlace} (hv : Value.okWide Tryz.prog W .any base 64 v) (h : DataW.Trod enc Tryz.prog W 0 (fun _ => true) true 64 v d p) :
    ∃ c : CrashArg, v = .agg #[.int .i64 c.at_, c.kv, .int .i64 c.torn] ∧ OkX W c := by
  obtain ⟨cs, rfl, hsz, _⟩ : ∃ cs, v = .agg cs ∧ cs.size = Tryz.prog.cellsOf 64 ∧ Row.okWide Tryz.prog W .any base 64 cs := by
    simpa [Value.okWide, Tryz.underlying64] using hv
  rw [cellsCr] at hsz
  obtain ⟨l⟩ := cs
  obtain ⟨fuel, hf⟩ := h
  match l, hsz with
  | [c0, c1, c2], _ =>
    obtain ⟨y0, y1, y2, n, _, h0, h1, h2⟩ := trod_struct3 Tryz.underlying64 hf
    simp only [cellsI, cellsK, Value.cells, List.drop_zero, List.drop_succ_cons, List.take_succ_cons, List.take_zero] at h0 h1 h2
    obtain ⟨x, e0, _, w0⟩ := DataW.trod_int Tryz.underlying3 h0
    obtain ⟨a, len, cap, ks, e1, hr, hn⟩ := open_keep h1
    obtain ⟨t, e2, _, _⟩ := DataW.trod_int Tryz.underlying3 h2
    obtain rfl := List.cons.inj e0 |>.1
    obtain rfl := List.cons.inj e1 |>.1
    obtain rfl := List.cons.inj e2 |>.1
    have b0 := bounds_i64 w0
    exact ⟨⟨x, .slice a len cap, ks, t⟩, rfl, b0.1, (by show x ≤ _; have := b0.2; omega), hr, hn⟩
set_option maxRecDepth 100000 in
theorem arg_geo {base : Nat} {v : Value} {d : DataW H} {p : List MemPlace} (hv : Value.okWide Tryz.prog W .any base 23 v) (h : DataW.Trod enc Tryz.prog W 0 (fun _ => true) true 23 v d p) :
    ∃ g0 g1 g2, v = .agg #[.int .i64 g0, .int .i64 g1, .int .i64 g2] ∧ (-9223372036854775808 ≤ g0 ∧ g0 ≤ 9223372036854775807) ∧ (-9223372036854775808 ≤ g1 ∧ g1 ≤ 9223372036854775807) ∧ (-9223372036854775808 ≤ g2 ∧ g2 ≤ 9223372036854775807) := by
  obtain ⟨cs, rfl, hsz, _⟩ : ∃ cs, v = .agg cs ∧ cs.size = Tryz.prog.cellsOf 23 ∧ Row.okWide Tryz.prog W .any base 23 cs := by
    simpa [Value.okWide, Tryz.underlying23] using hv
  rw [cellsG] at hsz
  obtain ⟨l⟩ := cs
  obtain ⟨fuel, hf⟩ := h
  match l, hsz with
  | [c0, c1, c2], _ =>
    obtain ⟨y0, y1, y2, n, _, h0, h1, h2⟩ := trod_struct3 Tryz.underlying23 hf
    simp only [cellsI, Value.cells, List.drop_zero, List.drop_succ_cons, List.take_succ_cons, List.take_zero] at h0 h1 h2
    obtain ⟨x0, e0, _, w0⟩ := DataW.trod_int Tryz.underlying3 h0
    obtain ⟨x1, e1, _, w1⟩ := DataW.trod_int Tryz.underlying3 h1
    obtain ⟨x2, e2, _, w2⟩ := DataW.trod_int Tryz.underlying3 h2
    obtain rfl := List.cons.inj e0 |>.1
    obtain rfl := List.cons.inj e1 |>.1
    obtain rfl := List.cons.inj e2 |>.1
    have b0 := bounds_i64 w0
    have b1 := bounds_i64 w1
    have b2 := bounds_i64 w2
    exact ⟨x0, x1, x2, rfl, ⟨b0.1, by omega⟩, ⟨b1.1, by omega⟩, ⟨b2.1, by omega⟩⟩
end
end Go.Proofs.YtdabjhgnmeemiaaGreatDoor.Kv
