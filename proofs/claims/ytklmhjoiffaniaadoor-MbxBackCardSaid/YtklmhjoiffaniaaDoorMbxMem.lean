/-
  Boxes in memory: three cells each; lists of them, read and appended to; told apart.
-/
import Derived.Test.YtklmhjoiffaniaaDoorMbxJoin
namespace Go.Proofs.YtklmhjoiffaniaaDoor.Mbx
open Go Go.RowKit
open Go.Proofs.YtklmhjoiffaniaaDoor.Lex
open Go.Proofs.YtklmhjoiffaniaaDoor.Addr (strT adT arT adB boxA cellsA twoA eqIn_ad eqIn_ar str_eq)

abbrev bxT : TypeId := 33
abbrev bxsT : TypeId := 23
abbrev rbT : TypeId := 40
abbrev rbsT : TypeId := 27
def bxC (b : Bx) : List Value := [.string b.n, .string b.l, .string b.d]
abbrev bxV (b : Bx) : Value := .agg #[.string b.n, .string b.l, .string b.d]
abbrev boxB (t : TypeId) (b : Bx) : Obj := .cells #[.string b.n, .string b.l, .string b.d] t
theorem bxC_length (p : Bx) : (bxC p).length = 3 := rfl
theorem flat3_length (q : List Bx) : (q.flatMap bxC).length = q.length * 3 := by
  induction q with
  | nil => rfl
  | cons e q ih => rw [List.flatMap_cons, List.length_append, ih, bxC_length, List.length_cons]; omega
theorem flat3_get : ∀ (q : List Bx) (i : Nat) (e : Bx), q[i]? = some e → ∀ j, j < 3 → (q.flatMap bxC)[i * 3 + j]? = (bxC e)[j]?
  | [], _, _, h, _, _ => by simp at h
  | x :: q, 0, e, h, j, hj => by
    obtain rfl : x = e := by simpa using h
    rw [List.flatMap_cons, List.getElem?_append_left (by rw [bxC_length]; omega)]
    simp
  | x :: q, i + 1, e, h, j, hj => by
    rw [List.flatMap_cons, List.getElem?_append_right (by rw [bxC_length]; omega), bxC_length, show (i + 1) * 3 + j - 3 = i * 3 + j by omega]
    exact flat3_get q i e (by simpa using h) j hj
theorem flat3_snoc (l : List Bx) (e : Bx) : (l ++ [e]).flatMap bxC = l.flatMap bxC ++ bxC e := by simp
theorem one_cell3 (c : Bx) : ∀ u ∈ bxC c, u.oneCell' = true := by
  intro u hu
  unfold bxC at hu
  simp only [List.mem_cons, List.not_mem_nil, or_false] at hu
  rcases hu with rfl | rfl | rfl <;> rfl
theorem three {w : World} {b o : Nat} {e : Bx} (h : w.rangeAt b o (bxC e)) : w.cell? ⟨b, o, none⟩ = some (.string e.n) ∧ w.cell? ⟨b, o + 1, none⟩ = some (.string e.l) ∧ w.cell? ⟨b, o + 2, none⟩ = some (.string e.d) := ⟨h 0 _ rfl, h 1 _ rfl, h 2 _ rfl⟩
theorem threeA {w : World} {b o : Nat} {e : Bx} (h : w.rangeAt b o (bxC e)) : w.rangeAt b (o + 1) (cellsA e.l e.d) := by
  intro j v hv
  have := h (j + 1) v (by
    match j, hv with
    | 0, hv => exact hv
    | 1, hv => exact hv
    | j + 2, hv => simp [cellsA] at hv)
  rwa [show o + (j + 1) = o + 1 + j by omega] at this

/-- The value is a slice that reads as these boxes. -/
def ReadsB (w : World) (v : Value) (q : List Bx) : Prop :=
  (∃ a cap, v = .slice a 0 cap ∧ q = []) ∨
  (∃ b off cap, v = .slice (some ⟨b, off, none⟩) q.length cap ∧ q.length ≤ cap ∧ cap ≤ 9223372036854775807 ∧ b < w.heap.size ∧ ∀ i e, q[i]? = some e → w.rangeAt b (off + i * 3) (bxC e))
section
variable {w w' : World} {v : Value} {q : List Bx}
theorem ReadsB.below (h : ReadsB w v q) (hb : Below w.heap.size w w') : ReadsB w' v q := by
  rcases h with h | ⟨b, off, cap, rfl, h1, h2, h3, h4⟩
  · exact .inl h
  · exact .inr ⟨b, off, cap, rfl, h1, h2, by have := hb.size; omega, fun i e hi => range_below (h4 i e hi) h3 hb⟩
theorem ReadsB.shape (h : ReadsB w v q) : ∃ a cap, v = .slice a q.length cap := by
  rcases h with ⟨a, cap, rfl, rfl⟩ | ⟨b, off, cap, rfl, _⟩
  · exact ⟨a, cap, rfl⟩
  · exact ⟨_, cap, rfl⟩
theorem nil_readsB (w : World) : ReadsB w (.slice none 0 0) [] := .inl ⟨_, _, rfl, rfl⟩
theorem ReadsB.at_ {a : Option Addr} {n cap : Nat} (h : ReadsB w (.slice a n cap) q) (i : Nat) (e : Bx) (hi : q[i]? = some e) : ∃ b off, a = some ⟨b, off, none⟩ ∧ b < w.heap.size ∧ w.rangeAt b (off + i * 3) (bxC e) := by
  rcases h with ⟨a', cap', he, rfl⟩ | ⟨b, off, cap', he, h1, h2, h3, h4⟩
  · simp at hi
  · obtain ⟨rfl, -, -⟩ := Value.slice.inj he
    exact ⟨b, off, rfl, h3, h4 i e hi⟩
end
theorem owns_readsB {w : World} {B : Nat} {t : TypeId} {v : Value} {q : List Bx} (h : w.ownsRow B t 3 v q.length (q.flatMap bxC)) : ReadsB w v q := by
  have hc := fun g hg => h.cells (g := g) hg
  have hlt := h.lt
  rcases h.2 with ⟨rfl, hn⟩ | ⟨g, cap, cur, rfl, hb, hg, h1, h2, _, _⟩
  · exact .inl ⟨_, _, rfl, List.length_eq_zero_iff.1 hn⟩
  · refine .inr ⟨g, 0, cap, rfl, h1, by unfold maxLen at h2; omega, (hlt g rfl).2, fun i e hi j v hv => ?_⟩
    have hj : j < 3 := by
      have := (List.getElem?_eq_some_iff.1 hv).1
      rw [bxC_length] at this
      exact this
    have e1 := hc g rfl (i * 3 + j) v (by rw [flat3_get q i e hi j hj]; exact hv)
    rw [addr_add] at e1
    rw [← e1]
    congr 2
    omega
theorem sizeB : (Tryd.prog.info? bxT).map (·.size) = some 3 := by kernel_rfl
theorem sizeRB : (Tryd.prog.info? rbT).map (·.size) = some 3 := by kernel_rfl
theorem infoB : (Tryd.prog.info? bxT).map (fun i => (i.zero, i.size, i.bytes)) = some (some (.agg #[.string ⟨#[]⟩, .string ⟨#[]⟩, .string ⟨#[]⟩]), 3, 48) := by kernel_rfl
theorem infoRB : (Tryd.prog.info? rbT).map (fun i => (i.zero, i.size, i.bytes)) = some (some (.agg #[.string ⟨#[]⟩, .string ⟨#[]⟩, .string ⟨#[]⟩]), 3, 48) := by kernel_rfl
theorem new_boxB (w : World) (t : TypeId) (c : Bx) : (w.alloc (boxB t c)).rangeAt w.heap.size 0 (bxC c) := by
  intro j u h
  have hb := heap_alloc_new w (boxB t c)
  simp only [World.cell?, hb, Nat.zero_add]
  unfold bxC at h
  match j, h with
  | 0, h => simpa using h
  | 1, h => simpa using h
  | 2, h => simpa using h
  | j + 3, h => simp at h
/-- One box appended, as the program does it. -/
theorem append_oneB (mo : Nat) {us : List Bx} (hn : us.length = mo) (W : World) (B : Nat) (ou : Value) (y : Bx) (ho : W.ownsRow B bxT 3 ou mo (us.flatMap bxC)) (hl : mo ≤ 100000000) (hB : B ≤ W.heap.size) :
    ∃ a c w', (Builtin.append_ #[bxsT, bxsT] bxsT #[ou, .slice (some ⟨W.heap.size, 0, none⟩) 1 1]).run Tryd.prog (W.alloc (boxB bxT y)) = .ok (.slice a (mo + 1) c) w' ∧
      Hid (w'.ownsRow B bxT 3 (.slice a (mo + 1) c) (mo + 1) ((us ++ [y]).flatMap bxC) ∧ w'.heap.size ≥ W.heap.size ∧ (W.alloc (boxB bxT y)).grownBy w' ou.ownBlock ∧ (∀ g, ou.ownBlock = some g → B ≤ g)) := by
  subst hn
  obtain ⟨i0, hi, hz0, hz1, hz2⟩ := info_parts infoB
  obtain ⟨v', w', hr, h2, h3, h4⟩ := run_append_own (P := Tryd.prog) (W.alloc (boxB bxT y)) B bxsT bxsT bxT i0 _ 3 48 Tryd.underlying23 hi hz0 hz1 hz2 rfl (by decide) ou us.length _ (ho.alloc _) ⟨W.heap.size, 0, none⟩ 1 1 (bxC y) rfl (fun j u hu => by rw [addr_add]; exact new_boxB W bxT y j u hu) (one_cell3 y) (by unfold maxLen; omega) (by omega) (by simp; omega)
  obtain ⟨a, c, rfl⟩ := owns_slice h2
  refine ⟨a, c, w', hr, Lib.hid ⟨?_, ?_, h3, fun k hk => (ho.lt k hk).1⟩⟩
  · rw [flat3_snoc]; exact h2
  · have := h3.size
    simp at this
    omega
/-- One box appended, as the document does it. -/
theorem append_oneRB (mo : Nat) {us : List Bx} (hn : us.length = mo) (W : World) (B : Nat) (ou : Value) (y : Bx) (ho : W.ownsRow B rbT 3 ou mo (us.flatMap bxC)) (hl : mo ≤ 100000000) (hB : B ≤ W.heap.size) :
    ∃ a c w', (Builtin.append_ #[rbsT, rbsT] rbsT #[ou, .slice (some ⟨W.heap.size, 0, none⟩) 1 1]).run Tryd.prog (W.alloc (boxB rbT y)) = .ok (.slice a (mo + 1) c) w' ∧
      Hid (w'.ownsRow B rbT 3 (.slice a (mo + 1) c) (mo + 1) ((us ++ [y]).flatMap bxC) ∧ w'.heap.size ≥ W.heap.size ∧ (W.alloc (boxB rbT y)).grownBy w' ou.ownBlock ∧ (∀ g, ou.ownBlock = some g → B ≤ g)) := by
  subst hn
  obtain ⟨i0, hi, hz0, hz1, hz2⟩ := info_parts infoRB
  obtain ⟨v', w', hr, h2, h3, h4⟩ := run_append_own (P := Tryd.prog) (W.alloc (boxB rbT y)) B rbsT rbsT rbT i0 _ 3 48 Tryd.underlying27 hi hz0 hz1 hz2 rfl (by decide) ou us.length _ (ho.alloc _) ⟨W.heap.size, 0, none⟩ 1 1 (bxC y) rfl (fun j u hu => by rw [addr_add]; exact new_boxB W rbT y j u hu) (one_cell3 y) (by unfold maxLen; omega) (by omega) (by simp; omega)
  obtain ⟨a, c, rfl⟩ := owns_slice h2
  refine ⟨a, c, w', hr, Lib.hid ⟨?_, ?_, h3, fun k hk => (ho.lt k hk).1⟩⟩
  · rw [flat3_snoc]; exact h2
  · have := h3.size
    simp at this
    omega

/-! Told apart. -/
def beqB (a b : Bx) : Bool := decide (a.n = b.n) && (decide (a.l = b.l) && decide (a.d = b.d))
theorem beqB_iff {a b : Bx} : beqB a b = true ↔ a = b := by
  unfold beqB
  simp only [Bool.and_eq_true, decide_eq_true_eq]
  constructor
  · rintro ⟨h1, h2, h3⟩
    cases a; cases b
    simp_all
  · rintro rfl
    exact ⟨rfl, rfl, rfl⟩
theorem beqB_self (a : Bx) : beqB a a = true := beqB_iff.2 rfl
theorem eqIn_bx (w : World) (n : Nat) (a b : Bx) : (Op.equalIn (n + 3) bxT (bxV a) (bxV b)).run Tryd.prog w = .ok (beqB a b) w := by
  have e : (Op.equalIn (n + 2 + 1) bxT (bxV a) (bxV b)).run Tryd.prog w = _ := run_equalIn_struct w (n + 2) bxT _ _ (by unfold Program.fieldsOf; rw [Tryd.underlying33]) (by kernel_rfl)
  rw [e]
  unfold Program.fieldsOf
  rw [Tryd.underlying33]
  unfold beqB
  rw [← str_eq a.n b.n, ← str_eq a.l b.l, ← str_eq a.d b.d]
  simp [Op.eqFields, go_sem]
  by_cases h1 : a.n.toList = b.n.toList <;> by_cases h2 : a.l.toList = b.l.toList <;> by_cases h3 : a.d.toList = b.d.toList <;> simp [h1, h2, h3]
theorem eql_bx (w : World) (a b : Bx) : (binOp .eql bxT (bxV a) (bxV b)).run Tryd.prog w = .ok (.bool (beqB a b)) w := by
  simp only [binOp]
  simp [Op.equal, Op.maxDepth, eqIn_bx w 9997]
theorem neq_bx (w : World) (a b : Bx) : (binOp .neq bxT (bxV a) (bxV b)).run Tryd.prog w = .ok (.bool (!beqB a b)) w := by
  simp only [binOp]
  simp [Op.equal, Op.maxDepth, eqIn_bx w 9997]
theorem guard_bx : Tryd.prog.eqGuardType Tryd.prog.depth bxT = false := by kernel_rfl

/-! One byte within , ; : < >. -/
abbrev endS : ByteArray := ⟨#[44, 59, 58, 60, 62]⟩
def endN (n : Nat) : Bool := n == 44 || (n == 59 || (n == 58 || (n == 60 || n == 62)))
theorem end_index (n : Nat) (hn : n < 256) : decide (0 ≤ Lib.indexByte endS.data.toList n.toUInt8) = endN n := by
  have := all256 (p := fun n => decide (0 ≤ Lib.indexByte endS.data.toList n.toUInt8) == endN n) (by decide +kernel) n hn
  exact beq_iff_eq.1 this
set_option maxRecDepth 100000 in
set_option maxHeartbeats 1000000 in
theorem indexLE_any (c : UInt8) (w : World) :
    Calls Tryd.prog 87 #[.string endS, .string ⟨#[c]⟩] w fun e w' => e = .returned (.int .i64 (Lib.indexByte endS.data.toList c)) ∧ w = w' := by
  have HX := Lib.hid (fun W => indexL_any endS c.toNat W)
  have hq : ((⟨#[c]⟩ : ByteArray).toList == endS.toList) = false := by
    rw [beq_eq_false_iff_ne]
    intro h
    rw [Lib.toList_data, Lib.toList_data] at h
    have := congrArg List.length h
    simp at this
  go_enter Tryd.func87, Tryd.ntmps87
  go_wp2_with fail
  refine (HX.out _).mono ?_
  rintro e w1 ⟨rfl, rfl⟩
  go_wp2_with fail
  go_ret
  exact ⟨rfl, rfl⟩
set_option maxRecDepth 100000 in
set_option maxHeartbeats 1000000 in
theorem indexE_any (c : UInt8) (w : World) :
    Calls Tryd.prog 73 #[.string endS, .string ⟨#[c]⟩] w fun e w' => e = .returned (.int .i64 (Lib.indexByte endS.data.toList c)) ∧ w = w' := by
  have HX := Lib.hid (fun W => indexLE_any c W)
  go_enter Tryd.func73, Tryd.ntmps73
  go_wp2_with fail
  refine (HX.out _).mono ?_
  rintro e w1 ⟨rfl, rfl⟩
  go_wp2_with fail
  go_ret
  exact ⟨rfl, rfl⟩
set_option maxRecDepth 100000 in
set_option maxHeartbeats 1000000 in
theorem containsE_any (c : UInt8) (w : World) :
    Calls Tryd.prog 96 #[.string endS, .string ⟨#[c]⟩] w fun e w' => e = .returned (.bool (endN c.toNat)) ∧ w = w' := by
  have HX := Lib.hid (fun W => indexE_any c W)
  have he := end_index c.toNat c.toNat_lt
  rw [show c.toNat.toUInt8 = c from UInt8.ofNat_toNat] at he
  have HE := Lib.hid he
  clear he
  generalize Lib.indexByte endS.data.toList c = v at *
  go_enter Tryd.func96, Tryd.ntmps96
  go_wp2_with fail
  refine (HX.out _).mono ?_
  rintro e w1 ⟨rfl, rfl⟩
  go_wp2_with fail
  go_ret
  exact ⟨ret_bool HE.out, rfl⟩
/-- An append within a region that draws its order, its run laid. -/
theorem step_append_run {P : Program} {ops : Array Oper} {o : Oper} {a : Act} {w w' : World} {K : Act → World → Prop} {Q : Exit → Act → World → Prop} {E : Prop}
    (hg : o.guard = none) (s x : Operand) (t : TypeId) (hop : o.op = Op.call { callee := Callee.builtin Builtin.append, args := #[s, x], argTypes := #[t, t] })
    (u v r : Value) (hs : a.eval s = u) (hx : a.eval x = v) (hrun : (Builtin.append_ #[t, t] o.type #[u, v]).run P w = .ok r w') (hK : K (a.put o.dst r) w') :
    if Region.wanted o (yielded ops a.tmps) = true then Oper.wp P o a w K Q else E := by
  have hw : Region.wanted o (yielded ops a.tmps) = true := by simp [Region.wanted, hg]
  rw [if_pos hw]
  unfold Oper.wp
  simp [execOp, hop, resolve, invoke, builtin, hs, hx, hrun, Result.andThen]
  exact hK
end Go.Proofs.YtklmhjoiffaniaaDoor.Mbx
