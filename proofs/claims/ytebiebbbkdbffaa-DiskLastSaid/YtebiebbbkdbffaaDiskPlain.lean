/-
  Plain facts on a disk: sectors, a cache of writes, what is written, flushed, cut, crashed. No program is named here.
-/
import Derived.Lib.Strings
namespace Go.Proofs.Ytebiebbbkdbffaa.Disk
open Go

/-- A write of the cache. -/
structure Wr where
  p : Nat
  s : ByteArray

/-- A disk. -/
structure St where
  z : Nat
  dur : List ByteArray
  cache : List Wr
  left : Nat
  full : Bool
  off : Bool
  ops : Nat

def landL (L : List ByteArray) (ws : List Wr) : List ByteArray := ws.foldl (fun L w => L.set w.p w.s) L
def con (S : St) : List ByteArray := landL S.dur S.cache
def at0 (L : List ByteArray) (i : Nat) : ByteArray := L.getD i ⟨#[]⟩

theorem landL_nil (L : List ByteArray) : landL L [] = L := rfl
theorem landL_cons (L : List ByteArray) (w : Wr) (ws : List Wr) : landL L (w :: ws) = landL (L.set w.p w.s) ws := rfl
theorem landL_append (L : List ByteArray) (a b : List Wr) : landL L (a ++ b) = landL (landL L a) b := by
  unfold landL; rw [List.foldl_append]
theorem landL_snoc (L : List ByteArray) (a : List Wr) (w : Wr) : landL L (a ++ [w]) = (landL L a).set w.p w.s := by
  rw [landL_append]; rfl
theorem landL_length : ∀ (ws : List Wr) (L : List ByteArray), (landL L ws).length = L.length
  | [], _ => rfl
  | w :: ws, L => by rw [landL_cons, landL_length ws, List.length_set]
theorem landL_take {L : List ByteArray} {ws : List Wr} {k : Nat} {w : Wr} (h : ws[k]? = some w) : landL L (ws.take (k + 1)) = (landL L (ws.take k)).set w.p w.s := by
  obtain ⟨hk, rfl⟩ := List.getElem?_eq_some_iff.1 h
  rw [List.take_succ_eq_append_getElem hk, landL_snoc]
theorem landL_other {i : Nat} : ∀ (ws : List Wr) (L : List ByteArray), (∀ w ∈ ws, w.p ≠ i) → (landL L ws)[i]? = L[i]?
  | [], _, _ => rfl
  | w :: ws, L, h => by
    rw [landL_cons, landL_other ws _ fun x hx => h x (by simp [hx]), List.getElem?_set_ne (h w (by simp))]
theorem landL_mem {i : Nat} {x : ByteArray} : ∀ (ws : List Wr) (L : List ByteArray), (landL L ws)[i]? = some x → L[i]? = some x ∨ ∃ w ∈ ws, w.p = i ∧ w.s = x
  | [], _, h => .inl h
  | w :: ws, L, h => by
    rw [landL_cons] at h
    rcases landL_mem ws _ h with h | ⟨y, hy, h1, h2⟩
    · by_cases e : w.p = i
      · rw [List.getElem?_set, if_pos e] at h
        split at h
        · exact .inr ⟨w, by simp, e, by simpa using h⟩
        · cases h
      · rw [List.getElem?_set_ne e] at h
        exact .inl h
    · exact .inr ⟨y, by simp [hy], h1, h2⟩

/-- All sectors have so many bytes, all writes are of one of them. -/
structure Fit (z n : Nat) (L : List ByteArray) (ws : List Wr) : Prop where
  len : L.length = n
  size : ∀ x ∈ L, x.size = z
  wr : ∀ w ∈ ws, w.p < n ∧ w.s.size = z
theorem Fit.land {z n : Nat} {ws : List Wr} {L : List ByteArray} (h : Fit z n L ws) : ∀ x ∈ landL L ws, x.size = z := by
  intro x hx
  obtain ⟨i, hi, e⟩ := List.mem_iff_getElem.1 hx
  rcases landL_mem ws L (i := i) (x := x) (by rw [List.getElem?_eq_getElem hi, e]) with h1 | ⟨w, hw, _, rfl⟩
  · exact h.size x (List.mem_of_getElem? h1)
  · exact (h.wr w hw).2
theorem Fit.at {z n i : Nat} {ws : List Wr} {L : List ByteArray} (h : Fit z n L ws) (hi : i < n) : (at0 L i).size = z := by
  unfold at0
  rw [List.getD_eq_getElem?_getD, List.getElem?_eq_getElem (by rw [h.len]; exact hi)]
  exact h.size _ (List.getElem_mem _)

/-! An operation. -/
def opS (S : St) : St := { S with ops := S.ops + 1, left := S.left - 1, off := decide (S.left = 1) }
def putS (S : St) (at_ : Int) (s : ByteArray) : St × Int :=
  if at_ < 0 ∨ (S.dur.length : Int) ≤ at_ ∨ s.size ≠ S.z then (S, 1)
  else if S.off = true then (S, 80)
  else if S.left = 1 then ({ opS S with cache := S.cache ++ [⟨at_.toNat, s⟩] }, 80)
  else if S.full = true then (opS S, 81)
  else ({ opS S with cache := S.cache ++ [⟨at_.toNat, s⟩] }, 0)
def flushS (S : St) : St × Int :=
  if S.off = true then (S, 80)
  else if S.left = 1 then (opS S, 80)
  else ({ opS S with dur := con S, cache := [] }, 0)
def readS (S : St) (at_ : Int) : ByteArray × Int :=
  if at_ < 0 ∨ (S.dur.length : Int) ≤ at_ then (⟨#[]⟩, 1)
  else if S.off = true then (⟨#[]⟩, 80)
  else (at0 (con S) at_.toNat, 0)

/-! A crash. -/
def chosen : List Wr → List Bool → List Wr
  | w :: ws, k :: ks => if k then w :: chosen ws ks else chosen ws ks
  | _, _ => []
theorem chosen_nil (ks : List Bool) : chosen [] ks = [] := by cases ks <;> rfl
theorem chosen_none (ws : List Wr) : chosen ws [] = [] := by cases ws <;> rfl
theorem chosen_append : ∀ (a b : List Wr) (ks : List Bool), chosen (a ++ b) ks = chosen a ks ++ chosen b (ks.drop a.length)
  | [], b, ks => by simp [chosen_nil]
  | w :: a, b, [] => by simp [chosen_none]
  | w :: a, b, k :: ks => by
    show (if k then w :: chosen (a ++ b) ks else chosen (a ++ b) ks) = (if k then w :: chosen a ks else chosen a ks) ++ chosen b (ks.drop a.length)
    rw [chosen_append a b ks]
    split <;> rfl
theorem chosen_mem {w : Wr} : ∀ (ws : List Wr) (ks : List Bool), w ∈ chosen ws ks → w ∈ ws
  | [], ks, h => by rw [chosen_nil] at h; cases h
  | x :: ws, [], h => by rw [chosen_none] at h; cases h
  | x :: ws, k :: ks, h => by
    unfold chosen at h
    split at h
    · rcases List.mem_cons.1 h with h | h
      · exact List.mem_cons.2 (.inl h)
      · exact List.mem_cons.2 (.inr (chosen_mem ws ks h))
    · exact List.mem_cons.2 (.inr (chosen_mem ws ks h))
theorem chosen_length : ∀ (ws : List Wr) (ks : List Bool), (chosen ws ks).length ≤ ws.length
  | [], ks => by rw [chosen_nil]; exact Nat.le_refl _
  | x :: ws, [] => by rw [chosen_none]; exact Nat.zero_le _
  | x :: ws, k :: ks => by
    unfold chosen
    have := chosen_length ws ks
    split
    · simp only [List.length_cons]; omega
    · simp only [List.length_cons]; omega
/-- One more. -/
theorem chosen_take {ws : List Wr} {ks : List Bool} {k : Nat} {w : Wr} (h : ws[k]? = some w) : chosen (ws.take (k + 1)) ks = chosen (ws.take k) ks ++ (if ks.getD k false then [w] else []) := by
  obtain ⟨hk, rfl⟩ := List.getElem?_eq_some_iff.1 h
  rw [List.take_succ_eq_append_getElem hk, chosen_append, List.length_take, Nat.min_eq_left (Nat.le_of_lt hk)]
  congr 1
  cases hd : ks.drop k with
  | nil =>
    rw [chosen_none, List.getD_eq_getElem?_getD, List.getElem?_eq_none (by simpa using hd)]
    rfl
  | cons b r =>
    have : ks[k]? = some b := by
      have := congrArg (·[0]?) hd
      simpa using this
    rw [List.getD_eq_getElem?_getD, this]
    cases b <;> simp [chosen]
theorem chosen_all : ∀ (ws : List Wr) (ks : List Bool), ws.length ≤ ks.length → (∀ b ∈ ks, b = true) → chosen ws ks = ws
  | [], ks, _, _ => chosen_nil ks
  | x :: ws, [], h, _ => by simp at h
  | x :: ws, k :: ks, h, hb => by
    unfold chosen
    rw [if_pos (hb k (by simp)), chosen_all ws ks (by simpa using h) fun b hb' => hb b (by simp [hb'])]
theorem chosen_false : ∀ (ws : List Wr) (ks : List Bool), (∀ b ∈ ks, b = false) → chosen ws ks = []
  | [], ks, _ => chosen_nil ks
  | x :: ws, [], _ => rfl
  | x :: ws, k :: ks, hb => by
    unfold chosen
    rw [if_neg (by rw [hb k (by simp)]; simp), chosen_false ws ks fun b hb' => hb b (by simp [hb'])]

def torn? (z : Nat) (torn : Int) : Bool := decide (0 ≤ torn) && decide (torn < z)
def tear (z : Nat) (torn : Int) (L : List ByteArray) (w : Wr) : Wr := if torn? z torn then ⟨w.p, w.s.extract 0 torn.toNat ++ (at0 L w.p).extract torn.toNat z⟩ else w
/-- What is durable behind so many of those that survive. -/
def upto (z : Nat) (torn : Int) (L : List ByteArray) (ws : List Wr) (k : Nat) : List ByteArray :=
  if k < ws.length then landL L (ws.take k)
  else match ws.getLast? with
    | none => L
    | some w => (landL L ws.dropLast).set w.p (tear z torn (landL L ws.dropLast) w).s
def crashL (z : Nat) (torn : Int) (L : List ByteArray) (ws : List Wr) : List ByteArray := upto z torn L ws ws.length
def crashS (S : St) (keep : List Bool) (torn : Int) : St := { S with dur := crashL S.z torn S.dur (chosen S.cache keep), cache := [], off := false, left := 0 }

theorem upto_zero (z : Nat) (torn : Int) (L : List ByteArray) (ws : List Wr) : upto z torn L ws 0 = L := by
  unfold upto
  split
  · simp [landL_nil]
  · have : ws = [] := List.eq_nil_of_length_eq_zero (by omega)
    subst this
    rfl
theorem upto_succ (z : Nat) (torn : Int) (L : List ByteArray) (ws : List Wr) (k : Nat) (w : Wr) (h : ws[k]? = some w) (hk : k + 1 < ws.length) : upto z torn L ws (k + 1) = (upto z torn L ws k).set w.p w.s := by
  unfold upto
  rw [if_pos hk, if_pos (by omega), landL_take h]
theorem upto_last (z : Nat) (torn : Int) (L : List ByteArray) (ws : List Wr) (k : Nat) (w : Wr) (h : ws[k]? = some w) (hk : k + 1 = ws.length) : upto z torn L ws (k + 1) = (upto z torn L ws k).set w.p (tear z torn (upto z torn L ws k) w).s := by
  unfold upto
  rw [if_neg (by omega), if_pos (by omega)]
  have e : ws.getLast? = some w := by rw [List.getLast?_eq_getElem?, ← hk]; exact h
  have e2 : ws.dropLast = ws.take k := by rw [List.dropLast_eq_take, ← hk]; rfl
  rw [e, e2]
theorem crashL_nil (z : Nat) (torn : Int) (L : List ByteArray) : crashL z torn L [] = L := rfl
theorem crashL_snoc (z : Nat) (torn : Int) (L : List ByteArray) (a : List Wr) (w : Wr) : crashL z torn L (a ++ [w]) = (landL L a).set w.p (tear z torn (landL L a) w).s := by
  unfold crashL upto
  rw [if_neg (by omega)]
  simp
theorem upto_length (z : Nat) (torn : Int) (L : List ByteArray) (ws : List Wr) (k : Nat) : (upto z torn L ws k).length = L.length := by
  unfold upto
  split
  · exact landL_length _ _
  · split
    · rfl
    · rw [List.length_set, landL_length]
theorem crashL_length (z : Nat) (torn : Int) (L : List ByteArray) (ws : List Wr) : (crashL z torn L ws).length = L.length := upto_length _ _ _ _ _
theorem extract_full {z : Nat} (a : ByteArray) (h : a.size = z) (k : Nat) (hk : k ≤ z) : (a.extract 0 k).size = k ∧ (a.extract k z).size = z - k := by
  rw [ByteArray.size_extract, ByteArray.size_extract]
  omega
theorem tear_p (z : Nat) (torn : Int) (L : List ByteArray) (w : Wr) : (tear z torn L w).p = w.p := by
  unfold tear
  split <;> rfl
theorem tear_size {z n : Nat} {torn : Int} {L : List ByteArray} {w : Wr} {ws : List Wr} (h : Fit z n L ws) (hp : w.p < n) (hs : w.s.size = z) : (tear z torn L w).s.size = z := by
  unfold tear
  split
  · rename_i ht
    unfold torn? at ht
    simp only [Bool.and_eq_true, decide_eq_true_eq] at ht
    have h1 := extract_full w.s hs torn.toNat (by omega)
    have h2 := extract_full (at0 L w.p) (h.at hp) torn.toNat (by omega)
    show (w.s.extract 0 torn.toNat ++ (at0 L w.p).extract torn.toNat z).size = z
    rw [ByteArray.size_append, h1.1, h2.2]
    omega
  · exact hs
theorem Fit.take {z n : Nat} {L : List ByteArray} {ws : List Wr} (h : Fit z n L ws) (ws' : List Wr) (hs : ∀ w ∈ ws', w ∈ ws) : Fit z n (landL L ws') [] := by
  have h' : Fit z n L ws' := ⟨h.len, h.size, fun w hw => h.wr w (hs w hw)⟩
  exact ⟨(landL_length _ _).trans h.len, h'.land, fun w hw => by cases hw⟩
theorem Fit.upto {z n : Nat} {torn : Int} {L : List ByteArray} {ws : List Wr} (h : Fit z n L ws) (k : Nat) : Fit z n (upto z torn L ws k) [] := by
  unfold Disk.upto
  split
  · exact h.take _ fun w hw => List.mem_of_mem_take hw
  · split
    · exact ⟨h.len, h.size, fun w hw => by cases hw⟩
    · rename_i w hw
      have h1 := h.take ws.dropLast fun w hw => List.dropLast_subset ws hw
      have h2 := h.wr w (List.mem_of_mem_getLast? (by rw [hw]; rfl))
      refine ⟨by rw [List.length_set]; exact h1.len, fun x hx => ?_, fun w hw => by cases hw⟩
      rcases List.mem_or_eq_of_mem_set hx with hx | rfl
      · exact h1.size x hx
      · exact tear_size h1 h2.1 h2.2

/-! What a disk is always like. -/
structure Ok (S : St) : Prop where
  fit : Fit S.z S.dur.length S.dur S.cache
  few : S.dur.length ≤ 4096
  low : 16 ≤ S.z
  most : S.z ≤ 256
  ops : S.ops ≤ 1000000
  cache : S.cache.length ≤ S.ops
  left : S.left ≤ 9223372036854775807
theorem Ok.con {S : St} (h : Ok S) : Fit S.z S.dur.length (con S) [] := h.fit.take _ fun _ hw => hw
theorem Ok.op {S : St} (h : Ok S) (hn : S.ops < 1000000) : Ok (opS S) :=
  ⟨h.fit, h.few, h.low, h.most, by show S.ops + 1 ≤ _; omega, by show S.cache.length ≤ S.ops + 1; have := h.cache; omega, by show S.left - 1 ≤ _; have := h.left; omega⟩
theorem Ok.add {S : St} (h : Ok S) (hn : S.ops < 1000000) {p : Nat} {s : ByteArray} (hp : p < S.dur.length) (hs : s.size = S.z) : Ok { opS S with cache := S.cache ++ [⟨p, s⟩] } := by
  refine ⟨⟨rfl, h.fit.size, fun w hw => ?_⟩, h.few, h.low, h.most, (h.op hn).ops, ?_, (h.op hn).left⟩
  · rcases List.mem_append.1 hw with hw | hw
    · exact h.fit.wr w hw
    · obtain rfl := List.mem_singleton.1 hw
      exact ⟨hp, hs⟩
  · show (S.cache ++ [_]).length ≤ S.ops + 1
    have := h.cache
    simp
    omega
theorem Ok.flush {S : St} (h : Ok S) (hn : S.ops < 1000000) : Ok { opS S with dur := Disk.con S, cache := [] } := by
  have := h.con
  refine ⟨⟨rfl, this.size, fun w hw => by cases hw⟩, ?_, h.low, h.most, (h.op hn).ops, Nat.zero_le _, (h.op hn).left⟩
  show (Disk.con S).length ≤ 4096
  rw [this.len]
  exact h.few
theorem Ok.crash {S : St} (h : Ok S) (keep : List Bool) (torn : Int) : Ok (crashS S keep torn) := by
  have h1 : Fit S.z S.dur.length S.dur (chosen S.cache keep) := ⟨rfl, h.fit.size, fun w hw => h.fit.wr w (chosen_mem _ _ hw)⟩
  have h2 := h1.upto (torn := torn) (chosen S.cache keep).length
  refine ⟨⟨rfl, h2.size, fun w hw => by cases hw⟩, ?_, h.low, h.most, h.ops, Nat.zero_le _, Nat.zero_le _⟩
  show (crashL S.z torn S.dur (chosen S.cache keep)).length ≤ 4096
  rw [crashL_length]
  exact h.few
/-- What is read behind it is what is durable: where nothing was written the contents were durable already. -/
theorem crash_con {z : Nat} {torn : Int} {L : List ByteArray} {cache : List Wr} {keep : List Bool} {i : Nat} (h : ∀ w ∈ cache, w.p ≠ i) : (landL L cache)[i]? = (crashL z torn L (chosen cache keep))[i]? := by
  rw [landL_other cache L h]
  have h' : ∀ w ∈ chosen cache keep, w.p ≠ i := fun w hw => h w (chosen_mem _ _ hw)
  generalize chosen cache keep = ws at h'
  rcases List.eq_nil_or_concat ws with rfl | ⟨a, w, rfl⟩
  · rfl
  · rw [List.concat_eq_append] at h' ⊢
    rw [crashL_snoc, List.getElem?_set_ne (h' w (by simp)), landL_other a L fun x hx => h' x (by simp [hx])]
/-- The loop that empties the cache: the contents taken anew from what is durable, write by write. -/
def fresh (C D : List ByteArray) (ws : List Wr) : List ByteArray := ws.foldl (fun C w => C.set w.p (at0 D w.p)) C
theorem fresh_take {C D : List ByteArray} {ws : List Wr} {k : Nat} {w : Wr} (h : ws[k]? = some w) : fresh C D (ws.take (k + 1)) = (fresh C D (ws.take k)).set w.p (at0 D w.p) := by
  obtain ⟨hk, rfl⟩ := List.getElem?_eq_some_iff.1 h
  unfold fresh
  rw [List.take_succ_eq_append_getElem hk, List.foldl_append]
  rfl
theorem fresh_length : ∀ (ws : List Wr) (C D : List ByteArray), (fresh C D ws).length = C.length
  | [], _, _ => rfl
  | w :: ws, C, D => by
    show (fresh (C.set w.p (at0 D w.p)) D ws).length = _
    rw [fresh_length ws, List.length_set]
theorem fresh_get {D : List ByteArray} {i : Nat} : ∀ (ws : List Wr) (C : List ByteArray), C.length = D.length → i < D.length → (C[i]? = D[i]? ∨ ∃ w ∈ ws, w.p = i) → (fresh C D ws)[i]? = D[i]?
  | [], _, _, _, h => by
    rcases h with h | ⟨w, hw, _⟩
    · exact h
    · cases hw
  | w :: ws, C, hl, hi, h => by
    refine fresh_get ws _ (by rw [List.length_set, hl]) hi ?_
    by_cases e : w.p = i
    · left
      rw [List.getElem?_set, if_pos e, if_pos (by omega)]
      unfold at0
      rw [List.getD_eq_getElem?_getD, e, List.getElem?_eq_getElem hi]
      rfl
    · rcases h with h | ⟨x, hx, e2⟩
      · left
        rw [List.getElem?_set_ne e]
        exact h
      · rcases List.mem_cons.1 hx with rfl | hx
        · exact absurd e2 e
        · exact .inr ⟨x, hx, e2⟩
theorem fresh_all {C D : List ByteArray} {ws : List Wr} (hl : C.length = D.length) (h : ∀ i, (∀ w ∈ ws, w.p ≠ i) → C[i]? = D[i]?) : fresh C D ws = D := by
  apply List.ext_getElem?
  intro i
  by_cases hi : i < D.length
  · refine fresh_get ws C hl hi ?_
    by_cases hw : ∃ w ∈ ws, w.p = i
    · exact .inr hw
    · exact .inl (h i fun w hm e => hw ⟨w, hm, e⟩)
  · rw [List.getElem?_eq_none (by rw [fresh_length]; omega), List.getElem?_eq_none (by omega)]
theorem fresh_crash {S : St} (keep : List Bool) (torn : Int) : fresh (con S) (crashL S.z torn S.dur (chosen S.cache keep)) S.cache = crashL S.z torn S.dur (chosen S.cache keep) :=
  fresh_all (by rw [crashL_length]; exact landL_length _ _) fun _ h => crash_con h
theorem fresh_flush {S : St} : fresh (con S) (con S) S.cache = con S := fresh_all rfl fun _ _ => rfl
end Go.Proofs.Ytebiebbbkdbffaa.Disk
