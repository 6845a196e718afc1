/-
  What the walks of the disk rest on, and the first of them.
-/
import Derived.Lib.Strings
import Derived.Test.YtghpohiinnallaaGreatDoorProg
import Derived.Test.YtghpohiinnallaaGreatDoorKgKept
import Derived.WalkKit
import Derived.WalkSpells
import Derived.WalkLawsBesides
import Derived.Lib.Hide
import Derived.WalkSmall
import Derived.ShutString
import Derived.RegionTactic
import Derived.Deep.QuietTactic
import Derived.BigQuiet
import Derived.Laws.IdiomStrings
import Derived.Laws.BytesArg
import Derived.Laws.Rows
import Derived.Laws.Tables
import Derived.Laws.MakeOwn
import Derived.Maps.AppendAt
import Derived.Deep.RegionWith
import Derived.Deep.MidRow
import Derived.Shelf.Strings.Builder1
import Derived.Shelf.Strings.Builder2
import Derived.Shelf.Strings.BuilderF
import Derived.Shelf.Strings.BuilderK
import Derived.Shelf.Strconv.Itoa0
import Derived.Shelf.Strconv.Itoa1
import Derived.Shelf.LaysM
import Derived.Shelf.Strconv.Itoa2
import Derived.Shelf.Strconv.Itoa3
import Derived.Shelf.Strconv.Clone
import Derived.Shelf.Strings.Prefix
import Derived.Shelf.Bits.Mul64
import Derived.Shelf.Strings.Repeat
import Derived.Deep.RegionLaw
import Derived.Deep.AppendLies

/-
  Plain facts on a disk: sectors, a cache of writes, what is written, flushed, cut, crashed. No program is named here.
-/
namespace Go.Proofs.YtghpohiinnallaaGreatDoor.Disk
open Go

/-- A write of the cache. -/
structure Wr where
  p : Nat
  s : ByteArray

/-- A disk. -/
structure St where
  z : Nat
  dur : List ByteArray
  cache : List Wr
  left : Nat
  full : Bool
  off : Bool
  ops : Nat

def landL (L : List ByteArray) (ws : List Wr) : List ByteArray := ws.foldl (fun L w => L.set w.p w.s) L
def con (S : St) : List ByteArray := landL S.dur S.cache
def at0 (L : List ByteArray) (i : Nat) : ByteArray := L.getD i ⟨#[]⟩

theorem landL_nil (L : List ByteArray) : landL L [] = L := rfl
theorem landL_cons (L : List ByteArray) (w : Wr) (ws : List Wr) : landL L (w :: ws) = landL (L.set w.p w.s) ws := rfl
theorem landL_append (L : List ByteArray) (a b : List Wr) : landL L (a ++ b) = landL (landL L a) b := by
  unfold landL; rw [List.foldl_append]
theorem landL_snoc (L : List ByteArray) (a : List Wr) (w : Wr) : landL L (a ++ [w]) = (landL L a).set w.p w.s := by
  rw [landL_append]; rfl
theorem landL_length : ∀ (ws : List Wr) (L : List ByteArray), (landL L ws).length = L.length
  | [], _ => rfl
  | w :: ws, L => by rw [landL_cons, landL_length ws, List.length_set]
theorem landL_take {L : List ByteArray} {ws : List Wr} {k : Nat} {w : Wr} (h : ws[k]? = some w) : landL L (ws.take (k + 1)) = (landL L (ws.take k)).set w.p w.s := by
  obtain ⟨hk, rfl⟩ := List.getElem?_eq_some_iff.1 h
  rw [List.take_succ_eq_append_getElem hk, landL_snoc]
theorem landL_other {i : Nat} : ∀ (ws : List Wr) (L : List ByteArray), (∀ w ∈ ws, w.p ≠ i) → (landL L ws)[i]? = L[i]?
  | [], _, _ => rfl
  | w :: ws, L, h => by
    rw [landL_cons, landL_other ws _ fun x hx => h x (by simp [hx]), List.getElem?_set_ne (h w (by simp))]
theorem landL_mem {i : Nat} {x : ByteArray} : ∀ (ws : List Wr) (L : List ByteArray), (landL L ws)[i]? = some x → L[i]? = some x ∨ ∃ w ∈ ws, w.p = i ∧ w.s = x
  | [], _, h => .inl h
  | w :: ws, L, h => by
    rw [landL_cons] at h
    rcases landL_mem ws _ h with h | ⟨y, hy, h1, h2⟩
    · by_cases e : w.p = i
      · rw [List.getElem?_set, if_pos e] at h
        split at h
        · exact .inr ⟨w, by simp, e, by simpa using h⟩
        · cases h
      · rw [List.getElem?_set_ne e] at h
        exact .inl h
    · exact .inr ⟨y, by simp [hy], h1, h2⟩

/-- All sectors have so many bytes, all writes are of one of them. -/
structure Fit (z n : Nat) (L : List ByteArray) (ws : List Wr) : Prop where
  len : L.length = n
  size : ∀ x ∈ L, x.size = z
  wr : ∀ w ∈ ws, w.p < n ∧ w.s.size = z
theorem Fit.land {z n : Nat} {ws : List Wr} {L : List ByteArray} (h : Fit z n L ws) : ∀ x ∈ landL L ws, x.size = z := by
  intro x hx
  obtain ⟨i, hi, e⟩ := List.mem_iff_getElem.1 hx
  rcases landL_mem ws L (i := i) (x := x) (by rw [List.getElem?_eq_getElem hi, e]) with h1 | ⟨w, hw, _, rfl⟩
  · exact h.size x (List.mem_of_getElem? h1)
  · exact (h.wr w hw).2
theorem Fit.at {z n i : Nat} {ws : List Wr} {L : List ByteArray} (h : Fit z n L ws) (hi : i < n) : (at0 L i).size = z := by
  unfold at0
  rw [List.getD_eq_getElem?_getD, List.getElem?_eq_getElem (by rw [h.len]; exact hi)]
  exact h.size _ (List.getElem_mem _)

/-! An operation. -/
def opS (S : St) : St := { S with ops := S.ops + 1, left := S.left - 1, off := decide (S.left = 1) }
def putS (S : St) (at_ : Int) (s : ByteArray) : St × Int :=
  if at_ < 0 ∨ (S.dur.length : Int) ≤ at_ ∨ s.size ≠ S.z then (S, 1)
  else if S.off = true then (S, 80)
  else if S.left = 1 then ({ opS S with cache := S.cache ++ [⟨at_.toNat, s⟩] }, 80)
  else if S.full = true then (opS S, 81)
  else ({ opS S with cache := S.cache ++ [⟨at_.toNat, s⟩] }, 0)
def flushS (S : St) : St × Int :=
  if S.off = true then (S, 80)
  else if S.left = 1 then (opS S, 80)
  else ({ opS S with dur := con S, cache := [] }, 0)
def readS (S : St) (at_ : Int) : ByteArray × Int :=
  if at_ < 0 ∨ (S.dur.length : Int) ≤ at_ then (⟨#[]⟩, 1)
  else if S.off = true then (⟨#[]⟩, 80)
  else (at0 (con S) at_.toNat, 0)

/-! A crash. -/
def chosen : List Wr → List Bool → List Wr
  | w :: ws, k :: ks => if k then w :: chosen ws ks else chosen ws ks
  | _, _ => []
theorem chosen_nil (ks : List Bool) : chosen [] ks = [] := by cases ks <;> rfl
theorem chosen_none (ws : List Wr) : chosen ws [] = [] := by cases ws <;> rfl
theorem chosen_append : ∀ (a b : List Wr) (ks : List Bool), chosen (a ++ b) ks = chosen a ks ++ chosen b (ks.drop a.length)
  | [], b, ks => by simp [chosen_nil]
  | w :: a, b, [] => by simp [chosen_none]
  | w :: a, b, k :: ks => by
    show (if k then w :: chosen (a ++ b) ks else chosen (a ++ b) ks) = (if k then w :: chosen a ks else chosen a ks) ++ chosen b (ks.drop a.length)
    rw [chosen_append a b ks]
    split <;> rfl
theorem chosen_mem {w : Wr} : ∀ (ws : List Wr) (ks : List Bool), w ∈ chosen ws ks → w ∈ ws
  | [], ks, h => by rw [chosen_nil] at h; cases h
  | x :: ws, [], h => by rw [chosen_none] at h; cases h
  | x :: ws, k :: ks, h => by
    unfold chosen at h
    split at h
    · rcases List.mem_cons.1 h with h | h
      · exact List.mem_cons.2 (.inl h)
      · exact List.mem_cons.2 (.inr (chosen_mem ws ks h))
    · exact List.mem_cons.2 (.inr (chosen_mem ws ks h))
theorem chosen_length : ∀ (ws : List Wr) (ks : List Bool), (chosen ws ks).length ≤ ws.length
  | [], ks => by rw [chosen_nil]; exact Nat.le_refl _
  | x :: ws, [] => by rw [chosen_none]; exact Nat.zero_le _
  | x :: ws, k :: ks => by
    unfold chosen
    have := chosen_length ws ks
    split
    · simp only [List.length_cons]; omega
    · simp only [List.length_cons]; omega
/-- One more. -/
theorem chosen_take {ws : List Wr} {ks : List Bool} {k : Nat} {w : Wr} (h : ws[k]? = some w) : chosen (ws.take (k + 1)) ks = chosen (ws.take k) ks ++ (if ks.getD k false then [w] else []) := by
  obtain ⟨hk, rfl⟩ := List.getElem?_eq_some_iff.1 h
  rw [List.take_succ_eq_append_getElem hk, chosen_append, List.length_take, Nat.min_eq_left (Nat.le_of_lt hk)]
  congr 1
  cases hd : ks.drop k with
  | nil =>
    rw [chosen_none, List.getD_eq_getElem?_getD, List.getElem?_eq_none (by simpa using hd)]
    rfl
  | cons b r =>
    have : ks[k]? = some b := by
      have := congrArg (·[0]?) hd
      simpa using this
    rw [List.getD_eq_getElem?_getD, this]
    cases b <;> simp [chosen]
theorem chosen_all : ∀ (ws : List Wr) (ks : List Bool), ws.length ≤ ks.length → (∀ b ∈ ks, b = true) → chosen ws ks = ws
  | [], ks, _, _ => chosen_nil ks
  | x :: ws, [], h, _ => by simp at h
  | x :: ws, k :: ks, h, hb => by
    unfold chosen
    rw [if_pos (hb k (by simp)), chosen_all ws ks (by simpa using h) fun b hb' => hb b (by simp [hb'])]
theorem chosen_false : ∀ (ws : List Wr) (ks : List Bool), (∀ b ∈ ks, b = false) → chosen ws ks = []
  | [], ks, _ => chosen_nil ks
  | x :: ws, [], _ => rfl
  | x :: ws, k :: ks, hb => by
    unfold chosen
    rw [if_neg (by rw [hb k (by simp)]; simp), chosen_false ws ks fun b hb' => hb b (by simp [hb'])]

def torn? (z : Nat) (torn : Int) : Bool := decide (0 ≤ torn) && decide (torn < z)
def tear (z : Nat) (torn : Int) (L : List ByteArray) (w : Wr) : Wr := if torn? z torn then ⟨w.p, w.s.extract 0 torn.toNat ++ (at0 L w.p).extract torn.toNat z⟩ else w
/-- What is durable behind so many of those that survive. -/
def upto (z : Nat) (torn : Int) (L : List ByteArray) (ws : List Wr) (k : Nat) : List ByteArray :=
  if k < ws.length then landL L (ws.take k)
  else match ws.getLast? with
    | none => L
    | some w => (landL L ws.dropLast).set w.p (tear z torn (landL L ws.dropLast) w).s
def crashL (z : Nat) (torn : Int) (L : List ByteArray) (ws : List Wr) : List ByteArray := upto z torn L ws ws.length
def crashS (S : St) (keep : List Bool) (torn : Int) : St := { S with dur := crashL S.z torn S.dur (chosen S.cache keep), cache := [], off := false, left := 0 }

theorem upto_zero (z : Nat) (torn : Int) (L : List ByteArray) (ws : List Wr) : upto z torn L ws 0 = L := by
  unfold upto
  split
  · simp [landL_nil]
  · have : ws = [] := List.eq_nil_of_length_eq_zero (by omega)
    subst this
    rfl
theorem upto_succ (z : Nat) (torn : Int) (L : List ByteArray) (ws : List Wr) (k : Nat) (w : Wr) (h : ws[k]? = some w) (hk : k + 1 < ws.length) : upto z torn L ws (k + 1) = (upto z torn L ws k).set w.p w.s := by
  unfold upto
  rw [if_pos hk, if_pos (by omega), landL_take h]
theorem upto_last (z : Nat) (torn : Int) (L : List ByteArray) (ws : List Wr) (k : Nat) (w : Wr) (h : ws[k]? = some w) (hk : k + 1 = ws.length) : upto z torn L ws (k + 1) = (upto z torn L ws k).set w.p (tear z torn (upto z torn L ws k) w).s := by
  unfold upto
  rw [if_neg (by omega), if_pos (by omega)]
  have e : ws.getLast? = some w := by rw [List.getLast?_eq_getElem?, ← hk]; exact h
  have e2 : ws.dropLast = ws.take k := by rw [List.dropLast_eq_take, ← hk]; rfl
  rw [e, e2]
theorem crashL_nil (z : Nat) (torn : Int) (L : List ByteArray) : crashL z torn L [] = L := rfl
theorem crashL_snoc (z : Nat) (torn : Int) (L : List ByteArray) (a : List Wr) (w : Wr) : crashL z torn L (a ++ [w]) = (landL L a).set w.p (tear z torn (landL L a) w).s := by
  unfold crashL upto
  rw [if_neg (by omega)]
  simp
theorem upto_length (z : Nat) (torn : Int) (L : List ByteArray) (ws : List Wr) (k : Nat) : (upto z torn L ws k).length = L.length := by
  unfold upto
  split
  · exact landL_length _ _
  · split
    · rfl
    · rw [List.length_set, landL_length]
theorem crashL_length (z : Nat) (torn : Int) (L : List ByteArray) (ws : List Wr) : (crashL z torn L ws).length = L.length := upto_length _ _ _ _ _
theorem extract_full {z : Nat} (a : ByteArray) (h : a.size = z) (k : Nat) (hk : k ≤ z) : (a.extract 0 k).size = k ∧ (a.extract k z).size = z - k := by
  rw [ByteArray.size_extract, ByteArray.size_extract]
  omega
theorem tear_p (z : Nat) (torn : Int) (L : List ByteArray) (w : Wr) : (tear z torn L w).p = w.p := by
  unfold tear
  split <;> rfl
theorem tear_size {z n : Nat} {torn : Int} {L : List ByteArray} {w : Wr} {ws : List Wr} (h : Fit z n L ws) (hp : w.p < n) (hs : w.s.size = z) : (tear z torn L w).s.size = z := by
  unfold tear
  split
  · rename_i ht
    unfold torn? at ht
    simp only [Bool.and_eq_true, decide_eq_true_eq] at ht
    have h1 := extract_full w.s hs torn.toNat (by omega)
    have h2 := extract_full (at0 L w.p) (h.at hp) torn.toNat (by omega)
    show (w.s.extract 0 torn.toNat ++ (at0 L w.p).extract torn.toNat z).size = z
    rw [ByteArray.size_append, h1.1, h2.2]
    omega
  · exact hs
theorem Fit.take {z n : Nat} {L : List ByteArray} {ws : List Wr} (h : Fit z n L ws) (ws' : List Wr) (hs : ∀ w ∈ ws', w ∈ ws) : Fit z n (landL L ws') [] := by
  have h' : Fit z n L ws' := ⟨h.len, h.size, fun w hw => h.wr w (hs w hw)⟩
  exact ⟨(landL_length _ _).trans h.len, h'.land, fun w hw => by cases hw⟩
theorem Fit.upto {z n : Nat} {torn : Int} {L : List ByteArray} {ws : List Wr} (h : Fit z n L ws) (k : Nat) : Fit z n (upto z torn L ws k) [] := by
  unfold Disk.upto
  split
  · exact h.take _ fun w hw => List.mem_of_mem_take hw
  · split
    · exact ⟨h.len, h.size, fun w hw => by cases hw⟩
    · rename_i w hw
      have h1 := h.take ws.dropLast fun w hw => List.dropLast_subset ws hw
      have h2 := h.wr w (List.mem_of_mem_getLast? (by rw [hw]; rfl))
      refine ⟨by rw [List.length_set]; exact h1.len, fun x hx => ?_, fun w hw => by cases hw⟩
      rcases List.mem_or_eq_of_mem_set hx with hx | rfl
      · exact h1.size x hx
      · exact tear_size h1 h2.1 h2.2

/-! What a disk is always like. -/
structure Ok (S : St) : Prop where
  fit : Fit S.z S.dur.length S.dur S.cache
  few : S.dur.length ≤ 4096
  low : 16 ≤ S.z
  most : S.z ≤ 256
  ops : S.ops ≤ 1000000
  cache : S.cache.length ≤ S.ops
  left : S.left ≤ 9223372036854775807
theorem Ok.con {S : St} (h : Ok S) : Fit S.z S.dur.length (con S) [] := h.fit.take _ fun _ hw => hw
theorem Ok.op {S : St} (h : Ok S) (hn : S.ops < 1000000) : Ok (opS S) :=
  ⟨h.fit, h.few, h.low, h.most, by show S.ops + 1 ≤ _; omega, by show S.cache.length ≤ S.ops + 1; have := h.cache; omega, by show S.left - 1 ≤ _; have := h.left; omega⟩
theorem Ok.add {S : St} (h : Ok S) (hn : S.ops < 1000000) {p : Nat} {s : ByteArray} (hp : p < S.dur.length) (hs : s.size = S.z) : Ok { opS S with cache := S.cache ++ [⟨p, s⟩] } := by
  refine ⟨⟨rfl, h.fit.size, fun w hw => ?_⟩, h.few, h.low, h.most, (h.op hn).ops, ?_, (h.op hn).left⟩
  · rcases List.mem_append.1 hw with hw | hw
    · exact h.fit.wr w hw
    · obtain rfl := List.mem_singleton.1 hw
      exact ⟨hp, hs⟩
  · show (S.cache ++ [_]).length ≤ S.ops + 1
    have := h.cache
    simp
    omega
theorem Ok.flush {S : St} (h : Ok S) (hn : S.ops < 1000000) : Ok { opS S with dur := Disk.con S, cache := [] } := by
  have := h.con
  refine ⟨⟨rfl, this.size, fun w hw => by cases hw⟩, ?_, h.low, h.most, (h.op hn).ops, Nat.zero_le _, (h.op hn).left⟩
  show (Disk.con S).length ≤ 4096
  rw [this.len]
  exact h.few
theorem Ok.crash {S : St} (h : Ok S) (keep : List Bool) (torn : Int) : Ok (crashS S keep torn) := by
  have h1 : Fit S.z S.dur.length S.dur (chosen S.cache keep) := ⟨rfl, h.fit.size, fun w hw => h.fit.wr w (chosen_mem _ _ hw)⟩
  have h2 := h1.upto (torn := torn) (chosen S.cache keep).length
  refine ⟨⟨rfl, h2.size, fun w hw => by cases hw⟩, ?_, h.low, h.most, h.ops, Nat.zero_le _, Nat.zero_le _⟩
  show (crashL S.z torn S.dur (chosen S.cache keep)).length ≤ 4096
  rw [crashL_length]
  exact h.few
/-- What is read behind it is what is durable: where nothing was written the contents were durable already. -/
theorem crash_con {z : Nat} {torn : Int} {L : List ByteArray} {cache : List Wr} {keep : List Bool} {i : Nat} (h : ∀ w ∈ cache, w.p ≠ i) : (landL L cache)[i]? = (crashL z torn L (chosen cache keep))[i]? := by
  rw [landL_other cache L h]
  have h' : ∀ w ∈ chosen cache keep, w.p ≠ i := fun w hw => h w (chosen_mem _ _ hw)
  generalize chosen cache keep = ws at h'
  rcases List.eq_nil_or_concat ws with rfl | ⟨a, w, rfl⟩
  · rfl
  · rw [List.concat_eq_append] at h' ⊢
    rw [crashL_snoc, List.getElem?_set_ne (h' w (by simp)), landL_other a L fun x hx => h' x (by simp [hx])]
/-- The loop that empties the cache: the contents taken anew from what is durable, write by write. -/
def fresh (C D : List ByteArray) (ws : List Wr) : List ByteArray := ws.foldl (fun C w => C.set w.p (at0 D w.p)) C
theorem fresh_take {C D : List ByteArray} {ws : List Wr} {k : Nat} {w : Wr} (h : ws[k]? = some w) : fresh C D (ws.take (k + 1)) = (fresh C D (ws.take k)).set w.p (at0 D w.p) := by
  obtain ⟨hk, rfl⟩ := List.getElem?_eq_some_iff.1 h
  unfold fresh
  rw [List.take_succ_eq_append_getElem hk, List.foldl_append]
  rfl
theorem fresh_length : ∀ (ws : List Wr) (C D : List ByteArray), (fresh C D ws).length = C.length
  | [], _, _ => rfl
  | w :: ws, C, D => by
    show (fresh (C.set w.p (at0 D w.p)) D ws).length = _
    rw [fresh_length ws, List.length_set]
theorem fresh_get {D : List ByteArray} {i : Nat} : ∀ (ws : List Wr) (C : List ByteArray), C.length = D.length → i < D.length → (C[i]? = D[i]? ∨ ∃ w ∈ ws, w.p = i) → (fresh C D ws)[i]? = D[i]?
  | [], _, _, _, h => by
    rcases h with h | ⟨w, hw, _⟩
    · exact h
    · cases hw
  | w :: ws, C, hl, hi, h => by
    refine fresh_get ws _ (by rw [List.length_set, hl]) hi ?_
    by_cases e : w.p = i
    · left
      rw [List.getElem?_set, if_pos e, if_pos (by omega)]
      unfold at0
      rw [List.getD_eq_getElem?_getD, e, List.getElem?_eq_getElem hi]
      rfl
    · rcases h with h | ⟨x, hx, e2⟩
      · left
        rw [List.getElem?_set_ne e]
        exact h
      · rcases List.mem_cons.1 hx with rfl | hx
        · exact absurd e2 e
        · exact .inr ⟨x, hx, e2⟩
theorem fresh_all {C D : List ByteArray} {ws : List Wr} (hl : C.length = D.length) (h : ∀ i, (∀ w ∈ ws, w.p ≠ i) → C[i]? = D[i]?) : fresh C D ws = D := by
  apply List.ext_getElem?
  intro i
  by_cases hi : i < D.length
  · refine fresh_get ws C hl hi ?_
    by_cases hw : ∃ w ∈ ws, w.p = i
    · exact .inr hw
    · exact .inl (h i fun w hm e => hw ⟨w, hm, e⟩)
  · rw [List.getElem?_eq_none (by rw [fresh_length]; omega), List.getElem?_eq_none (by omega)]
theorem fresh_crash {S : St} (keep : List Bool) (torn : Int) : fresh (con S) (crashL S.z torn S.dur (chosen S.cache keep)) S.cache = crashL S.z torn S.dur (chosen S.cache keep) :=
  fresh_all (by rw [crashL_length]; exact landL_length _ _) fun _ h => crash_con h
theorem fresh_flush {S : St} : fresh (con S) (con S) S.cache = con S := fresh_all rfl fun _ _ => rfl
end Go.Proofs.YtghpohiinnallaaGreatDoor.Disk

/-
  A disk in memory: its own block, what is durable, what is read, its cache.
-/
namespace Go.Proofs.YtghpohiinnallaaGreatDoor.Disk
open Go Go.RowKit

abbrev strT : TypeId := 9
abbrev wrT : TypeId := 113
abbrev diskT : TypeId := 98
abbrev ptr (b : Nat) : Value := .pointer (some ⟨b, 0, none⟩)

theorem addr_add (b off j : Nat) : (⟨b, off, none⟩ : Addr).add j = ⟨b, off + j, none⟩ := by unfold Addr.add; split <;> simp_all

/-- A block of memory that lies there whole, and may be written. -/
def Lies (w : World) (b : Nat) (cs : Array Value) (t : TypeId) : Prop := w.heap[b]? = some (.cells cs t (0, 0))
section
variable {w w' : World} {b c i : Nat} {cs : Array Value} {t : TypeId}
theorem Lies.lt (h : Lies w b cs t) : b < w.heap.size := by
  by_cases hl : b < w.heap.size
  · exact hl
  · have : w.heap[b]? = none := by simp; omega
    rw [Lies, this] at h
    cases h
theorem Lies.cell (h : Lies w b cs t) (j : Nat) : w.cell? ⟨b, j, none⟩ = cs[j]? := cell_of_row w b j cs t (0, 0) h
theorem Lies.free (h : Lies w b cs t) (j : Nat) : w.frozen? ⟨b, j, none⟩ = false := frozen_of_row w b j cs t h
theorem Lies.same (h : Lies w b cs t) (e : w'.heap[b]? = w.heap[b]?) : Lies w' b cs t := e.trans h
theorem Lies.new (w : World) (cs : Array Value) (t : TypeId) : Lies (w.alloc (.cells cs t)) w.heap.size cs t := heap_alloc_new w _
theorem Lies.set (h : Lies w b cs t) (i : Nat) (v : Value) : Lies (w.setCell ⟨b, i, none⟩ v) b (cs.setIfInBounds i v) t := heap_setCell_same w b i cs t v h
theorem Lies.other (h : Lies w b cs t) (v : Value) (hne : b ≠ c) : Lies (w.setCell ⟨c, i, none⟩ v) b cs t := by
  unfold Lies
  rw [heap_setCell_other w ⟨c, i, none⟩ b v hne]; exact h
end

/-- What of the blocks that were there may have turned: those of F alone. -/
structure Fr (F : Nat → Prop) (w w' : World) : Prop where
  os : w'.os = w.os
  tape : w'.tape = w.tape
  output : w'.output = w.output
  size : w.heap.size ≤ w'.heap.size
  block : ∀ k, k < w.heap.size → ¬ F k → w'.heap[k]? = w.heap[k]?
theorem Fr.refl (F : Nat → Prop) (w : World) : Fr F w w := ⟨rfl, rfl, rfl, Nat.le_refl _, fun _ _ _ => rfl⟩
theorem Fr.trans {F F' : Nat → Prop} {a b c : World} (h : Fr F a b) (k : Fr F' b c) (hF : ∀ i, i < a.heap.size → F' i → F i) : Fr F a c :=
  ⟨k.os.trans h.os, k.tape.trans h.tape, k.output.trans h.output, Nat.le_trans h.size k.size, fun i hi hn => (k.block i (Nat.lt_of_lt_of_le hi h.size) fun e => hn (hF i hi e)).trans (h.block i hi hn)⟩
theorem Fr.mono {F F' : Nat → Prop} {a b : World} (h : Fr F a b) (hF : ∀ i, i < a.heap.size → F i → F' i) : Fr F' a b :=
  ⟨h.os, h.tape, h.output, h.size, fun i hi hn => h.block i hi fun e => hn (hF i hi e)⟩
theorem Fr.of_below {F : Nat → Prop} {w w' : World} (h : Below w.heap.size w w') : Fr F w w' := ⟨h.os, h.tape, h.output, h.size, fun k hk _ => h.block k hk⟩
theorem Fr.below {F : Nat → Prop} {w w' : World} {B : Nat} (h : Fr F w w') (hB : B ≤ w.heap.size) (hF : ∀ k, F k → B ≤ k) : Below B w w' :=
  ⟨h.os, h.tape, h.output, h.size, fun k hk => h.block k (by omega) fun e => by have := hF k e; omega⟩
theorem Fr.setCell {F : Nat → Prop} {a w : World} (h : Fr F a w) {b i : Nat} (hb : b < a.heap.size → F b) (v : Value) : Fr F a (w.setCell ⟨b, i, none⟩ v) :=
  ⟨h.os, h.tape, h.output, by simpa [World.setCell] using h.size, fun k hk hn => (Below.heap_setCell _ _ _ _ (fun e => hn (by subst e; exact hb hk))).trans (h.block k hk hn)⟩
theorem Fr.one (w : World) (b i : Nat) (v : Value) : Fr (fun k => k = b) w (w.setCell ⟨b, i, none⟩ v) := Fr.setCell (F := fun k => k = b) (Fr.refl _ w) (fun _ => rfl) v
theorem Fr.alloc {F : Nat → Prop} {a w : World} (h : Fr F a w) (o : Obj) : Fr F a (w.alloc o) :=
  ⟨h.os, h.tape, h.output, by simpa using Nat.le_succ_of_le h.size, fun k hk hn => (Below.heap_alloc _ _ _ (Nat.lt_of_lt_of_le hk h.size)).trans (h.block k hk hn)⟩
theorem Fr.drew {F : Nat → Prop} {a w : World} (h : Fr F a w) : Fr F a w.drew := ⟨h.os, h.tape, h.output, h.size, h.block⟩
theorem Fr.drewN {F : Nat → Prop} {a w : World} (h : Fr F a w) (n : Nat) : Fr F a (w.drewN n) :=
  h.trans (Fr.of_below (F := fun _ => False) (below_drewN (Below.refl _ _) n)) fun _ _ e => e.elim
theorem Fr.grown {F : Nat → Prop} {a w w' : World} {row : Option Nat} (h : Fr F a w) (hg : w.grownBy w' row) (hr : ∀ k, row = some k → k < a.heap.size → F k) : Fr F a w' :=
  ⟨hg.os.trans h.os, hg.tape.trans h.tape, hg.output.trans h.output, Nat.le_trans h.size hg.size, fun k hk hn => (hg.block k (Nat.lt_of_lt_of_le hk h.size) fun e => hn (hr k e.symm hk)).trans (h.block k hk hn)⟩
theorem Fr.owns {F : Nat → Prop} {w w' : World} {B : Nat} {t : TypeId} {z n : Nat} {v : Value} {xs : List Value} (h : w.ownsRow B t z v n xs) (hf : Fr F w w') (hn : ∀ k, v.ownBlock = some k → ¬ F k) : w'.ownsRow B t z v n xs := by
  refine ⟨h.1, ?_⟩
  rcases h.2 with h2 | ⟨g, cap, cur, rfl, hb, hg, r⟩
  · exact .inl h2
  · refine .inr ⟨g, cap, cur, rfl, hb, ?_, r⟩
    rw [hf.block g (Array.getElem?_eq_some_iff.1 hg).1 (hn g rfl)]
    exact hg
theorem owns_set {w : World} {B : Nat} {t : TypeId} {z n : Nat} {v : Value} {xs : List Value} (h : w.ownsRow B t z v n xs) {g : Nat} (hg : v.ownBlock = some g) (i : Nat) (x : Value) (_hi : i < n * z) : (w.setCell ⟨g, i, none⟩ x).ownsRow B t z v n (xs.set i x) := by
  refine ⟨by rw [List.length_set]; exact h.1, ?_⟩
  rcases h.2 with ⟨rfl, _⟩ | ⟨g', cap, cur, rfl, hb, hh, h1, h2, h3, h4⟩
  · cases hg
  · obtain rfl : g' = g := by simpa [Value.ownBlock] using hg
    refine .inr ⟨g', cap, cur.setIfInBounds i x, rfl, hb, heap_setCell_same w g' i cur t x hh, h1, h2, by rw [Array.size_setIfInBounds]; exact h3, ?_⟩
    rw [Array.toList_setIfInBounds, List.take_set, h4]
theorem owns_slice {w : World} {B : Nat} {t : TypeId} {z n : Nat} {v : Value} {xs : List Value} (h : w.ownsRow B t z v n xs) : ∃ a c, v = .slice a n c := by
  rcases h.2 with ⟨rfl, rfl⟩ | ⟨g, cap, cur, rfl, _⟩
  · exact ⟨_, _, rfl⟩
  · exact ⟨_, _, rfl⟩

/-! A disk. -/
structure Raw where
  z : Nat
  dur : List ByteArray
  con : List ByteArray
  cache : List Wr
  left : Int
  full : Bool
  off : Bool
  ops : Nat
structure Dk where
  B : Nat
  pb : Nat
  db : Nat
  cb : Nat
  cv : Value
def wC (x : Wr) : List Value := [.int .i64 x.p, .string x.s]
def strs (L : List ByteArray) : Array Value := (L.map Value.string).toArray
def cellsD (d : Dk) (R : Raw) : Array Value := #[.int .i64 R.z, .slice (some ⟨d.db, 0, none⟩) R.dur.length R.dur.length, .slice (some ⟨d.cb, 0, none⟩) R.con.length R.con.length, d.cv, .int .i64 R.left, .bool R.full, .bool R.off, .int .i64 R.ops]
def own (d : Dk) (k : Nat) : Prop := k = d.pb ∨ k = d.db ∨ k = d.cb ∨ d.cv.ownBlock = some k
theorem Fr.pbAt {d : Dk} {a w : World} (h : Fr (own d) a w) (i : Nat) (v : Value) : Fr (own d) a (w.setCell ⟨d.pb, i, none⟩ v) := h.setCell (fun _ => .inl rfl) v
theorem Fr.dbAt {d : Dk} {a w : World} (h : Fr (own d) a w) (i : Nat) (v : Value) : Fr (own d) a (w.setCell ⟨d.db, i, none⟩ v) := h.setCell (fun _ => .inr (.inl rfl)) v
theorem Fr.cbAt {d : Dk} {a w : World} (h : Fr (own d) a w) (i : Nat) (v : Value) : Fr (own d) a (w.setCell ⟨d.cb, i, none⟩ v) := h.setCell (fun _ => .inr (.inr (.inl rfl))) v
/-- A disk lies in memory. -/
structure Mem (w : World) (d : Dk) (R : Raw) : Prop where
  self : Lies w d.pb (cellsD d R) diskT
  dur : Lies w d.db (strs R.dur) strT
  con : Lies w d.cb (strs R.con) strT
  cache : w.ownsRow d.B wrT 2 d.cv R.cache.length (R.cache.flatMap wC)
  ne : d.pb ≠ d.db ∧ d.pb ≠ d.cb ∧ d.db ≠ d.cb
  cv : ∀ k, d.cv.ownBlock = some k → k ≠ d.pb ∧ k ≠ d.db ∧ k ≠ d.cb
  low : d.B ≤ d.pb ∧ d.B ≤ d.db ∧ d.B ≤ d.cb
theorem wC_length (x : Wr) : (wC x).length = 2 := rfl
theorem flat_length : ∀ ws : List Wr, (ws.flatMap wC).length = ws.length * 2
  | [] => rfl
  | w :: ws => by rw [List.flatMap_cons, List.length_append, flat_length ws, wC_length, List.length_cons]; omega
theorem flat_get : ∀ (ws : List Wr) (k : Nat) (x : Wr) (j : Nat), ws[k]? = some x → j < 2 → (ws.flatMap wC)[k * 2 + j]? = (wC x)[j]?
  | [], k, x, j, h, _ => by simp at h
  | y :: ws, 0, x, j, h, hj => by
    obtain rfl : y = x := by simpa using h
    rw [List.flatMap_cons, Nat.zero_mul, Nat.zero_add, List.getElem?_append_left (by rw [wC_length]; exact hj)]
  | y :: ws, k + 1, x, j, h, hj => by
    rw [List.flatMap_cons, show (k + 1) * 2 + j = 2 + (k * 2 + j) by omega, List.getElem?_append_right (by rw [wC_length]; omega), wC_length, show 2 + (k * 2 + j) - 2 = k * 2 + j by omega]
    exact flat_get ws k x j (by simpa using h) hj
theorem strs_size (L : List ByteArray) : (strs L).size = L.length := by simp [strs]
theorem strs_get {L : List ByteArray} {i : Nat} (h : i < L.length) : (strs L)[i]? = some (.string (at0 L i)) := by
  unfold strs at0
  simp [List.getD_eq_getElem?_getD, h]
theorem strs_set (L : List ByteArray) (i : Nat) (s : ByteArray) : (strs L).setIfInBounds i (.string s) = strs (L.set i s) := by
  apply Array.ext'
  unfold strs
  rw [Array.toList_setIfInBounds, List.map_set]

section
variable {w w' : World} {d : Dk} {R : Raw}
theorem Mem.lts (h : Mem w d R) : d.pb < w.heap.size ∧ d.db < w.heap.size ∧ d.cb < w.heap.size := ⟨h.self.lt, h.dur.lt, h.con.lt⟩
theorem Mem.own_lt (h : Mem w d R) {k : Nat} (hk : own d k) : k < w.heap.size ∧ d.B ≤ k := by
  rcases hk with rfl | rfl | rfl | hk
  · exact ⟨h.self.lt, h.low.1⟩
  · exact ⟨h.dur.lt, h.low.2.1⟩
  · exact ⟨h.con.lt, h.low.2.2⟩
  · have := h.cache.lt k hk; exact ⟨this.2, this.1⟩
/-- The eight cells. -/
theorem Mem.cells (h : Mem w d R) : w.cell? ⟨d.pb, 0, none⟩ = some (.int .i64 R.z) ∧ w.cell? ⟨d.pb, 1, none⟩ = some (.slice (some ⟨d.db, 0, none⟩) R.dur.length R.dur.length) ∧
    w.cell? ⟨d.pb, 2, none⟩ = some (.slice (some ⟨d.cb, 0, none⟩) R.con.length R.con.length) ∧ w.cell? ⟨d.pb, 3, none⟩ = some d.cv ∧ w.cell? ⟨d.pb, 4, none⟩ = some (.int .i64 R.left) ∧
    w.cell? ⟨d.pb, 5, none⟩ = some (.bool R.full) ∧ w.cell? ⟨d.pb, 6, none⟩ = some (.bool R.off) ∧ w.cell? ⟨d.pb, 7, none⟩ = some (.int .i64 R.ops) :=
  ⟨h.self.cell 0, h.self.cell 1, h.self.cell 2, h.self.cell 3, h.self.cell 4, h.self.cell 5, h.self.cell 6, h.self.cell 7⟩
theorem Mem.free (h : Mem w d R) (j : Nat) : w.frozen? ⟨d.pb, j, none⟩ = false := h.self.free j
theorem Mem.durAt (h : Mem w d R) {i : Nat} (hi : i < R.dur.length) : w.cell? ⟨d.db, i, none⟩ = some (.string (at0 R.dur i)) := (h.dur.cell i).trans (strs_get hi)
theorem Mem.conAt (h : Mem w d R) {i : Nat} (hi : i < R.con.length) : w.cell? ⟨d.cb, i, none⟩ = some (.string (at0 R.con i)) := (h.con.cell i).trans (strs_get hi)
theorem Mem.shape (h : Mem w d R) : ∃ a c, d.cv = .slice a R.cache.length c := owns_slice h.cache
/-- The two cells of a write of the cache. -/
theorem owns_write {w : World} {B : Nat} {t : TypeId} {v : Value} {ws : List Wr} (h : w.ownsRow B t 2 v ws.length (ws.flatMap wC)) {k : Nat} {x : Wr} (hk : ws[k]? = some x) :
    ∃ g c, v = .slice (some ⟨g, 0, none⟩) ws.length c ∧ v.ownBlock = some g ∧ w.cell? ⟨g, k * 2, none⟩ = some (.int .i64 x.p) ∧ w.cell? ⟨g, k * 2 + 1, none⟩ = some (.string x.s) ∧ w.rangeAt g (k * 2) [.int .i64 x.p, .string x.s] := by
  have hl : k < ws.length := (List.getElem?_eq_some_iff.1 hk).1
  rcases h.2 with ⟨_, h0⟩ | ⟨g, c, cur, rfl, _⟩
  · omega
  · have c0 := h.cells (g := g) rfl (k * 2 + 0) (.int .i64 x.p) (by rw [flat_get ws k x 0 hk (by omega)]; rfl)
    have c1 := h.cells (g := g) rfl (k * 2 + 1) (.string x.s) (by rw [flat_get ws k x 1 hk (by omega)]; rfl)
    rw [addr_add, Nat.zero_add] at c0 c1
    refine ⟨g, c, rfl, rfl, c0, c1, fun j y hy => ?_⟩
    match j, hy with
    | 0, hy => obtain rfl : Value.int .i64 x.p = y := by simpa using hy
               exact c0
    | 1, hy => obtain rfl : Value.string x.s = y := by simpa using hy
               exact c1
/-- .. while other blocks turn. -/
theorem Mem.frame {F : Nat → Prop} (h : Mem w d R) (hf : Fr F w w') (hF : ∀ k, F k → ¬ own d k) : Mem w' d R := by
  refine ⟨h.self.same (hf.block _ h.self.lt fun e => hF _ e (.inl rfl)), h.dur.same (hf.block _ h.dur.lt fun e => hF _ e (.inr (.inl rfl))), h.con.same (hf.block _ h.con.lt fun e => hF _ e (.inr (.inr (.inl rfl)))),
    Fr.owns h.cache hf fun k hk e => hF k e (.inr (.inr (.inr hk))), h.ne, h.cv, h.low⟩
theorem Mem.below (h : Mem w d R) (hb : Below w.heap.size w w') : Mem w' d R := h.frame (F := fun _ => False) (Fr.of_below hb) fun _ e => e.elim
theorem Mem.drew (h : Mem w d R) : Mem w.drew d R := ⟨h.self, h.dur, h.con, h.cache, h.ne, h.cv, h.low⟩
theorem Mem.drewN (h : Mem w d R) (n : Nat) : Mem (w.drewN n) d R := h.below (below_drewN (Below.refl _ _) n)
theorem Mem.alloc (h : Mem w d R) (o : Obj) : Mem (w.alloc o) d R := h.below ((Below.refl _ _).alloc (Nat.le_refl _) _)
/-- A store into one of its cells. -/
theorem Mem.setSelf (h : Mem w d R) (j : Nat) (v : Value) (R' : Raw) (he : (cellsD d R).setIfInBounds j v = cellsD d R') (h1 : R'.dur = R.dur) (h2 : R'.con = R.con) (h3 : R'.cache = R.cache) : Mem (w.setCell ⟨d.pb, j, none⟩ v) d R' := by
  refine ⟨by rw [← he]; exact h.self.set j v, by rw [h1]; exact h.dur.other v (fun e => h.ne.1 e.symm), by rw [h2]; exact h.con.other v (fun e => h.ne.2.1 e.symm), ?_, h.ne, h.cv, h.low⟩
  rw [h3]
  refine Fr.owns (F := fun k => k = d.pb) h.cache (Fr.one w _ _ _) fun k hk e => (h.cv k hk).1 e
theorem Mem.setLeft (h : Mem w d R) (x : Int) : Mem (w.setCell ⟨d.pb, 4, none⟩ (.int .i64 x)) d { R with left := x } := h.setSelf 4 _ _ rfl rfl rfl rfl
theorem Mem.setFull (h : Mem w d R) (x : Bool) : Mem (w.setCell ⟨d.pb, 5, none⟩ (.bool x)) d { R with full := x } := h.setSelf 5 _ _ rfl rfl rfl rfl
theorem Mem.setOff (h : Mem w d R) (x : Bool) : Mem (w.setCell ⟨d.pb, 6, none⟩ (.bool x)) d { R with off := x } := h.setSelf 6 _ _ rfl rfl rfl rfl
theorem Mem.setOps (h : Mem w d R) (x : Nat) : Mem (w.setCell ⟨d.pb, 7, none⟩ (.int .i64 x)) d { R with ops := x } := h.setSelf 7 _ _ rfl rfl rfl rfl
/-- The cache turned: one that is owned, in a block of its own. -/
theorem Mem.setCache (h : Mem w d R) (cv : Value) (ws : List Wr) (ho : w.ownsRow d.B wrT 2 cv ws.length (ws.flatMap wC)) (hc : ∀ k, cv.ownBlock = some k → k ≠ d.pb ∧ k ≠ d.db ∧ k ≠ d.cb) :
    Mem (w.setCell ⟨d.pb, 3, none⟩ cv) { d with cv := cv } { R with cache := ws } :=
  ⟨h.self.set 3 cv, h.dur.other cv (fun e => h.ne.1 e.symm), h.con.other cv (fun e => h.ne.2.1 e.symm),
    Fr.owns (F := fun k => k = d.pb) ho (Fr.one w _ _ _) fun k hk e => (hc k hk).1 e, h.ne, hc, h.low⟩
theorem Mem.setDur (h : Mem w d R) (i : Nat) (s : ByteArray) : Mem (w.setCell ⟨d.db, i, none⟩ (.string s)) d { R with dur := R.dur.set i s } := by
  refine ⟨?_, ?_, h.con.other _ (fun e => h.ne.2.2 e.symm), ?_, h.ne, h.cv, h.low⟩
  · have : cellsD d { R with dur := R.dur.set i s } = cellsD d R := by simp [cellsD]
    rw [this]
    exact h.self.other _ h.ne.1
  · rw [← strs_set]; exact h.dur.set i _
  · exact Fr.owns (F := fun k => k = d.db) h.cache (Fr.one w _ _ _) fun k hk e => (h.cv k hk).2.1 e
theorem Mem.setCon (h : Mem w d R) (i : Nat) (s : ByteArray) : Mem (w.setCell ⟨d.cb, i, none⟩ (.string s)) d { R with con := R.con.set i s } := by
  refine ⟨?_, h.dur.other _ h.ne.2.2, ?_, ?_, h.ne, h.cv, h.low⟩
  · have : cellsD d { R with con := R.con.set i s } = cellsD d R := by simp [cellsD]
    rw [this]
    exact h.self.other _ h.ne.2.1
  · rw [← strs_set]; exact h.con.set i _
  · exact Fr.owns (F := fun k => k = d.cb) h.cache (Fr.one w _ _ _) fun k hk e => (h.cv k hk).2.2 e

/-- A call on a disk: what may have turned. -/
structure Step (w : World) (d : Dk) (w' : World) (d' : Dk) : Prop where
  fr : Fr (own d) w w'
  B : d'.B = d.B
  pb : d'.pb = d.pb
  db : d'.db = d.db
  cb : d'.cb = d.cb
  cv : ∀ k, d'.cv.ownBlock = some k → d.cv.ownBlock = some k ∨ w.heap.size ≤ k
theorem Step.refl (w : World) (d : Dk) : Step w d w d := ⟨Fr.refl _ _, rfl, rfl, rfl, rfl, fun _ h => .inl h⟩
theorem Step.own {d' : Dk} (h : Step w d w' d') {k : Nat} (hk : own d' k) : own d k ∨ w.heap.size ≤ k := by
  rcases hk with rfl | rfl | rfl | hk
  · exact .inl (.inl h.pb)
  · exact .inl (.inr (.inl h.db))
  · exact .inl (.inr (.inr (.inl h.cb)))
  · rcases h.cv k hk with e | e
    · exact .inl (.inr (.inr (.inr e)))
    · exact .inr e
theorem Step.trans {d' d2 : Dk} {w2 : World} (h : Step w d w' d') (k : Step w' d' w2 d2) : Step w d w2 d2 := by
  refine ⟨h.fr.trans k.fr fun i hi e => ?_, k.B.trans h.B, k.pb.trans h.pb, k.db.trans h.db, k.cb.trans h.cb, fun i e => ?_⟩
  · rcases h.own e with e | e
    · exact e
    · omega
  · rcases k.cv i e with e | e
    · exact h.cv i e
    · exact .inr (Nat.le_trans h.fr.size e)
theorem Step.of_below (d : Dk) (h : Below w.heap.size w w') : Step w d w' d := ⟨Fr.of_below h, rfl, rfl, rfl, rfl, fun _ h => .inl h⟩
theorem Step.put {d' : Dk} (h : Step w d w' d') {w2 : World} (hf : Fr (Disk.own d) w' w2) : Step w d w2 d' :=
  ⟨h.fr.trans hf fun _ _ e => e, h.B, h.pb, h.db, h.cb, h.cv⟩
theorem Step.below {d' : Dk} (h : Step w d w' d') (hm : Mem w d R) {B : Nat} (hB : B ≤ d.B) : Below B w w' := by
  have h1 := hm.own_lt (k := d.pb) (.inl rfl)
  exact h.fr.below (by omega) fun k hk => Nat.le_trans hB (hm.own_lt hk).2
end
end Go.Proofs.YtghpohiinnallaaGreatDoor.Disk

/-
  Walks of the program's disk, first part: what reads, Cut, Fill, operate, outcome.
-/
namespace Go.Proofs.YtghpohiinnallaaGreatDoor.Disk
open Go Go.RowKit

section
variable {w : World} {d : Dk} {R : Raw}
theorem size_any (h : Mem w d R) : Calls Tryz.prog 79 #[ptr d.pb] w fun e w' => e = .returned (.int .i64 R.z) ∧ w = w' := by
  obtain ⟨c0, c1, c2, c3, c4, c5, c6, c7⟩ := h.cells
  clear h
  go_enter Tryz.func79, Tryz.ntmps79
  go_wp2
  go_ret
  exact ⟨rfl, rfl⟩
theorem sectors_any (h : Mem w d R) : Calls Tryz.prog 144 #[ptr d.pb] w fun e w' => e = .returned (.int .i64 R.dur.length) ∧ w = w' := by
  obtain ⟨c0, c1, c2, c3, c4, c5, c6, c7⟩ := h.cells
  clear h
  go_enter Tryz.func144, Tryz.ntmps144
  go_wp2
  go_ret
  exact ⟨rfl, rfl⟩
theorem has_any (h : Mem w d R) (i : Int) : Calls Tryz.prog 119 #[ptr d.pb, .int .i64 i] w fun e w' => e = .returned (.bool (decide (0 ≤ i) && decide (i < R.dur.length))) ∧ w = w' := by
  obtain ⟨c0, c1, c2, c3, c4, c5, c6, c7⟩ := h.cells
  clear h
  cases h0 : decide (0 ≤ i) <;> cases h1 : decide (i < (R.dur.length : Int))
  all_goals
    go_enter Tryz.func119, Tryz.ntmps119
    go_wp2
    go_ret
    exact ⟨rfl, rfl⟩
theorem cut_any (h : Mem w d R) (x : Int) : Calls Tryz.prog 24 #[ptr d.pb, .int .i64 x] w fun e w' => e = .returned (.tuple #[]) ∧ Mem w' d { R with left := x } ∧ Fr (own d) w w' := by
  obtain ⟨c0, c1, c2, c3, c4, c5, c6, c7⟩ := h.cells
  have f4 := h.free 4
  have HD := Lib.hid (And.intro (h.setLeft x) ((Fr.refl (own d) w).pbAt 4 (.int .i64 x)))
  clear h
  go_enter Tryz.func24, Tryz.ntmps24
  go_wp2
  go_end0
  exact ⟨rfl, HD.out⟩
theorem fill_any (h : Mem w d R) (x : Bool) : Calls Tryz.prog 32 #[ptr d.pb, .bool x] w fun e w' => e = .returned (.tuple #[]) ∧ Mem w' d { R with full := x } ∧ Fr (own d) w w' := by
  obtain ⟨c0, c1, c2, c3, c4, c5, c6, c7⟩ := h.cells
  have f5 := h.free 5
  have HD := Lib.hid (And.intro (h.setFull x) ((Fr.refl (own d) w).pbAt 5 (.bool x)))
  clear h
  go_enter Tryz.func32, Tryz.ntmps32
  go_wp2
  go_end0
  exact ⟨rfl, HD.out⟩
theorem outcome_any (w : World) (b : Bool) : Calls Tryz.prog 122 #[.bool b] w fun e w' => e = .returned (.int .i64 (if b then 80 else 0)) ∧ w = w' := by
  cases b
  all_goals
    go_enter Tryz.func122, Tryz.ntmps122
    go_wp2
    go_ret
    exact ⟨rfl, rfl⟩
end
end Go.Proofs.YtghpohiinnallaaGreatDoor.Disk

/-
  Walks of the program's disk, second part: operate, Read, Durable, tear.
-/
namespace Go.Proofs.YtghpohiinnallaaGreatDoor.Disk
open Go Go.RowKit

section
variable {w : World} {d : Dk} {R : Raw}
def opR (R : Raw) : Raw := { R with ops := R.ops + 1, left := if 0 < R.left then R.left - 1 else R.left, off := decide (R.left = 1) }
set_option maxHeartbeats 1000000 in
theorem operate_any (h : Mem w d R) (ho : R.off = false) (hn : R.ops < 1000000) (h1 : -9223372036854775808 ≤ R.left) (h2 : R.left ≤ 9223372036854775807) :
    Calls Tryz.prog 120 #[ptr d.pb] w fun e w' => e = .returned (.bool (decide (R.left = 1))) ∧ Mem w' d (opR R) ∧ Fr (own d) w w' := by
  obtain ⟨c0, c1, c2, c3, c4, c5, c6, c7⟩ := h.cells
  have f4 := h.free 4
  have f6 := h.free 6
  have f7 := h.free 7
  have HM := Lib.hid h
  clear h
  rcases (show R.left ≤ 0 ∨ R.left = 1 ∨ 1 < R.left by omega) with hl | hl | hl
  · have hd : decide (R.left = 1) = false := by simp; omega
    have HD : Hid (Mem (w.setCell ⟨d.pb, 7, none⟩ (.int .i64 ((R.ops : Int) + 1))) d (opR R) ∧ Fr (own d) w (w.setCell ⟨d.pb, 7, none⟩ (.int .i64 ((R.ops : Int) + 1)))) := by
      refine ⟨?_, (Fr.refl _ _).pbAt _ _⟩
      have e := HM.out.setOps (R.ops + 1)
      have e2 : opR R = { R with ops := R.ops + 1 } := by unfold opR; rw [hd, if_neg (by omega), ← ho]
      rw [e2]
      exact e
    rw [hd]
    rw [ho] at c6
    clear hd
    go_enter Tryz.func120, Tryz.ntmps120
    go_wp2
    go_ret
    exact ⟨rfl, HD.out⟩
  · have HD : Hid (Mem (((w.setCell ⟨d.pb, 7, none⟩ (.int .i64 ((R.ops : Int) + 1))).setCell ⟨d.pb, 4, none⟩ (.int .i64 0)).setCell ⟨d.pb, 6, none⟩ (.bool true)) d (opR R) ∧ Fr (own d) w (((w.setCell ⟨d.pb, 7, none⟩ (.int .i64 ((R.ops : Int) + 1))).setCell ⟨d.pb, 4, none⟩ (.int .i64 0)).setCell ⟨d.pb, 6, none⟩ (.bool true))) := by
      refine ⟨?_, (((Fr.refl _ _).pbAt _ _).pbAt _ _).pbAt _ _⟩
      have e := ((HM.out.setOps (R.ops + 1)).setLeft 0).setOff true
      have e2 : opR R = { R with ops := R.ops + 1, left := 0, off := true } := by unfold opR; rw [hl]; rfl
      rw [e2]
      exact e
    rw [hl]
    rw [hl] at c4
    clear hl
    go_enter Tryz.func120, Tryz.ntmps120
    go_wp2
    go_ret
    exact ⟨rfl, HD.out⟩
  · have hd : decide (R.left = 1) = false := by simp; omega
    have h0 : (R.left - 1 == 0) = false := by simp; omega
    have HD : Hid (Mem (((w.setCell ⟨d.pb, 7, none⟩ (.int .i64 ((R.ops : Int) + 1))).setCell ⟨d.pb, 4, none⟩ (.int .i64 (R.left - 1))).setCell ⟨d.pb, 6, none⟩ (.bool false)) d (opR R) ∧ Fr (own d) w (((w.setCell ⟨d.pb, 7, none⟩ (.int .i64 ((R.ops : Int) + 1))).setCell ⟨d.pb, 4, none⟩ (.int .i64 (R.left - 1))).setCell ⟨d.pb, 6, none⟩ (.bool false))) := by
      refine ⟨?_, (((Fr.refl _ _).pbAt _ _).pbAt _ _).pbAt _ _⟩
      have e := ((HM.out.setOps (R.ops + 1)).setLeft (R.left - 1)).setOff false
      have e2 : opR R = { R with ops := R.ops + 1, left := R.left - 1, off := false } := by unfold opR; rw [hd, if_pos (by omega)]
      rw [e2]
      exact e
    rw [hd]
    clear hd
    go_enter Tryz.func120, Tryz.ntmps120
    go_wp2
    go_ret
    exact ⟨rfl, HD.out⟩
theorem read_out (h : Mem w d R) (i : Int) (hi : i < 0 ∨ (R.dur.length : Int) ≤ i) : Calls Tryz.prog 83 #[ptr d.pb, .int .i64 i] w fun e w' => e = .returned (.tuple #[.string ⟨#[]⟩, .int .i64 1]) ∧ w = w' := by
  have HH := Lib.hid (has_any h i)
  rw [show (decide (0 ≤ i) && decide (i < (R.dur.length : Int))) = false by
    rw [Bool.and_eq_false_iff]
    rcases hi with hi | hi
    · left; simp; omega
    · right; simp; omega] at HH
  clear h hi
  go_enter Tryz.func83, Tryz.ntmps83
  go_wp2_with fail
  refine HH.out.mono ?_
  rintro e w' ⟨rfl, rfl⟩
  go_wp2_with fail
  go_ret2
  exact ⟨rfl, rfl⟩
theorem read_in (h : Mem w d R) (i : Nat) (hi : i < R.dur.length) (hl : R.con.length = R.dur.length) : Calls Tryz.prog 83 #[ptr d.pb, .int .i64 i] w fun e w' => e = .returned (.tuple #[.string (if R.off then ⟨#[]⟩ else at0 R.con i), .int .i64 (if R.off then 80 else 0)]) ∧ w = w' := by
  obtain ⟨c0, c1, c2, c3, c4, c5, c6, c7⟩ := h.cells
  have hi2 : i < R.con.length := by omega
  have hc := h.conAt hi2
  have HH := Lib.hid (has_any h (i : Int))
  rw [show decide ((0 : Int) ≤ (i : Int)) = true by simp, show decide ((i : Int) < (R.dur.length : Int)) = true by simp; omega] at HH
  clear h hl
  cases ho : R.off
  all_goals
    rw [ho] at c6
    clear ho
    go_enter Tryz.func83, Tryz.ntmps83
    go_wp2_with fail
    refine HH.out.mono ?_
    rintro e w' ⟨rfl, rfl⟩
    go_wp2_with fail
    go_ret2
    exact ⟨rfl, rfl⟩
end
end Go.Proofs.YtghpohiinnallaaGreatDoor.Disk

/-
  Walks of the program's disk, third part: tear.
-/
namespace Go.Proofs.YtghpohiinnallaaGreatDoor.Disk
open Go Go.RowKit
open Go.Proofs.YtghpohiinnallaaGreatDoor.Sha (wp_region_drawn_tail wp_region_kept_tail quiet_load_row)

abbrev wV (x : Wr) : Value := .agg #[.int .i64 x.p, .string x.s]
theorem sizeWr : (Tryz.prog.info? 113).map (·.size) = some 2 := by kernel_rfl

theorem new_at {w : World} {o : Obj} {n : Nat} (h : w.heap.size = n) : (w.alloc o).heap[n]? = some o := by subst h; exact heap_alloc_new w o
theorem boxes {w : World} (a b : Obj) : Below w.heap.size w ((w.alloc a).alloc b) := ((Below.refl _ _).alloc (Nat.le_refl _) _).alloc (by simp) _
theorem Lies.drewN {w : World} {b : Nat} {cs : Array Value} {t : TypeId} (h : Lies w b cs t) (n : Nat) : Lies (w.drewN n) b cs t := by
  have : (w.drewN n).heap = w.heap := by simp
  unfold Lies at h ⊢
  rw [this]; exact h
/-- A box of two cells, laid as the second one, drawn behind, and written. -/
theorem two_box {w : World} (a : Obj) (x y : Value) (c0 c1 : Value) (t : TypeId) (n : Nat) :
    Lies (((((w.alloc a).alloc (.cells #[x, y] t)).drewN n).setCell ⟨w.heap.size + 1, 0, none⟩ c0).setCell ⟨w.heap.size + 1, 1, none⟩ c1) (w.heap.size + 1) #[c0, c1] t ∧
    Below w.heap.size w (((((w.alloc a).alloc (.cells #[x, y] t)).drewN n).setCell ⟨w.heap.size + 1, 0, none⟩ c0).setCell ⟨w.heap.size + 1, 1, none⟩ c1) := by
  have h : Lies ((w.alloc a).alloc (.cells #[x, y] t)) (w.heap.size + 1) #[x, y] t := new_at (by simp)
  exact ⟨((h.drewN n).set 0 c0).set 1 c1, ((below_drewN (boxes _ _) n).setCell (Nat.le_succ _) _).setCell (Nat.le_succ _) _⟩
section
variable {w : World} {d : Dk} {R : Raw}
set_option maxHeartbeats 1000000 in
theorem tear_whole (h : Mem w d R) (x : Wr) (torn : Int) (ht : torn? R.z torn = false) : Calls Tryz.prog 56 #[ptr d.pb, wV x, .int .i64 torn] w fun e w' => e = .returned (wV x) ∧ Below w.heap.size w w' := by
  obtain ⟨c0, c1, c2, c3, c4, c5, c6, c7⟩ := h.cells
  have hlt := h.self.lt
  clear h
  have ht2 : torn < 0 ∨ (0 ≤ torn ∧ (R.z : Int) ≤ torn) := by
    unfold torn? at ht
    rw [Bool.and_eq_false_iff, decide_eq_false_iff_not, decide_eq_false_iff_not] at ht
    omega
  clear ht
  rcases ht2 with h1 | ⟨h1, h2⟩
  all_goals
    go_enter Tryz.func56, Tryz.ntmps56
    go_wp2
    exact bodyPost_ret (v := wV x) (results_cell_row Tryz.results56 _ _ (w.heap.size + 1) 113 _ (0, 0) _ rfl (new_at (by simp)) Tryz.underlying113 rfl sizeWr) rfl ⟨rfl, boxes _ _⟩
set_option maxHeartbeats 1000000 in
theorem tear_part (h : Mem w d R) (x : Wr) (k : Nat) (hk : k < R.z) (hx : x.p < R.dur.length) (hs : x.s.size = R.z) (hz : R.z ≤ 256) (ha : (at0 R.dur x.p).size = R.z) (_hl : R.dur.length ≤ 4096) :
    Calls Tryz.prog 56 #[ptr d.pb, wV x, .int .i64 k] w fun e w' => e = .returned (wV ⟨x.p, x.s.extract 0 k ++ (at0 R.dur x.p).extract k R.z⟩) ∧ Below w.heap.size w w' := by
  obtain ⟨c0, c1, c2, c3, c4, c5, c6, c7⟩ := h.cells
  have hc := h.durAt hx
  obtain ⟨h1, h2, -⟩ := h.lts
  clear h
  have e1 := (extract_full x.s hs k (by omega)).1
  have e2 := (extract_full (at0 R.dur x.p) ha k (by omega)).2
  generalize at0 R.dur x.p = y at *
  go_enter Tryz.func56, Tryz.ntmps56
  go_wp2
  refine wp_region_drawn_tail 18 (by kernel_rfl) (by kernel_rfl) ?_
  simp only [List.take_succ_cons, List.take_zero, List.drop_succ_cons, List.drop_zero]
  repeat (go_big_quiet_step (fail))
  refine wpQuiet_nil ?_
  rintro _ ⟨nq, rfl⟩
  go_wp2
  have hB := two_box (w := w) (.cells #[.int .i64 x.p, .string x.s] 113) (.int .i64 0) (.string ⟨#[]⟩) (.int .i64 x.p) (.string (x.s.extract 0 k ++ y.extract k R.z)) 113 nq
  exact bodyPost_ret (v := wV ⟨x.p, x.s.extract 0 k ++ y.extract k R.z⟩) (results_cell_row Tryz.results56 _ _ (w.heap.size + 1) 113 _ (0, 0) _ rfl hB.1 Tryz.underlying113 rfl sizeWr) rfl ⟨rfl, hB.2⟩
theorem tear_any (h : Mem w d R) (x : Wr) (torn : Int) (hx : x.p < R.dur.length) (hs : x.s.size = R.z) (hz : R.z ≤ 256) (ha : (at0 R.dur x.p).size = R.z) (hl : R.dur.length ≤ 4096) :
    Calls Tryz.prog 56 #[ptr d.pb, wV x, .int .i64 torn] w fun e w' => e = .returned (wV (tear R.z torn R.dur x)) ∧ Below w.heap.size w w' := by
  unfold tear
  cases ht : torn? R.z torn
  · exact tear_whole h x torn ht
  · unfold torn? at ht
    simp only [Bool.and_eq_true, decide_eq_true_eq] at ht
    obtain ⟨k, rfl⟩ := Int.eq_ofNat_of_zero_le ht.1
    exact tear_part h x k (by omega) hx hs hz ha hl
end
end Go.Proofs.YtghpohiinnallaaGreatDoor.Disk

/-
  Contracts of the library at this program, laid by the shelf's tool, each one application: strings_Repeat, stringslite_Clone, bits_Mul64, bits_Mul.
-/
namespace Go.Proofs
open Go.Shelf
def Tryz.laysM316_ren : Go.Shelf.Ren := ⟨fun | 316 => 156 | n => n, fun | 9 => 9 | 3 => 3 | 4 => 4 | 37 => 181 | 0 => 0 | 127 => 215 | 5 => 5 | n => n, fun | n => n⟩
theorem Tryz.laysM316 : Go.Proofs.LaysM.n316 Tryz.prog Tryz.laysM316_ren := {
  mixed := by kernel_rfl
  f316 := Tryz.func156.trans (congrArg some (by kernel_rfl))
  t0 := Tryz.underlying0
  a0 := Tryz.isAgg0
  z0 := Tryz.sizeOf0
  v0 := Tryz.zeroValue0
  t3 := Tryz.underlying3
  a3 := Tryz.isAgg3
  z3 := Tryz.sizeOf3
  v3 := Tryz.zeroValue3
  t4 := Tryz.underlying4
  a4 := Tryz.isAgg4
  z4 := Tryz.sizeOf4
  v4 := Tryz.zeroValue4
  t9 := Tryz.underlying9
  a9 := Tryz.isAgg9
  z9 := Tryz.sizeOf9
  v9 := Tryz.zeroValue9
  t37 := Tryz.underlying181
  a37 := Tryz.isAgg181
  z37 := Tryz.sizeOf181
  v37 := Tryz.zeroValue181
  t127 := Tryz.underlying215
  a127 := Tryz.isAgg215
  z127 := Tryz.sizeOf215
  v127 := Tryz.zeroValue215
  t5 := Tryz.underlying5
  a5 := Tryz.isAgg5
  z5 := Tryz.sizeOf5
  v5 := Tryz.zeroValue5
  i0 := by kernel_rfl
  i3 := by kernel_rfl
  i4 := by kernel_rfl
  i5 := by kernel_rfl
  i9 := by kernel_rfl
  i37 := by kernel_rfl
  i127 := by kernel_rfl }
def Tryz.lays264_ren : Go.Shelf.Ren := ⟨fun | 264 => 141 | n => n, fun | 53 => 212 | 46 => 177 | n => n, fun | n => n⟩
theorem Tryz.lays264 : Go.Proofs.Lays.n264 Tryz.prog Tryz.lays264_ren := {
  mixed := by kernel_rfl
  f264 := Tryz.func141.trans (congrArg some (by kernel_rfl))
  t46 := Tryz.underlying177
  a46 := Tryz.isAgg177
  z46 := Tryz.sizeOf177
  v46 := Tryz.zeroValue177
  t53 := Tryz.underlying212
  a53 := Tryz.isAgg212
  z53 := Tryz.sizeOf212
  v53 := Tryz.zeroValue212 }
def Tryz.lays212_ren : Go.Shelf.Ren := ⟨fun | 212 => 113 | 263 => 140 | 264 => 141 | n => n, fun | 46 => 177 | 51 => 201 | 146 => 210 | 53 => 212 | 148 => 213 | n => n, fun | n => n⟩
theorem Tryz.lays212 : Go.Proofs.Lays.n212 Tryz.prog Tryz.lays212_ren := {
  mixed := by kernel_rfl
  f212 := Tryz.func113.trans (congrArg some (by kernel_rfl))
  f263 := Tryz.func140.trans (congrArg some (by kernel_rfl))
  f264 := Tryz.func141.trans (congrArg some (by kernel_rfl))
  t46 := Tryz.underlying177
  a46 := Tryz.isAgg177
  z46 := Tryz.sizeOf177
  v46 := Tryz.zeroValue177
  t51 := Tryz.underlying201
  a51 := Tryz.isAgg201
  z51 := Tryz.sizeOf201
  v51 := Tryz.zeroValue201
  t53 := Tryz.underlying212
  a53 := Tryz.isAgg212
  z53 := Tryz.sizeOf212
  v53 := Tryz.zeroValue212
  t146 := Tryz.underlying210
  a146 := Tryz.isAgg210
  z146 := Tryz.sizeOf210
  v146 := Tryz.zeroValue210
  t148 := Tryz.underlying213
  a148 := Tryz.isAgg213
  z148 := Tryz.sizeOf213
  v148 := Tryz.zeroValue213 }
def Tryz.lays105_ren : Go.Shelf.Ren := ⟨fun | 105 => 78 | 212 => 113 | 99 => 43 | 165 => 114 | 166 => 115 | 170 => 116 | 169 => 117 | 263 => 140 | 264 => 141 | 206 => 76 | 240 => 142 | 241 => 143 | 276 => 154 | 277 => 155 | n => n, fun | 9 => 9 | 3 => 3 | 4 => 4 | 20 => 20 | 0 => 0 | 46 => 177 | 109 => 178 | 5 => 5 | 72 => 183 | 76 => 186 | 51 => 201 | 146 => 210 | 53 => 212 | 148 => 213 | 70 => 180 | 37 => 181 | 75 => 185 | 127 => 215 | 164 => 224 | 80 => 188 | n => n, fun | n => n⟩
theorem Tryz.lays105 : Go.Proofs.Lays.n105 Tryz.prog Tryz.lays105_ren := {
  mixed := by kernel_rfl
  f99 := Tryz.func43.trans (congrArg some (by kernel_rfl))
  f105 := Tryz.func78.trans (congrArg some (by kernel_rfl))
  f165 := Tryz.func114.trans (congrArg some (by kernel_rfl))
  f166 := Tryz.func115.trans (congrArg some (by kernel_rfl))
  f169 := Tryz.func117.trans (congrArg some (by kernel_rfl))
  f170 := Tryz.func116.trans (congrArg some (by kernel_rfl))
  f206 := Tryz.func76.trans (congrArg some (by kernel_rfl))
  f212 := Tryz.func113.trans (congrArg some (by kernel_rfl))
  f240 := Tryz.func142.trans (congrArg some (by kernel_rfl))
  f241 := Tryz.func143.trans (congrArg some (by kernel_rfl))
  f263 := Tryz.func140.trans (congrArg some (by kernel_rfl))
  f264 := Tryz.func141.trans (congrArg some (by kernel_rfl))
  f276 := Tryz.func154.trans (congrArg some (by kernel_rfl))
  f277 := Tryz.func155.trans (congrArg some (by kernel_rfl))
  t0 := Tryz.underlying0
  a0 := Tryz.isAgg0
  z0 := Tryz.sizeOf0
  v0 := Tryz.zeroValue0
  t3 := Tryz.underlying3
  a3 := Tryz.isAgg3
  z3 := Tryz.sizeOf3
  v3 := Tryz.zeroValue3
  t4 := Tryz.underlying4
  a4 := Tryz.isAgg4
  z4 := Tryz.sizeOf4
  v4 := Tryz.zeroValue4
  t5 := Tryz.underlying5
  a5 := Tryz.isAgg5
  z5 := Tryz.sizeOf5
  v5 := Tryz.zeroValue5
  t9 := Tryz.underlying9
  a9 := Tryz.isAgg9
  z9 := Tryz.sizeOf9
  v9 := Tryz.zeroValue9
  t20 := Tryz.underlying20
  a20 := Tryz.isAgg20
  z20 := Tryz.sizeOf20
  v20 := Tryz.zeroValue20
  t37 := Tryz.underlying181
  a37 := Tryz.isAgg181
  z37 := Tryz.sizeOf181
  v37 := Tryz.zeroValue181
  t46 := Tryz.underlying177
  a46 := Tryz.isAgg177
  z46 := Tryz.sizeOf177
  v46 := Tryz.zeroValue177
  t51 := Tryz.underlying201
  a51 := Tryz.isAgg201
  z51 := Tryz.sizeOf201
  v51 := Tryz.zeroValue201
  t53 := Tryz.underlying212
  a53 := Tryz.isAgg212
  z53 := Tryz.sizeOf212
  v53 := Tryz.zeroValue212
  t70 := Tryz.underlying180
  a70 := Tryz.isAgg180
  z70 := Tryz.sizeOf180
  v70 := Tryz.zeroValue180
  t72 := Tryz.underlying183
  a72 := Tryz.isAgg183
  z72 := Tryz.sizeOf183
  v72 := Tryz.zeroValue183
  t75 := Tryz.underlying185
  a75 := Tryz.isAgg185
  z75 := Tryz.sizeOf185
  v75 := Tryz.zeroValue185
  t76 := Tryz.underlying186
  a76 := Tryz.isAgg186
  z76 := Tryz.sizeOf186
  v76 := Tryz.zeroValue186
  t109 := Tryz.underlying178
  a109 := Tryz.isAgg178
  z109 := Tryz.sizeOf178
  v109 := Tryz.zeroValue178
  t127 := Tryz.underlying215
  a127 := Tryz.isAgg215
  z127 := Tryz.sizeOf215
  v127 := Tryz.zeroValue215
  t146 := Tryz.underlying210
  a146 := Tryz.isAgg210
  z146 := Tryz.sizeOf210
  v146 := Tryz.zeroValue210
  t148 := Tryz.underlying213
  a148 := Tryz.isAgg213
  z148 := Tryz.sizeOf213
  v148 := Tryz.zeroValue213
  t164 := Tryz.underlying224
  a164 := Tryz.isAgg224
  z164 := Tryz.sizeOf224
  v164 := Tryz.zeroValue224 }
theorem Tryz.Builder_Extra_105 : Builder.Extra Tryz.prog Tryz.lays105_ren := {
  sizeBuilder := by kernel_rfl
  liesBuilder := by kernel_rfl
  t5 := Tryz.underlying5
  a5 := Tryz.isAgg5
  z5 := Tryz.sizeOf5
  v5 := Tryz.zeroValue5
  infoByte := by kernel_rfl
  cellsByte := by kernel_rfl
  sizeByte := by kernel_rfl
  neB5 := by decide }
open Go.RowKit Go.Lib in
theorem Tryz.strings_Repeat (s : ByteArray) (c : Nat) (w : World) (hc : c ≤ 9223372036854775807) (hlen : s.size * c ≤ 140737488355328) :
    Calls Tryz.prog 78 #[.string s, .int .i64 c] w fun e w' => e = .returned (.string ⟨(Lib.repeatL s.data.toList c).toArray⟩) ∧ Below w.heap.size w w' := Any.strings_Repeat Tryz.lays105 Tryz.Builder_Extra_105 s c w hc hlen
open Go.RowKit in
theorem Tryz.stringslite_Clone (s : ByteArray) (w : World) (hlim : s.size ≤ 281474976710656) :
    Calls Tryz.prog 156 #[.string s] w fun e w' => e = .returned (.string s) ∧ Below w.heap.size w w' := Any.stringslite_Clone Tryz.laysM316 s w hlim
open Go.RowKit Go.Lib in
theorem Tryz.bits_Mul64 (x y : Nat) (hx : x < 18446744073709551616) (hy : y < 18446744073709551616) (w : World) :
    Calls Tryz.prog 141 #[.int .u64 x, .int .u64 y] w fun e w' => e = .returned (.tuple #[.int .u64 ((x * y / 18446744073709551616 : Nat) : Int), .int .u64 ((x * y % 18446744073709551616 : Nat) : Int)]) ∧ w' = w := Any.bits_Mul64 Tryz.lays264 x y hx hy w
open Go.RowKit Go.Lib in
theorem Tryz.bits_Mul (x y : Nat) (hx : x < 18446744073709551616) (hy : y < 18446744073709551616) (w : World) :
    Calls Tryz.prog 113 #[.int .u64 x, .int .u64 y] w fun e w' => e = .returned (.tuple #[.int .u64 ((x * y / 18446744073709551616 : Nat) : Int), .int .u64 ((x * y % 18446744073709551616 : Nat) : Int)]) ∧ w' = w := Any.bits_Mul Tryz.lays212 x y hx hy w
end Go.Proofs

/-
  Walks of the program's disk, fourth part: put.
-/
namespace Go.Proofs.YtghpohiinnallaaGreatDoor.Disk
open Go Go.RowKit
open Go.Proofs.YtghpohiinnallaaGreatDoor.Sha (wp_region_drawn_tail wp_region_kept_tail quiet_load_row)

theorem infoWr : (Tryz.prog.info? 113).map (fun i => (i.zero.map (·.cells.size), i.size, i.bytes)) = some (some 2, 2, 24) := by kernel_rfl
theorem wC_one (x : Wr) : ∀ u ∈ wC x, u.oneCell' = true := by
  intro u hu
  unfold wC at hu
  simp only [List.mem_cons, List.not_mem_nil, or_false] at hu
  rcases hu with rfl | rfl <;> rfl
theorem info_wr : ∃ i z, Tryz.prog.info? 113 = some i ∧ i.zero = some z ∧ i.size = 2 ∧ i.bytes = 24 ∧ z.cells.size = 2 := by
  cases hi : Tryz.prog.info? 113 with
  | none => have := infoWr; rw [hi] at this; cases this
  | some i =>
    have h0 := infoWr
    rw [hi] at h0
    have h0' : i.zero.map (·.cells.size) = some 2 ∧ i.size = 2 ∧ i.bytes = 24 := by simpa using h0
    obtain ⟨hz, hs, hb⟩ := h0'
    obtain ⟨z, hz1, hz2⟩ := Option.map_eq_some_iff.1 hz
    exact ⟨i, z, rfl, hz1, hs, hb, hz2⟩
theorem step_append_run {P : Program} {ops : Array Oper} {o : Oper} {a : Act} {w w' : World} {K : Act → World → Prop} {Q : Exit → Act → World → Prop} {E : Prop}
    (hg : o.guard = none) (s x : Operand) (t : TypeId) (hop : o.op = Op.call { callee := Callee.builtin Builtin.append, args := #[s, x], argTypes := #[t, t] })
    (u v r : Value) (hs : a.eval s = u) (hx : a.eval x = v) (hrun : (Builtin.append_ #[t, t] o.type #[u, v]).run P w = .ok r w') (hK : K (a.put o.dst r) w') :
    if Region.wanted o (yielded ops a.tmps) = true then Oper.wp P o a w K Q else E := by
  have hw : Region.wanted o (yielded ops a.tmps) = true := by simp [Region.wanted, hg]
  rw [if_pos hw]
  unfold Oper.wp
  simp [execOp, hop, resolve, invoke, builtin, hs, hx, hrun, Result.andThen]
  exact hK
section
variable {w : World} {d : Dk} {R : Raw}
/-- One write, laid in block g, appended to an owned list of writes. -/
theorem append_wr (w : World) (B g : Nat) (v : Value) (ws : List Wr) (x : Wr) (hg : Lies w g #[.int .i64 x.p, .string x.s] wrT) (ho : w.ownsRow B wrT 2 v ws.length (ws.flatMap wC)) (hl : ws.length ≤ 2000000) (hB : B ≤ w.heap.size) :
    ∃ v' w', (Builtin.append_ #[96, 96] 96 #[v, .slice (some ⟨g, 0, none⟩) 1 1]).run Tryz.prog w = .ok v' w' ∧
      w'.ownsRow B wrT 2 v' (ws ++ [x]).length ((ws ++ [x]).flatMap wC) ∧ w.grownBy w' v.ownBlock ∧ (∀ k, v'.ownBlock = some k → v.ownBlock = some k ∨ w.heap.size ≤ k) := by
  obtain ⟨i, z, hi, hz1, hs, hb, hz2⟩ := info_wr
  obtain ⟨v', w', hr, h2, h3, _, h5⟩ := run_append_own_at (P := Tryz.prog) w B 96 96 wrT i z 2 24 Tryz.underlying96 hi hz1 hs hb hz2 (by decide) v ws.length (ws.flatMap wC) ho ⟨g, 0, none⟩ 1 1 (wC x) rfl (fun j u hu => by
    rw [addr_add, Nat.zero_add]
    exact (hg.cell j).trans (by simpa [wC] using hu)) (wC_one x) (by unfold maxLen; omega) (by omega) hB
  refine ⟨v', w', hr, by simpa [List.flatMap_append] using h2, h3, fun k hk => ?_⟩
  rcases h5 with e | e
  · rw [e] at hk; exact .inl hk
  · rw [e] at hk
    obtain rfl := Option.some.inj hk
    exact .inr (Nat.le_refl _)
theorem clone_any (s : ByteArray) (w : World) (hs : s.size ≤ 100000) : Calls Tryz.prog 145 #[.string s] w fun e w' => e = .returned (.string s) ∧ Below w.heap.size w w' := by
  have HC := Lib.hid (Tryz.stringslite_Clone s w (by omega))
  go_enter Tryz.func145, Tryz.ntmps145
  go_wp2_with fail
  refine HC.out.mono ?_
  rintro e w' ⟨rfl, hb⟩
  have HB := Lib.hid hb
  clear hb
  go_wp2_with fail
  go_ret
  exact ⟨rfl, HB.out⟩
abbrev boxW (x : Wr) : Obj := .cells #[.int .i64 x.p, .string x.s] wrT
set_option maxRecDepth 100000 in
set_option maxHeartbeats 4000000 in
theorem put_any (h : Mem w d R) (p : Nat) (s : ByteArray) (hp : p < R.con.length) (hs : s.size ≤ 100000) (hl : R.cache.length ≤ 1000000) (_hc : R.con.length ≤ 4096) :
    Calls Tryz.prog 121 #[ptr d.pb, .int .i64 p, .string s] w fun e w' => e = .returned (.tuple #[]) ∧ ∃ cv', Mem w' { d with cv := cv' } { R with cache := R.cache ++ [⟨p, s⟩], con := R.con.set p s } ∧ Step w d w' { d with cv := cv' } := by
  have HH := Lib.hid h
  clear h
  go_enter Tryz.func121, Tryz.ntmps121
  go_wp2_with fail
  refine (clone_any s w hs).mono ?_
  rintro e w1 ⟨rfl, hb1⟩
  have HB1 := Lib.hid hb1
  have HM1 := Lib.hid (HH.out.below hb1)
  have HA : Hid (∃ v' w', (Builtin.append_ #[96, 96] 96 #[d.cv, .slice (some ⟨w1.heap.size + 1, 0, none⟩) 1 1]).run Tryz.prog (((w1.alloc (boxW ⟨p, s⟩)).alloc (boxW ⟨p, s⟩)).drew) = .ok v' w' ∧
      w'.ownsRow d.B wrT 2 v' (R.cache.length + 1) ((R.cache ++ [Wr.mk p s]).flatMap wC) ∧ w1.grownBy w' d.cv.ownBlock ∧ (∀ k, v'.ownBlock = some k → d.cv.ownBlock = some k ∨ w1.heap.size ≤ k) ∧ Lies w' w1.heap.size #[.int .i64 p, .string s] wrT) := by
    have h2 : Mem (((w1.alloc (boxW ⟨p, s⟩)).alloc (boxW ⟨p, s⟩)).drew) d R := ((HM1.out.alloc _).alloc _).drew
    have hB : d.B ≤ w1.heap.size := by
      have := HM1.out.own_lt (k := d.pb) (.inl rfl)
      omega
    have hL : Lies (((w1.alloc (boxW ⟨p, s⟩)).alloc (boxW ⟨p, s⟩)).drew) (w1.heap.size + 1) #[.int .i64 p, .string s] wrT := new_at (w := w1.alloc (boxW ⟨p, s⟩)) (by simp)
    have hL0 : Lies (((w1.alloc (boxW ⟨p, s⟩)).alloc (boxW ⟨p, s⟩)).drew) w1.heap.size #[.int .i64 p, .string s] wrT := (Lies.new w1 _ _).same (Below.heap_alloc _ _ _ (by simp))
    obtain ⟨v', w', hr, h3, h4, h5⟩ := append_wr _ d.B (w1.heap.size + 1) d.cv R.cache ⟨p, s⟩ hL h2.cache (by omega) (by simp; omega)
    refine ⟨v', w', hr, by simpa using h3, (((World.grownBy_alloc w1 _ _).trans (World.grownBy_alloc _ (boxW ⟨p, s⟩) _))).trans ⟨h4.os, h4.tape, h4.output, h4.size, h4.block⟩, fun k hk => ?_, hL0.same (h4.block _ hL0.lt fun e => ?_)⟩
    · rcases h5 k hk with e | e
      · exact .inl e
      · refine .inr ?_
        simp at e
        omega
    · have := (HM1.out.cache.lt _ e.symm).2
      omega
  obtain ⟨v2, w2, hr2, ho2, hg2, hn2, hL2⟩ := HA.out
  obtain ⟨a2, c2, rfl⟩ := owns_slice ho2
  have HR := Lib.hid hr2
  have HG := Lib.hid (And.intro ho2 (And.intro hg2 (And.intro hn2 hL2)))
  have hc3 := HM1.out.cells.2.2.2.1
  have hf3 := HM1.out.free 3
  have hlt := HM1.out.self.lt
  have hfr : Fr (own d) w1 w2 := (Fr.refl _ w1).grown hg2 fun k hk _ => .inr (.inr (.inr hk))
  have hD : Fr (fun k => d.cv.ownBlock = some k) w1 w2 := (Fr.refl _ w1).grown hg2 fun k hk _ => hk
  have hM2 : Lies w2 d.pb (cellsD d R) diskT ∧ Lies w2 d.db (strs R.dur) strT ∧ Lies w2 d.cb (strs R.con) strT :=
    ⟨HM1.out.self.same (hD.block _ hlt fun e => (HM1.out.cv _ e).1 rfl), HM1.out.dur.same (hD.block _ HM1.out.dur.lt fun e => (HM1.out.cv _ e).2.1 rfl), HM1.out.con.same (hD.block _ HM1.out.con.lt fun e => (HM1.out.cv _ e).2.2 rfl)⟩
  have hcv : ∀ k, (Value.slice a2 (R.cache.length + 1) c2).ownBlock = some k → k ≠ d.pb ∧ k ≠ d.db ∧ k ≠ d.cb := fun k hk => by
    rcases hn2 k hk with e | e
    · exact HM1.out.cv k e
    · have h1 := HM1.out.lts
      omega
  have hc32 : w2.cell? ⟨d.pb, 3, none⟩ = some d.cv := hM2.1.cell 3
  have hf32 : w2.frozen? ⟨d.pb, 3, none⟩ = false := hM2.1.free 3
  have HD : Hid (Mem (w2.setCell ⟨d.pb, 3, none⟩ (.slice a2 (R.cache.length + 1) c2)) { d with cv := .slice a2 (R.cache.length + 1) c2 } { R with cache := R.cache ++ [Wr.mk p s] } ∧
      Step w d (w2.setCell ⟨d.pb, 3, none⟩ (.slice a2 (R.cache.length + 1) c2)) { d with cv := .slice a2 (R.cache.length + 1) c2 } ∧ Lies (w2.setCell ⟨d.pb, 3, none⟩ (.slice a2 (R.cache.length + 1) c2)) w1.heap.size #[.int .i64 p, .string s] wrT) := by
    refine ⟨⟨hM2.1.set 3 _, hM2.2.1.other _ (fun e => HM1.out.ne.1 e.symm), hM2.2.2.other _ (fun e => HM1.out.ne.2.1 e.symm), ?_, HM1.out.ne, hcv, HM1.out.low⟩, ⟨?_, rfl, rfl, rfl, rfl, fun k hk => ?_⟩, hL2.other _ (by omega)⟩
    · have e : (R.cache ++ [Wr.mk p s]).length = R.cache.length + 1 := by simp
      show World.ownsRow _ _ _ _ _ (R.cache ++ [Wr.mk p s]).length _
      rw [e]
      exact Fr.owns (F := fun k => k = d.pb) ho2 (Fr.one w2 _ _ _) fun k hk e => (hcv k hk).1 e
    · exact ((Fr.of_below HB1.out).trans hfr fun _ _ e => e).pbAt _ _
    · rcases hn2 k hk with e | e
      · exact .inl e
      · exact .inr (Nat.le_trans HB1.out.size e)
  clear HA hr2 ho2 hg2 hn2 hL2 hb1 hM2 hcv hD hfr
  have hfa := fun o => (HM1.out.alloc o).free 3
  have hfb := fun o o' => ((HM1.out.alloc o).alloc o').free 3
  go_wp2_with fail
  go_region_law ((refine step_append_run (by rfl) _ _ _ (by rfl) _ _ _ (by rfl) (by rfl) HR.out ?_))
  all_goals
    generalize World.setCell w2 _ _ = w3 at HD ⊢
    obtain ⟨c0, c1, c2, c3, c4, c5, c6, c7⟩ := HD.out.1.cells
    have k1 := HD.out.2.2.cell 1
    have k0 := HD.out.1.conAt (i := p) hp
    have kf := HD.out.1.con.free p
    have HZ : Hid (∀ n, Mem ((w3.drewN n).setCell ⟨d.cb, p, none⟩ (.string s)) _ _ ∧ Step w d ((w3.drewN n).setCell ⟨d.cb, p, none⟩ (.string s)) _) := fun n =>
      ⟨(HD.out.1.drewN n).setCon p s, HD.out.2.1.put (((Fr.refl _ w3).drewN n).cbAt p (.string s))⟩
    clear hc3 hf3 hc32 hf32 hfa hfb HD
    go_wp2_with fail
    refine wp_region_drawn_tail 8 (by kernel_rfl) (by kernel_rfl) ?_
    simp only [List.take_succ_cons, List.take_zero, List.drop_succ_cons, List.drop_zero]
    repeat (go_big_quiet_step (fail))
    refine wpQuiet_nil ?_
    rintro _ ⟨nq, rfl⟩
    go_wp2
    go_end0
    exact ⟨rfl, _, (HZ.out nq).1, (HZ.out nq).2⟩
end
end Go.Proofs.YtghpohiinnallaaGreatDoor.Disk

/-
  Walks of the program's disk, fifth part: chosen.
-/
namespace Go.Proofs.YtghpohiinnallaaGreatDoor.Disk
open Go Go.RowKit
open Go.Proofs.YtghpohiinnallaaGreatDoor.Sha (wp_region_drawn_tail wp_region_kept_tail quiet_load_row)

/-- The value is a slice that reads as these bools. -/
def ReadsK (w : World) (v : Value) (ks : List Bool) : Prop :=
  (∃ a cap, v = .slice a 0 cap ∧ ks = []) ∨
  (0 < ks.length ∧ ∃ b off cap, v = .slice (some ⟨b, off, none⟩) ks.length cap ∧ b < w.heap.size ∧ ∀ i, i < ks.length → w.cell? ⟨b, off + i, none⟩ = some (.bool (ks.getD i false)))
theorem ReadsK.below {w w' : World} {v : Value} {ks : List Bool} (h : ReadsK w v ks) (hb : Below w.heap.size w w') : ReadsK w' v ks := by
  rcases h with h | ⟨h0, b, off, cap, rfl, h1, h2⟩
  · exact .inl h
  · refine .inr ⟨h0, b, off, cap, rfl, by have := hb.size; omega, fun i hi => ?_⟩
    rw [hb.cell (p := ⟨b, off + i, none⟩) h1]
    exact h2 i hi
theorem ReadsK.keep {B : Nat} {w w' : World} {v : Value} {ks : List Bool} (h : ReadsK w v ks) (hb : Below B w w') (hB : 0 < ks.length → ∀ k, v.ownBlock = some k → k < B) : ReadsK w' v ks := by
  rcases h with h | ⟨h0, b, off, cap, rfl, h1, h2⟩
  · exact .inl h
  · refine .inr ⟨h0, b, off, cap, rfl, by have := hb.size; omega, fun i hi => ?_⟩
    rw [hb.cell (p := ⟨b, off + i, none⟩) (hB h0 b rfl)]
    exact h2 i hi
theorem ReadsK.shape {w : World} {v : Value} {ks : List Bool} (h : ReadsK w v ks) : ∃ a cap, v = .slice a ks.length cap ∧ (0 < ks.length → ∃ b off, a = some ⟨b, off, none⟩ ∧ b < w.heap.size ∧ ∀ i, i < ks.length → w.cell? ⟨b, off + i, none⟩ = some (.bool (ks.getD i false))) := by
  rcases h with ⟨a, cap, rfl, rfl⟩ | ⟨h0, b, off, cap, rfl, h1, h2⟩
  · exact ⟨a, cap, rfl, fun h => by simp at h⟩
  · exact ⟨_, cap, rfl, fun _ => ⟨b, off, rfl, h1, h2⟩⟩

theorem wpList_append_run {P : Program} {w w' : World} {ops : Array Oper} {rest : List Oper} {o : Oper} {a : Act} {Q : Exit → Act → World → Prop} (hg : o.guard = none) (s x : Operand) (t : TypeId)
    (ho : o.op = .call { callee := .builtin .append, args := #[s, x], argTypes := #[t, t] }) (u v r : Value) (hs : a.eval s = u) (hx : a.eval x = v)
    (hrun : (Builtin.append_ #[t, t] o.type #[u, v]).run P w = .ok r w') (h : wpList P ops Q rest (a.put o.dst r) w') : wpList P ops Q (o :: rest) a w := by
  refine wpList_plain hg fun K hK => ?_
  unfold Oper.wp execOp
  simp only [ho, resolve, invoke, builtin, Sem.run_bind, Sem.run_pure, Result.andThen_ok, List.map_toArray, List.map_cons, List.map_nil, hs, hx, hrun]
  exact hK _ _ h
section
variable {w : World}
set_option maxRecDepth 100000 in
set_option maxHeartbeats 4000000 in
theorem chosen_any (w : World) (B : Nat) (cv kv : Value) (ws : List Wr) (ks : List Bool) (ho : w.ownsRow B wrT 2 cv ws.length (ws.flatMap wC)) (hk : ReadsK w kv ks) (hl : ws.length ≤ 1000000) (hkl : ks.length ≤ 9223372036854775807) :
    Calls Tryz.prog 55 #[cv, kv] w fun e w' => ∃ rv, e = .returned rv ∧ w'.ownsRow w.heap.size wrT 2 rv (chosen ws ks).length ((chosen ws ks).flatMap wC) ∧ Below w.heap.size w w' := by
  have HO := Lib.hid ho
  obtain ⟨ca, cc, rfl⟩ := owns_slice ho
  obtain ⟨ka, kc, rfl, hks⟩ := hk.shape
  have HK := Lib.hid hks
  clear ho hk hks
  go_enter Tryz.func55, Tryz.ntmps55
  go_wp2_with fail
  go_loopw [5, 10] (fun v i wr => ∃ (k : Nat) (a : Option Addr) (c : Nat), k ≤ ws.length ∧ i = .int .i64 k ∧ v = .slice a (chosen (ws.take k) ks).length c ∧ wr.ownsRow w.heap.size wrT 2 (.slice a (chosen (ws.take k) ks).length c) (chosen (ws.take k) ks).length ((chosen (ws.take k) ks).flatMap wC) ∧ Below w.heap.size w wr) (fun _ i _ => ws.length - (intOf i).toNat)
  case atStart => exact ⟨0, none, 0, Nat.zero_le _, rfl, by rw [List.take_zero, chosen_nil]; rfl, by rw [List.take_zero, chosen_nil]; exact World.ownsRow_nil _ _ _ _, Below.refl _ _⟩
  case round =>
    obtain ⟨k, a, c, hk, rfl, rfl, hO, hB⟩ := hrel
    have HH := Lib.hid (And.intro hO hB)
    clear hO hB
    by_cases hlt : k < ws.length
    · obtain ⟨x, hx⟩ : ∃ x, ws[k]? = some x := ⟨ws[k], List.getElem?_eq_getElem hlt⟩
      have ho2 := Fr.owns (F := fun j => w.heap.size ≤ j) HO.out ⟨HH.out.2.os, HH.out.2.tape, HH.out.2.output, HH.out.2.size, fun j _ h => HH.out.2.block j (by omega)⟩ (fun j hj => by have := (HO.out.lt j hj).2; omega)
      obtain ⟨g, c', hv, hgb, k0, k1, hr⟩ := owns_write ho2 hx
      obtain ⟨rfl, -, rfl⟩ := Value.slice.inj hv
      have hgs : g < wr.heap.size := (ho2.lt g rfl).2
      have HT := Lib.hid (chosen_take (ks := ks) hx)
      clear hv hgb hr ho2
      by_cases hkk : k < ks.length
      · obtain ⟨b, off, rfl, hb, hkc⟩ := HK.out (by omega)
        have kk := hkc k hkk
        rw [← HH.out.2.cell (p := ⟨b, off + k, none⟩) hb] at kk
        have hbs := Nat.lt_of_lt_of_le hb HH.out.2.size
        clear hkc hb
        cases hbk : ks.getD k false
        · rw [hbk] at kk
          have HN := Lib.hid (HT.out.trans (by rw [hbk]; simp : _ = chosen (ws.take k) ks))
          clear hbk HT
          go_wp2_with fail
          go_roundw
          case rel =>
            refine ⟨k + 1, a, c, by omega, by simp, by rw [HN.out], ?_⟩
            rw [HN.out]
            exact ⟨HH.out.1.alloc _, HH.out.2.alloc HH.out.2.size _⟩
          case measure => simp [intOf]; omega
        · rw [hbk] at kk
          have HN := Lib.hid (HT.out.trans (by rw [hbk]; rfl : _ = chosen (ws.take k) ks ++ [x]))
          clear hbk HT
          have hcl := chosen_length (ws.take k) ks
          rw [List.length_take] at hcl
          have hHs := HH.out.2.size
          obtain ⟨v', w', hr, h3, h4, h5⟩ := append_wr ((wr.alloc (boxW x)).alloc (boxW x)) w.heap.size (wr.heap.size + 1) _ (chosen (ws.take k) ks) x (new_at (by simp)) ((HH.out.1.alloc _).alloc _) (by omega) (by simp; omega)
          obtain ⟨a', c', rfl⟩ := owns_slice h3
          have HR := Lib.hid hr
          have HW := Lib.hid (And.intro h3 (((HH.out.2.alloc hHs (boxW x)).alloc (by simp; omega) (boxW x)).grown h4 (by simp; omega) (fun j hj => (HH.out.1.lt j hj).1)))
          clear hr h3 h4 h5 hcl hHs
          go_wp2_with (at_builtin; refine wpList_append_run rfl _ _ 96 rfl _ _ _ rfl rfl HR.out ?_)
          go_roundw
          case rel =>
            refine ⟨k + 1, a', c', by omega, by simp, by rw [HN.out, List.length_append]; rfl, ?_⟩
            rw [HN.out]
            exact HW.out
          case measure => simp [intOf]; omega
      · have HN := Lib.hid (HT.out.trans (by rw [List.getD_eq_getElem?_getD, List.getElem?_eq_none (by omega)]; simp : _ = chosen (ws.take k) ks))
        clear HT
        go_wp2_with fail
        go_roundw
        case rel =>
          refine ⟨k + 1, a, c, by omega, by simp, by rw [HN.out], ?_⟩
          rw [HN.out]
          exact ⟨HH.out.1.alloc _, HH.out.2.alloc HH.out.2.size _⟩
        case measure => simp [intOf]; omega
    · go_wp2_with fail
      go_ret
      have e : chosen (ws.take k) ks = chosen ws ks := by rw [List.take_of_length_le (by omega)]
      refine ⟨_, rfl, ?_⟩
      rw [← e]
      exact HH.out
end
end Go.Proofs.YtghpohiinnallaaGreatDoor.Disk

/-
  Walks of the program's disk, sixth part: empty.
-/
namespace Go.Proofs.YtghpohiinnallaaGreatDoor.Disk
open Go Go.RowKit
open Go.Proofs.YtghpohiinnallaaGreatDoor.Sha (wp_region_drawn_tail wp_region_kept_tail quiet_load_row)

section
variable {w : World} {d : Dk} {R : Raw}
/-- A disk in the midst of a loop of its own. -/
structure Go1 (w : World) (d : Dk) (R : Raw) (wr : World) : Prop where
  mem : Mem wr d R
  step : Step w d wr d
theorem nil_owns (w : World) (B : Nat) : w.ownsRow B wrT 2 (.slice none 0 0) ([] : List Wr).length (([] : List Wr).flatMap wC) := World.ownsRow_nil _ _ _ _
theorem Mem.setNil (h : Mem w d R) : Mem (w.setCell ⟨d.pb, 3, none⟩ (.slice none 0 0)) { d with cv := .slice none 0 0 } { R with cache := [] } :=
  h.setCache _ [] (nil_owns w d.B) fun k hk => by simp [Value.ownBlock] at hk
set_option maxRecDepth 100000 in
set_option maxHeartbeats 4000000 in
theorem empty_any (h : Mem w d R) (hfit : ∀ x ∈ R.cache, x.p < R.dur.length) (hlen : R.con.length = R.dur.length) (_hf : R.dur.length ≤ 4096) (hl : R.cache.length ≤ 1000000) :
    Calls Tryz.prog 57 #[ptr d.pb] w fun e w' => e = .returned (.tuple #[]) ∧ Mem w' { d with cv := .slice none 0 0 } { R with cache := [], con := fresh R.con R.dur R.cache } ∧ Step w d w' { d with cv := .slice none 0 0 } := by
  have HH := Lib.hid h
  have HF := Lib.hid hfit
  obtain ⟨c0, c1, c2, c3, c4, c5, c6, c7⟩ := h.cells
  obtain ⟨ca, cc, hcv⟩ := h.shape
  have HCV := Lib.hid hcv
  rw [hcv] at c3
  clear h hfit hcv
  go_enter Tryz.func57, Tryz.ntmps57
  go_wp2_with fail
  go_loopw [9] (fun i wr => ∃ k : Nat, k ≤ R.cache.length ∧ i = .int .i64 k ∧ Mem wr d { R with con := fresh R.con R.dur (R.cache.take k) } ∧ Step w d wr d) (fun i _ => R.cache.length - (intOf i).toNat)
  case atStart => exact ⟨0, Nat.zero_le _, rfl, HH.out, Step.refl _ _⟩
  case round =>
    obtain ⟨k, hk, rfl, hM, hS⟩ := hrel
    have HM := Lib.hid (And.intro hM hS)
    clear hM hS c0 c1 c2 c3 c4 c5 c6 c7
    by_cases hlt : k < R.cache.length
    · obtain ⟨x, hx⟩ : ∃ x, R.cache[k]? = some x := ⟨R.cache[k], List.getElem?_eq_getElem hlt⟩
      obtain ⟨g, c', hv, hgb, k0, k1, hr⟩ := owns_write HM.out.1.cache hx
      have hxp := HF.out x (List.mem_of_getElem? hx)
      rw [HCV.out] at hv hgb
      obtain ⟨rfl, -, rfl⟩ := Value.slice.inj hv
      have hgs : g < wr.heap.size := (HM.out.1.cache.lt g (by rw [HCV.out]; rfl)).2
      have HT := Lib.hid (fresh_take (C := R.con) (D := R.dur) hx)
      clear hv hgb hr hx
      obtain ⟨c0, c1, c2, c3, c4, c5, c6, c7⟩ := HM.out.1.cells
      obtain ⟨l0, l1, l2⟩ := HM.out.1.lts
      have hfl : (fresh R.con R.dur (R.cache.take k)).length = R.dur.length := by rw [fresh_length, hlen]
      have kd := HM.out.1.durAt (i := x.p) hxp
      have kc := HM.out.1.conAt (i := x.p) (by show x.p < (fresh R.con R.dur (R.cache.take k)).length; omega)
      have hfa := fun o => ((HM.out.1.alloc o).con).free x.p
      have hfa' := (HM.out.1.con).free x.p
      rw [HCV.out] at c3
      rw [show ({ R with con := fresh R.con R.dur (R.cache.take k) } : Raw).con = fresh R.con R.dur (R.cache.take k) from rfl, hfl] at c2
      have HZ : Hid (∀ n, Mem (((wr.alloc (boxW x)).drewN n).setCell ⟨d.cb, x.p, none⟩ (.string (at0 R.dur x.p))) d { R with con := fresh R.con R.dur (R.cache.take (k + 1)) } ∧ Step w d (((wr.alloc (boxW x)).drewN n).setCell ⟨d.cb, x.p, none⟩ (.string (at0 R.dur x.p))) d) := fun n => by
        have h1 := ((HM.out.1.alloc (boxW x)).drewN n).setCon x.p (at0 R.dur x.p)
        rw [HT.out]
        exact ⟨h1, HM.out.2.put ((((Fr.refl _ wr).alloc _).drewN n).cbAt _ _)⟩
      clear hfl HT
      go_wp2_with fail
      refine wp_region_drawn_tail 15 (by kernel_rfl) (by kernel_rfl) ?_
      simp only [List.take_succ_cons, List.take_zero, List.drop_succ_cons, List.drop_zero]
      repeat (go_big_quiet_step (fail))
      refine wpQuiet_nil ?_
      rintro _ ⟨nq, rfl⟩
      go_wp2
      go_roundw
      case rel => exact ⟨k + 1, by omega, by simp, (HZ.out nq).1, (HZ.out nq).2⟩
      case measure => simp [intOf]; omega
    · obtain ⟨c0, c1, c2, c3, c4, c5, c6, c7⟩ := HM.out.1.cells
      have f3 := HM.out.1.free 3
      rw [HCV.out] at c3
      have HZ : Hid (Mem (wr.setCell ⟨d.pb, 3, none⟩ (.slice none 0 0)) { d with cv := .slice none 0 0 } { R with cache := [], con := fresh R.con R.dur R.cache } ∧ Step w d (wr.setCell ⟨d.pb, 3, none⟩ (.slice none 0 0)) { d with cv := .slice none 0 0 }) := by
        have e : R.cache.take k = R.cache := List.take_of_length_le (by omega)
        have h1 := HM.out.1.setNil
        rw [e] at h1
        exact ⟨h1, (HM.out.2.fr.pbAt 3 _), rfl, rfl, rfl, rfl, fun j hj => by simp [Value.ownBlock] at hj⟩
      go_wp2_with fail
      go_end0
      exact ⟨rfl, HZ.out⟩
end
end Go.Proofs.YtghpohiinnallaaGreatDoor.Disk
