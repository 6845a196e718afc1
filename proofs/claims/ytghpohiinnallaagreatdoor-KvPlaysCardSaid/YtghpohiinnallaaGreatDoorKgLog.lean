/-
  A log on a disk in plain words: its frames, its halves, what a crash leaves; and how it lies in memory.
-/
import Derived.Test.YtghpohiinnallaaGreatDoorKgDiskB
import Derived.Test.YtghpohiinnallaaGreatDoorKgNets
import Derived.Test.YtghpohiinnallaaGreatDoorKgCrc
import Derived.Maps.AppendAt
import Derived.Lib.UnsafeStr

/-
  Plain facts on a log: the bytes of a disk by their addresses, a text laid over them, with a power failure at any point. No program is named here.
-/
namespace Go.Proofs.YtghpohiinnallaaGreatDoor.Wal
open Go
open Go.Proofs.YtghpohiinnallaaGreatDoor.Disk (St Wr landL con at0 byt Ok Fit flushS opS crashS chosen crash_old Old at0_set_same at0_set_other)

/-- The byte at an address of a disk. -/
def ab (z : Nat) (L : List ByteArray) (g : Nat) : Option UInt8 := byt (at0 L (g / z)) (g % z)
theorem addr_div {i z k : Nat} (hk : k < z) : (i * z + k) / z = i := by
  rw [Nat.mul_comm, Nat.mul_add_div (by omega), Nat.div_eq_of_lt hk, Nat.add_zero]
theorem addr_mod {i z k : Nat} (hk : k < z) : (i * z + k) % z = k := by
  rw [Nat.mul_comm, Nat.mul_add_mod, Nat.mod_eq_of_lt hk]
theorem ab_at {z i k : Nat} (L : List ByteArray) (hk : k < z) : ab z L (i * z + k) = byt (at0 L i) k := by
  unfold ab
  rw [addr_div hk, addr_mod hk]
theorem addr_split {z : Nat} (hz : 0 < z) (g : Nat) : ∃ i k, k < z ∧ g = i * z + k := ⟨g / z, g % z, Nat.mod_lt _ hz, by rw [Nat.mul_comm]; exact (Nat.div_add_mod g z).symm⟩
theorem addr_lt {i k z n : Nat} (hi : i < n) (hk : k < z) : i * z + k < n * z := by
  have := Nat.mul_le_mul_right z (show i + 1 ≤ n by omega)
  rw [Nat.succ_mul] at this
  omega
theorem addr_of {i k z n : Nat} (h : i * z + k < n * z) : i < n := by
  rcases Nat.lt_or_ge i n with h1 | h1
  · exact h1
  · have := Nat.mul_le_mul_right z h1
    omega

/-- What stands there with a text laid from A on. -/
def new (z : Nat) (L : List ByteArray) (A : Nat) (s : List UInt8) (g : Nat) : Option UInt8 := if A ≤ g ∧ g < A + s.length then s[g - A]? else ab z L g
/-- A write of one that is being laid. -/
def LW (z : Nat) (L : List ByteArray) (A : Nat) (s : List UInt8) (x : Wr) : Prop := ∀ k, k < z → byt x.s k = new z L A s (x.p * z + k)

/-- The power is off while a text is being laid. -/
structure Pow (L : List ByteArray) (A : Nat) (s : List UInt8) (S : St) : Prop where
  off : S.off = true
  dur : S.dur = L
  ws : ∀ x ∈ S.cache, LW S.z L A s x
/-- .. then each byte is old or new behind any crash. -/
theorem Pow.crash {L : List ByteArray} {A : Nat} {s : List UInt8} {S : St} (h : Pow L A s S) (ok : Ok S) (keep : List Bool) (torn : Int) {g : Nat} (hg : g < S.dur.length * S.z) :
    ab S.z (crashS S keep torn).dur g = ab S.z L g ∨ ab S.z (crashS S keep torn).dur g = new S.z L A s g := by
  have hz : 0 < S.z := by have := ok.low; omega
  obtain ⟨i, k, hk, rfl⟩ := addr_split hz g
  have hi := addr_of hg
  rw [ab_at _ hk, ab_at _ hk]
  rcases crash_old ok keep torn hi hk with h1 | ⟨w, hw, hp, h1⟩
  · rw [h.dur] at h1
    exact .inl h1
  · refine .inr ?_
    rw [← h1, h.ws w hw k hk, hp]

/-! A text is being laid: so far that the sectors ahead of sector i are written. -/
structure Mid (S0 : St) (A : Nat) (s : List UInt8) (S : St) (i : Nat) : Prop where
  z : S.z = S0.z
  dur : S.dur = S0.dur
  full : S.full = S0.full
  off : S.off = false
  left : S0.left = 0 → S.left = 0
  ws : ∀ x ∈ S.cache, LW S0.z S0.dur A s x
  cn : ∀ g, g < S0.dur.length * S0.z → ab S0.z (con S) g = if g < i * S0.z then new S0.z S0.dur A s g else ab S0.z S0.dur g
  fresh : S0.full = true → S.cache = []
  ops : S.ops ≤ S0.ops + i
/-- Nothing waits to be written, and there is power. -/
structure Clean (S : St) : Prop where
  cache : S.cache = []
  off : S.off = false
theorem Clean.con {S : St} (h : Clean S) : con S = S.dur := by
  show landL S.dur S.cache = S.dur
  rw [h.cache]
  rfl
theorem Mid.start {S : St} (h : Clean S) {A i : Nat} (s : List UInt8) (hi : i * S.z ≤ A) : Mid S A s S i := by
  refine ⟨rfl, rfl, rfl, h.off, id, fun x hx => (by rw [h.cache] at hx; cases hx), fun g _ => ?_, fun _ => h.cache, Nat.le_add_right _ _⟩
  rw [h.con]
  split
  · rw [new, if_neg (by omega)]
  · rfl
/-- What a sector that was read becomes. -/
theorem Mid.read {S0 S : St} {A i f : Nat} {s : List UInt8} (h : Mid S0 A s S i) (hf : i ≤ f) (hn : f < S0.dur.length) {k : Nat} (hk : k < S0.z) : byt (at0 (Disk.con S) f) k = byt (at0 S0.dur f) k := by
  have := h.cn (f * S0.z + k) (addr_lt hn hk)
  rw [ab_at _ hk, ab_at _ hk, if_neg] at this
  · exact this
  · have := Nat.mul_le_mul_right S0.z hf
    omega
/-- A sector more. -/
theorem Mid.next {S0 S : St} {A i : Nat} {s : List UInt8} (h : Mid S0 A s S i) (hz : 0 < S0.z) (hn : i < S0.dur.length) (hfull : S0.full = false) (hl : S.left ≠ 1) (x : ByteArray) (_hx : x.size = S0.z)
    (hb : ∀ k, k < S0.z → byt x k = new S0.z S0.dur A s (i * S0.z + k)) : Mid S0 A s { opS S with cache := S.cache ++ [⟨i, x⟩] } (i + 1) := by
  refine ⟨h.z, h.dur, h.full, ?_, fun e => ?_, fun y hy => ?_, fun g hg => ?_, fun e => (by rw [hfull] at e; cases e), ?_⟩
  · show decide (S.left = 1) = false
    simpa using hl
  · show S.left - 1 = 0
    rw [h.left e]
  · rcases List.mem_append.1 hy with hy | hy
    · exact h.ws y hy
    · obtain rfl := List.mem_singleton.1 hy
      exact hb
  · show ab S0.z (landL S.dur (S.cache ++ [⟨i, x⟩])) g = _
    rw [Disk.landL_snoc]
    show ab S0.z ((Disk.con S).set i x) g = _
    have hlen : (Disk.con S).length = S0.dur.length := by
      show (landL S.dur S.cache).length = _
      rw [Disk.landL_length, h.dur]
    obtain ⟨j, k, hk, rfl⟩ := addr_split hz g
    have hj := addr_of hg
    have hc := h.cn (j * S0.z + k) hg
    rw [ab_at _ hk] at hc ⊢
    by_cases e : i = j
    · subst e
      rw [at0_set_same (by omega), hb k hk, if_pos (addr_lt (Nat.lt_succ_self _) hk)]
    · rw [at0_set_other e, hc]
      by_cases h1 : j * S0.z + k < i * S0.z
      · rw [if_pos h1, if_pos]
        have := addr_of h1
        exact addr_lt (by omega) hk
      · rw [if_neg h1, if_neg]
        intro h2
        have := addr_of h2
        have : j < i := by omega
        exact h1 (addr_lt this hk)
  · show S.ops + 1 ≤ _
    have := h.ops
    omega
/-- The power goes at it. -/
theorem Mid.power {S0 S : St} {A i : Nat} {s : List UInt8} (h : Mid S0 A s S i) (hl : S.left = 1) (x : ByteArray) (hb : ∀ k, k < S0.z → byt x k = new S0.z S0.dur A s (i * S0.z + k)) :
    Pow S0.dur A s { opS S with cache := S.cache ++ [⟨i, x⟩] } := by
  refine ⟨by simpa [opS] using hl, h.dur, fun y hy => ?_⟩
  show LW S.z S0.dur A s y
  rw [h.z]
  rcases List.mem_append.1 hy with hy | hy
  · exact h.ws y hy
  · obtain rfl := List.mem_singleton.1 hy
    exact hb
theorem Mid.power2 {S0 S : St} {A i : Nat} {s : List UInt8} (h : Mid S0 A s S i) (hl : S.left = 1) : Pow S0.dur A s (opS S) := by
  refine ⟨by simpa [opS] using hl, h.dur, fun y hy => ?_⟩
  show LW S.z S0.dur A s y
  rw [h.z]
  exact h.ws y hy

/-- What a call on a disk leaves of it. -/
structure Kin (S0 S : St) (k : Nat) : Prop where
  z : S.z = S0.z
  len : S.dur.length = S0.dur.length
  full : S.full = S0.full
  left : S0.left = 0 → S.left = 0
  ops : S.ops ≤ S0.ops + k
theorem Kin.refl (S : St) (k : Nat) : Kin S S k := ⟨rfl, rfl, rfl, id, Nat.le_add_right _ _⟩
theorem Kin.trans {a b c : St} {j k : Nat} (h : Kin a b j) (g : Kin b c k) : Kin a c (j + k) :=
  ⟨g.z.trans h.z, g.len.trans h.len, g.full.trans h.full, fun e => g.left (h.left e), by have := h.ops; have := g.ops; omega⟩
theorem Kin.mono {a b : St} {j k : Nat} (h : Kin a b j) (hk : j ≤ k) : Kin a b k := ⟨h.z, h.len, h.full, h.left, by have := h.ops; omega⟩
theorem Mid.kin {S0 S : St} {A i : Nat} {s : List UInt8} (h : Mid S0 A s S i) : Kin S0 S i := ⟨h.z, by rw [h.dur], h.full, h.left, h.ops⟩
theorem Kin.op {S0 S : St} {k : Nat} (h : Kin S0 S k) (C : List Wr) : Kin S0 { opS S with cache := C } (k + 1) :=
  ⟨h.z, h.len, h.full, fun e => by show S.left - 1 = 0; rw [h.left e], by show S.ops + 1 ≤ _; have := h.ops; omega⟩

/-- How the laying of a text may end. -/
inductive Laid (S0 : St) (A : Nat) (s : List UInt8) (S : St) : Int → Prop
  | done (hf : S0.full = false) (hc : Clean S) (hb : ∀ g, g < S0.dur.length * S0.z → ab S0.z S.dur g = new S0.z S0.dur A s g) : Laid S0 A s S 0
  | full (hf : S0.full = true) (hc : Clean S) (hd : S.dur = S0.dur) : Laid S0 A s S 81
  | power (hl : S0.left ≠ 0) (hp : Pow S0.dur A s S) : Laid S0 A s S 80
theorem Laid.code {S0 S : St} {A : Nat} {s : List UInt8} {c : Int} (h : Laid S0 A s S c) : c = 0 ∨ c = 81 ∨ c = 80 := by
  cases h
  · exact .inl rfl
  · exact .inr (.inl rfl)
  · exact .inr (.inr rfl)
/-- The flush at the end. -/
theorem Mid.flush_ok {S0 S : St} {A i : Nat} {s : List UInt8} (h : Mid S0 A s S i) (_hz : 0 < S0.z) (hA : A + s.length ≤ i * S0.z) (hfull : S0.full = false) (hl : S.left ≠ 1) :
    Laid S0 A s { opS S with dur := Disk.con S, cache := [] } 0 ∧ Kin S0 { opS S with dur := Disk.con S, cache := [] } (i + 1) := by
  refine ⟨.done hfull ⟨rfl, by simpa [opS] using hl⟩ fun g hg => ?_, ?_⟩
  · show ab S0.z (Disk.con S) g = _
    rw [h.cn g hg]
    split
    · rfl
    · rw [new, if_neg (by omega)]
  · refine ⟨h.z, ?_, h.full, fun e => by show S.left - 1 = 0; rw [h.left e], by show S.ops + 1 ≤ _; have := h.ops; omega⟩
    show (landL S.dur S.cache).length = _
    rw [Disk.landL_length, h.dur]
theorem Mid.flush_cut {S0 S : St} {A i : Nat} {s : List UInt8} (h : Mid S0 A s S i) (hl : S.left = 1) : Laid S0 A s (opS S) 80 ∧ Kin S0 (opS S) (i + 1) := by
  refine ⟨.power (fun e => ?_) (h.power2 hl), h.kin.op S.cache⟩
  rw [h.left e] at hl
  cases hl
theorem Mid.put_cut {S0 S : St} {A i : Nat} {s : List UInt8} (h : Mid S0 A s S i) (hl : S.left = 1) (x : ByteArray) (hb : ∀ k, k < S0.z → byt x k = new S0.z S0.dur A s (i * S0.z + k)) :
    Laid S0 A s { opS S with cache := S.cache ++ [⟨i, x⟩] } 80 ∧ Kin S0 { opS S with cache := S.cache ++ [⟨i, x⟩] } (i + 1) := by
  refine ⟨.power (fun e => ?_) (h.power hl x hb), h.kin.op _⟩
  rw [h.left e] at hl
  cases hl
theorem Mid.put_full {S0 S : St} {A i : Nat} {s : List UInt8} (h : Mid S0 A s S i) (hl : S.left ≠ 1) (hf : S.full = true) : Laid S0 A s (opS S) 81 ∧ Kin S0 (opS S) (i + 1) := by
  have hf0 : S0.full = true := by rw [← h.full]; exact hf
  exact ⟨.full hf0 ⟨h.fresh hf0, by simpa [opS] using hl⟩ h.dur, h.kin.op S.cache⟩
end Go.Proofs.YtghpohiinnallaaGreatDoor.Wal

/-
  Plain facts on a log: its frames, the half that is current, what a Sync and a Reset make of them, wherever the power goes. No program is named here.
-/
namespace Go.Proofs.YtghpohiinnallaaGreatDoor.Wal
open Go
open Go.Proofs.YtghpohiinnallaaGreatDoor.Disk (St Wr at0 byt Ok Fit crashS)
open Go.Proofs.YtghpohiinnallaaGreatDoor.Nets (bl)

abbrev Grp := List ByteArray
def payS (g : Grp) : List UInt8 := Nets.rowS (g.map bl)
def frameS (c : UInt8) (g : Grp) : List UInt8 := c :: (Crc.bytesS (payS g).length ++ (Crc.bytesS (Crc.sumS (payS g)) ++ payS g))
def framesS (gs : List Grp) : List UInt8 := gs.flatMap (frameS 1)
theorem frame_len (c : UInt8) (g : Grp) : (frameS c g).length = 9 + (payS g).length := by
  unfold frameS
  rw [List.length_cons, List.length_append, List.length_append, Crc.bytes_len, Crc.bytes_len]
  omega
theorem frames_snoc (gs : List Grp) (g : Grp) : framesS (gs ++ [g]) = framesS gs ++ frameS 1 g := by
  unfold framesS
  rw [List.flatMap_append, List.flatMap_singleton]
theorem frames_one (g : Grp) : framesS [g] = frameS 1 g := by
  unfold framesS
  rw [List.flatMap_singleton]
theorem frames_cons (g : Grp) (gs : List Grp) : framesS (g :: gs) = frameS 1 g ++ framesS gs := rfl
theorem frame_tail (c d : UInt8) (g : Grp) (r : List UInt8) {p : Nat} (hp : p ≠ 0) : (frameS c g ++ r)[p]? = (frameS d g ++ r)[p]? := by
  obtain ⟨q, rfl⟩ : ∃ q, p = q + 1 := ⟨p - 1, by omega⟩
  unfold frameS
  simp
theorem frame_head (c : UInt8) (g : Grp) (r : List UInt8) : (frameS c g ++ r)[0]? = some c := rfl

/-- The sectors of a half; where a half begins. -/
def sec (n : Nat) : Nat := (n - 1) / 2
def base (z n h : Nat) : Nat := z + h * (sec n * z)
theorem first_base (z n h : Nat) : (1 + h * sec n) * z = base z n h := by
  unfold base
  rw [Nat.add_mul, Nat.one_mul, Nat.mul_assoc]
theorem geo {n : Nat} (z : Nat) (hn : 1 ≤ n) : z + 2 * (sec n * z) ≤ n * z := by
  have h : 1 + 2 * sec n ≤ n := by unfold sec; omega
  have := Nat.mul_le_mul_right z h
  rw [Nat.add_mul, Nat.one_mul, Nat.mul_assoc] at this
  exact this
theorem base_lt {z n h : Nat} (hn : 1 ≤ n) (hh : h ≤ 1) : base z n h + sec n * z ≤ n * z := by
  have := geo z hn
  unfold base
  rcases (show h = 0 ∨ h = 1 by omega) with rfl | rfl
  · rw [Nat.zero_mul]; omega
  · rw [Nat.one_mul]; omega

/-- The sectors have the log of these groups, in that half. -/
structure Lg (z n : Nat) (L : List ByteArray) (h : Nat) (gs : List Grp) : Prop where
  half : h ≤ 1
  n1 : 8 ≤ n
  n2 : n ≤ 40
  z1 : 16 ≤ z
  z2 : z ≤ 64
  first : ab z L 0 = some (UInt8.ofNat h)
  room : (framesS gs).length + 1 ≤ sec n * z
  bytes : ∀ p, p < (framesS gs).length + 1 → ab z L (base z n h + p) = (framesS gs ++ [0])[p]?
/-- What may stand where. -/
def Turn (z n : Nat) (L : List ByteArray) (A : Nat) (s : List UInt8) (L' : List ByteArray) : Prop := ∀ g, g < n * z → ab z L' g = ab z L g ∨ ab z L' g = new z L A s g
def Turned (z n : Nat) (L : List ByteArray) (A : Nat) (s : List UInt8) (L' : List ByteArray) : Prop := ∀ g, g < n * z → ab z L' g = new z L A s g
theorem Turned.turn {z n A : Nat} {L L' : List ByteArray} {s : List UInt8} (h : Turned z n L A s L') : Turn z n L A s L' := fun g hg => .inr (h g hg)
theorem new_out {z A g : Nat} {L : List ByteArray} {s : List UInt8} (h : g < A ∨ A + s.length ≤ g) : new z L A s g = ab z L g := by
  rw [new, if_neg (by omega)]
theorem new_in {z A p : Nat} {L : List ByteArray} {s : List UInt8} (h : p < s.length) : new z L A s (A + p) = s[p]? := by
  rw [new, if_pos (by omega), show A + p - A = p by omega]
theorem Turn.out {z n A g : Nat} {L L' : List ByteArray} {s : List UInt8} (h : Turn z n L A s L') (hg : g < n * z) (ho : g < A ∨ A + s.length ≤ g) : ab z L' g = ab z L g := by
  rcases h g hg with e | e
  · exact e
  · rw [e, new_out ho]

section
variable {z n h : Nat} {L L' : List ByteArray} {gs : List Grp}
theorem Lg.pos (k : Lg z n L h gs) : 0 < n * z := by
  have := Nat.mul_le_mul_right z (show 1 ≤ n from Nat.le_trans (by omega) k.n1)
  have := k.z1
  omega
theorem Lg.at_lt (k : Lg z n L h gs) {p : Nat} (hp : p < sec n * z) : base z n h + p < n * z := by
  have := base_lt (z := z) (n := n) (h := h) (by have := k.n1; omega) k.half
  omega
theorem base_pos (z n h : Nat) : z ≤ base z n h := Nat.le_add_right _ _
/-- A text laid where the frames end, that begins with a zero, or nothing of it: the log is as it was. -/
theorem Lg.lay (k : Lg z n L h gs) {s : List UInt8} (h0 : s[0]? = some 0) (t : Turn z n L (base z n h + (framesS gs).length) s L') : Lg z n L' h gs := by
  have hz := k.z1
  have hb := base_pos z n h
  refine ⟨k.half, k.n1, k.n2, k.z1, k.z2, ?_, k.room, fun p hp => ?_⟩
  · rw [t.out k.pos (.inl (by omega))]
    exact k.first
  · have hlt := k.at_lt (p := p) (by have := k.room; omega)
    rcases t _ hlt with e | e
    · rw [e]
      exact k.bytes p hp
    · by_cases e2 : p < (framesS gs).length
      · rw [e, new_out (.inl (by omega))]
        exact k.bytes p hp
      · obtain rfl : p = (framesS gs).length := by omega
        have hs : 0 < s.length := (List.getElem?_eq_some_iff.1 h0).1
        have := new_in (z := z) (L := L) (A := base z n h + (framesS gs).length) hs
        rw [Nat.add_zero] at this
        rw [e, this, h0]
        simp
/-- .. and where it was laid, what was laid stands there. -/
theorem Turned.there {A p : Nat} {s : List UInt8} (t : Turned z n L A s L') (hp : p < s.length) (hA : A + p < n * z) : ab z L' (A + p) = s[p]? := by
  rw [t _ hA, new_in hp]
/-- The flag of a frame laid: the frame is there, or not. -/
theorem Lg.flag (k : Lg z n L h gs) {g : Grp} (hr : (framesS gs).length + (frameS 0 g).length + 1 ≤ sec n * z)
    (hf : ∀ p, p < (frameS 0 g).length + 1 → ab z L (base z n h + (framesS gs).length + p) = (frameS 0 g ++ [0])[p]?)
    (t : Turn z n L (base z n h + (framesS gs).length) [1] L') :
    (ab z L' (base z n h + (framesS gs).length) = some 0 ∧ Lg z n L' h gs) ∨ (ab z L' (base z n h + (framesS gs).length) = some 1 ∧ Lg z n L' h (gs ++ [g])) := by
  have hz := k.z1
  have hb := base_pos z n h
  have hlt := k.at_lt (p := (framesS gs).length) (by omega)
  have hold : ab z L (base z n h + (framesS gs).length) = some 0 := by
    have := hf 0 (by omega)
    rw [Nat.add_zero] at this
    rw [this]
    rfl
  have hnew : new z L (base z n h + (framesS gs).length) [1] (base z n h + (framesS gs).length) = some 1 := by
    have := new_in (z := z) (L := L) (A := base z n h + (framesS gs).length) (s := [1]) (p := 0) (by simp)
    rw [Nat.add_zero] at this
    rw [this]
    rfl
  have hfirst : ab z L' 0 = some (UInt8.ofNat h) := by
    rw [t.out k.pos (.inl (by omega))]
    exact k.first
  have hlow : ∀ p, p < (framesS gs).length → ab z L' (base z n h + p) = (framesS gs)[p]? := by
    intro p hp
    rw [t.out (k.at_lt (by omega)) (.inl (by omega)), k.bytes p (by omega), List.getElem?_append_left hp]
  rcases t _ hlt with e | e
  · left
    rw [hold] at e
    refine ⟨e, k.half, k.n1, k.n2, k.z1, k.z2, hfirst, k.room, fun p hp => ?_⟩
    by_cases e2 : p < (framesS gs).length
    · rw [hlow p e2, List.getElem?_append_left e2]
    · obtain rfl : p = (framesS gs).length := by omega
      rw [e]
      simp
  · right
    rw [hnew] at e
    have hlen : (framesS (gs ++ [g])).length = (framesS gs).length + (frameS 0 g).length := by
      rw [frames_snoc, List.length_append, frame_len, frame_len]
    refine ⟨e, k.half, k.n1, k.n2, k.z1, k.z2, hfirst, by omega, fun p hp => ?_⟩
    rw [hlen] at hp
    rw [frames_snoc, List.append_assoc]
    by_cases e2 : p < (framesS gs).length
    · rw [hlow p e2, List.getElem?_append_left e2]
    · rw [List.getElem?_append_right (by omega)]
      obtain ⟨q, rfl⟩ : ∃ q, p = (framesS gs).length + q := ⟨p - (framesS gs).length, by omega⟩
      rw [Nat.add_sub_cancel_left, ← Nat.add_assoc]
      by_cases e3 : q = 0
      · subst e3
        rw [Nat.add_zero, e]
        rfl
      · rw [t.out (by have := k.at_lt (p := (framesS gs).length + q) (by omega); omega) (.inr (by simp; omega)), hf q (by omega)]
        exact frame_tail 0 1 g [0] e3
/-- A text laid in the other half. -/
theorem Lg.other (k : Lg z n L h gs) {s : List UInt8} (hs : s.length ≤ sec n * z) (t : Turn z n L (base z n (1 - h)) s L') : Lg z n L' h gs := by
  have hz := k.z1
  have hb := base_pos z n (1 - h)
  have hr := k.room
  refine ⟨k.half, k.n1, k.n2, k.z1, k.z2, ?_, k.room, fun p hp => ?_⟩
  · rw [t.out k.pos (.inl (by omega))]
    exact k.first
  · rw [t.out (k.at_lt (by omega)) ?_]
    · exact k.bytes p hp
    · have h1 := k.half
      unfold base
      rcases (show h = 0 ∨ h = 1 by omega) with rfl | rfl
      · left
        rw [Nat.zero_mul, Nat.sub_zero, Nat.one_mul]
        omega
      · right
        rw [Nat.one_mul, Nat.sub_self, Nat.zero_mul]
        omega
/-- Sector 0 laid: that half is the current one, or the other one. -/
theorem Lg.turn (k : Lg z n L h gs) {gs' : List Grp} {s : List UInt8} (hs : s.length = z) (h0 : s[0]? = some (UInt8.ofNat (1 - h))) (hr : (framesS gs').length + 1 ≤ sec n * z)
    (hf : ∀ p, p < (framesS gs').length + 1 → ab z L (base z n (1 - h) + p) = (framesS gs' ++ [0])[p]?) (t : Turn z n L 0 s L') :
    (ab z L' 0 = some (UInt8.ofNat h) ∧ Lg z n L' h gs) ∨ (ab z L' 0 = some (UInt8.ofNat (1 - h)) ∧ Lg z n L' (1 - h) gs') := by
  have hz := k.z1
  have h1 := k.half
  rcases t 0 k.pos with e | e
  · left
    rw [k.first] at e
    refine ⟨e, k.half, k.n1, k.n2, k.z1, k.z2, e, k.room, fun p hp => ?_⟩
    have := k.room
    rw [t.out (k.at_lt (by omega)) (.inr (by have := base_pos z n h; omega))]
    exact k.bytes p hp
  · right
    rw [new, if_pos (by omega), Nat.sub_zero, h0] at e
    refine ⟨e, by omega, k.n1, k.n2, k.z1, k.z2, e, hr, fun p hp => ?_⟩
    have := base_lt (z := z) (n := n) (h := 1 - h) (by have := k.n1; omega) (by omega)
    rw [t.out (by omega) (.inr (by have := base_pos z n (1 - h); omega))]
    exact hf p hp
/-- An empty log: zeros. -/
theorem Lg.zero (n1 : 8 ≤ n) (n2 : n ≤ 40) (z1 : 16 ≤ z) (z2 : z ≤ 64) (h0 : ∀ g, g < n * z → ab z L g = some 0) : Lg z n L 0 [] := by
  have hg := geo (n := n) z (by omega)
  have hs : 1 ≤ sec n := by unfold sec; omega
  have := Nat.mul_le_mul_right z hs
  refine ⟨by omega, n1, n2, z1, z2, h0 0 (by omega), by simp [framesS]; omega, fun p hp => ?_⟩
  have hp : p = 0 := by simp [framesS] at hp; omega
  subst hp
  rw [h0 _ (by unfold base; omega)]
  rfl
end
end Go.Proofs.YtghpohiinnallaaGreatDoor.Wal

/-
  A log in memory: its own block, its disk, the texts that wait.
-/
namespace Go.Proofs.YtghpohiinnallaaGreatDoor.Wal
open Go Go.RowKit
open Go.Proofs.YtghpohiinnallaaGreatDoor.Disk

abbrev walT : TypeId := 143
/-- A log. -/
structure Wl where
  half : Nat
  at_ : Nat
  wait : List ByteArray
structure Wk where
  d : Dk
  pw : Nat
  wv : Value
def cellsW (k : Wk) (L : Wl) : Array Value := #[ptr k.d.pb, .int .i64 L.half, .int .i64 L.at_, k.wv]
def ownW (k : Wk) (b : Nat) : Prop := own k.d b ∨ b = k.pw ∨ k.wv.ownBlock = some b
structure Log (w : World) (k : Wk) (S : St) (L : Wl) : Prop where
  disk : Is w k.d S
  self : Lies w k.pw (cellsW k L) walT
  wait : w.ownsRow k.d.B strT 1 k.wv L.wait.length (L.wait.map Value.string)
  low : k.d.B ≤ k.pw
  pw : ¬ own k.d k.pw
  wv : ∀ b, k.wv.ownBlock = some b → b ≠ k.pw ∧ ¬ own k.d b
structure StepW (w : World) (k : Wk) (w' : World) (k' : Wk) : Prop where
  fr : Fr (ownW k) w w'
  B : k'.d.B = k.d.B
  pb : k'.d.pb = k.d.pb
  pw : k'.pw = k.pw
  own : ∀ b, ownW k' b → ownW k b ∨ w.heap.size ≤ b
theorem StepW.refl (w : World) (k : Wk) : StepW w k w k := ⟨Fr.refl _ _, rfl, rfl, rfl, fun _ h => .inl h⟩
theorem StepW.trans {w w1 w2 : World} {k k1 k2 : Wk} (h : StepW w k w1 k1) (g : StepW w1 k1 w2 k2) : StepW w k w2 k2 := by
  refine ⟨h.fr.trans g.fr fun i hi e => ?_, g.B.trans h.B, g.pb.trans h.pb, g.pw.trans h.pw, fun b e => ?_⟩
  · rcases h.own i e with e | e
    · exact e
    · omega
  · rcases g.own b e with e | e
    · exact h.own b e
    · exact .inr (Nat.le_trans h.fr.size e)
theorem StepW.of_below {w w' : World} (k : Wk) (h : Below w.heap.size w w') : StepW w k w' k := ⟨Fr.of_below h, rfl, rfl, rfl, fun _ h => .inl h⟩
theorem StepW.put {w w1 w2 : World} {k k1 : Wk} (h : StepW w k w1 k1) (hf : Fr (ownW k) w1 w2) : StepW w k w2 k1 := ⟨h.fr.trans hf fun _ _ e => e, h.B, h.pb, h.pw, h.own⟩

section
variable {w w' : World} {k : Wk} {S S' : St} {L : Wl}
theorem Log.ok (h : Log w k S L) : Ok S := h.disk.ok
theorem Log.own_lt (h : Log w k S L) {b : Nat} (hb : ownW k b) : b < w.heap.size ∧ k.d.B ≤ b := by
  rcases hb with hb | rfl | hb
  · exact h.disk.own_lt hb
  · exact ⟨h.self.lt, h.low⟩
  · have := h.wait.lt b hb
    exact ⟨this.2, this.1⟩
theorem Log.cells (h : Log w k S L) : w.cell? ⟨k.pw, 0, none⟩ = some (ptr k.d.pb) ∧ w.cell? ⟨k.pw, 1, none⟩ = some (.int .i64 L.half) ∧ w.cell? ⟨k.pw, 2, none⟩ = some (.int .i64 L.at_) ∧ w.cell? ⟨k.pw, 3, none⟩ = some k.wv :=
  ⟨h.self.cell 0, h.self.cell 1, h.self.cell 2, h.self.cell 3⟩
theorem Log.free (h : Log w k S L) (j : Nat) : w.frozen? ⟨k.pw, j, none⟩ = false := h.self.free j
theorem Log.shape (h : Log w k S L) : ∃ a c, k.wv = .slice a L.wait.length c := by
  obtain ⟨a, c, e⟩ := owns_slice h.wait
  exact ⟨a, c, e⟩
theorem Log.frame {F : Nat → Prop} (h : Log w k S L) (hf : Fr F w w') (hF : ∀ b, F b → ¬ ownW k b) : Log w' k S L :=
  ⟨h.disk.frame hf fun b e o => hF b e (.inl o), h.self.same (hf.block _ h.self.lt fun e => hF _ e (.inr (.inl rfl))), Fr.owns h.wait hf fun b hb e => hF b e (.inr (.inr hb)), h.low, h.pw, h.wv⟩
theorem Log.below (h : Log w k S L) (hb : Below w.heap.size w w') : Log w' k S L := h.frame (F := fun _ => False) (Fr.of_below hb) fun _ e => e.elim
/-- A call on its disk. -/
theorem Log.left (h : Log w k S L) (hl : Disk.Left w k.d S' w') : ∃ cv', Log w' { k with d := { k.d with cv := cv' } } S' L ∧ StepW w k w' { k with d := { k.d with cv := cv' } } := by
  obtain ⟨cv', hi, hs⟩ := hl
  have hlt := h.self.lt
  have hpw : ¬ own { k.d with cv := cv' } k.pw := fun e => by
    rcases hs.own e with e | e
    · exact h.pw e
    · omega
  refine ⟨cv', ⟨hi, h.self.same (hs.fr.block _ hlt h.pw), Fr.owns h.wait hs.fr fun b hb e => (h.wv b hb).2 e, h.low, hpw, fun b hb => ⟨(h.wv b hb).1, fun e => ?_⟩⟩, hs.fr.mono fun _ _ e => .inl e, rfl, rfl, rfl, fun b hb => ?_⟩
  · rcases hs.own e with e | e
    · exact (h.wv b hb).2 e
    · have := (h.wait.lt b hb).2
      omega
  · rcases hb with hb | hb
    · rcases hs.own hb with e | e
      · exact .inl (.inl e)
      · exact .inr e
    · exact .inl (.inr hb)
/-- Its own block written. -/
theorem Log.set (h : Log w k S L) (i : Nat) (v : Value) (L' : Wl) (hc : (cellsW k L).setIfInBounds i v = cellsW k L') (hw : L'.wait = L.wait) : Log (w.setCell ⟨k.pw, i, none⟩ v) k S L' ∧ Fr (ownW k) w (w.setCell ⟨k.pw, i, none⟩ v) := by
  have hf : Fr (fun b => b = k.pw) w (w.setCell ⟨k.pw, i, none⟩ v) := Fr.one _ _ _ _
  refine ⟨⟨h.disk.frame hf fun b e o => h.pw (e ▸ o), ?_, ?_, h.low, h.pw, h.wv⟩, hf.mono fun _ _ e => .inr (.inl e)⟩
  · rw [← hc]; exact h.self.set i v
  · rw [hw]; exact Fr.owns h.wait hf fun b hb e => (h.wv b hb).1 e
theorem Log.setHalf (h : Log w k S L) (x : Nat) : Log (w.setCell ⟨k.pw, 1, none⟩ (.int .i64 x)) k S { L with half := x } ∧ Fr (ownW k) w (w.setCell ⟨k.pw, 1, none⟩ (.int .i64 x)) := h.set 1 _ _ rfl rfl
theorem Log.setAt (h : Log w k S L) (x : Nat) : Log (w.setCell ⟨k.pw, 2, none⟩ (.int .i64 x)) k S { L with at_ := x } ∧ Fr (ownW k) w (w.setCell ⟨k.pw, 2, none⟩ (.int .i64 x)) := h.set 2 _ _ rfl rfl
/-- Other texts wait: a list of its own. -/
theorem Log.setWait (h : Log w k S L) (v : Value) (ss : List ByteArray) (ho : w.ownsRow k.d.B strT 1 v ss.length (ss.map Value.string)) (hn : ∀ b, v.ownBlock = some b → b ≠ k.pw ∧ ¬ own k.d b) :
    Log (w.setCell ⟨k.pw, 3, none⟩ v) { k with wv := v } S { L with wait := ss } ∧ Fr (ownW k) w (w.setCell ⟨k.pw, 3, none⟩ v) := by
  have hf : Fr (fun b => b = k.pw) w (w.setCell ⟨k.pw, 3, none⟩ v) := Fr.one _ _ _ _
  exact ⟨⟨h.disk.frame hf fun b e o => h.pw (e ▸ o), h.self.set 3 v, Fr.owns ho hf fun b hb e => (hn b hb).1 e, h.low, h.pw, hn⟩, hf.mono fun _ _ e => .inr (.inl e)⟩
theorem Log.setNone (h : Log w k S L) : Log (w.setCell ⟨k.pw, 3, none⟩ (.slice none 0 0)) { k with wv := .slice none 0 0 } S { L with wait := [] } ∧ Fr (ownW k) w (w.setCell ⟨k.pw, 3, none⟩ (.slice none 0 0)) :=
  h.setWait _ [] (World.ownsRow_nil _ _ _ _) fun b hb => by cases hb
/-- What a call on a log leaves. -/
def Done (w : World) (k : Wk) (S' : St) (L' : Wl) (w' : World) : Prop := ∃ k', Log w' k' S' L' ∧ StepW w k w' k'
theorem Done.same (h : Log w k S L) : Done w k S L w := ⟨k, h, StepW.refl _ _⟩
theorem Done.of_below (h : Log w k S L) (hb : Below w.heap.size w w') : Done w k S L w' := ⟨k, h.below hb, StepW.of_below k hb⟩
end
end Go.Proofs.YtghpohiinnallaaGreatDoor.Wal

/-
  Walks of the program's log, first part: what it tells of itself, its sectors, Append, Drop.
-/
namespace Go.Proofs.YtghpohiinnallaaGreatDoor.Wal
open Go Go.RowKit
open Go.Proofs.YtghpohiinnallaaGreatDoor.Disk
open Go.Proofs.YtghpohiinnallaaGreatDoor.Sha (Kept wp_region_kept wp_region_kept_tail wp_region_drawn_tail)

section
variable {w : World} {k : Wk} {S : St} {L : Wl}
theorem below_of_drew {w w' : World} (h : ∃ n, w' = w.drewN n) : Below w.heap.size w w' := by
  obtain ⟨n, rfl⟩ := h
  exact below_drewN (Below.refl _ _) n
theorem sectorsW (h : Log w k S L) : Calls Tryz.prog 118 #[ptr k.pw] w fun e w' => e = .returned (.int .i64 (sec S.dur.length)) ∧ w' = w := by
  obtain ⟨c0, c1, c2, c3⟩ := h.cells
  have HS := Lib.hid (sectorsIs h.disk)
  have hn := h.ok.few
  have hl : 1 ≤ S.dur.length ∨ S.dur.length = 0 := by omega
  have HE : Hid (((S.dur.length : Int) - 1).tdiv 2 = (sec S.dur.length : Int)) := by
    show ((S.dur.length : Int) - 1).tdiv 2 = _
    unfold sec
    rcases hl with hl | hl
    · rw [show ((S.dur.length : Int) - 1) = ((S.dur.length - 1 : Nat) : Int) by omega, Int.tdiv_eq_ediv_of_nonneg (by omega)]
      omega
    · rw [hl]; rfl
  clear h hl
  go_enter Tryz.func118, Tryz.ntmps118
  go_wp2_with fail
  refine HS.out.mono ?_
  rintro e w' ⟨rfl, rfl⟩
  go_wp2_with fail
  go_ret
  exact ⟨Nets.ret_int HE.out, rfl⟩
theorem halfW (h : Log w k S L) : Calls Tryz.prog 45 #[ptr k.pw] w fun e w' => e = .returned (.int .i64 L.half) ∧ w' = w := by
  obtain ⟨c0, c1, c2, c3⟩ := h.cells
  clear h
  go_enter Tryz.func45, Tryz.ntmps45
  go_wp2_with fail
  go_ret
  exact ⟨rfl, rfl⟩
theorem firstW (h : Log w k S L) (x : Nat) (hx : x ≤ 1) : Calls Tryz.prog 80 #[ptr k.pw, .int .i64 x] w fun e w' => e = .returned (.int .i64 ((1 + x * sec S.dur.length : Nat))) ∧ w' = w := by
  have HS := Lib.hid (sectorsW h)
  have hn := h.ok.few
  have hs : sec S.dur.length ≤ 4096 := by unfold sec; omega
  clear h hn
  generalize sec S.dur.length = q at *
  go_enter Tryz.func80, Tryz.ntmps80
  rcases (show x = 0 ∨ x = 1 by omega) with rfl | rfl
  all_goals
    go_wp2_with fail
    refine HS.out.mono ?_
    rintro e w' ⟨rfl, rfl⟩
    go_wp2_with fail
    go_ret
    exact ⟨by simp, rfl⟩
set_option maxHeartbeats 1000000 in
theorem sizeW (h : Log w k S L) : Calls Tryz.prog 101 #[ptr k.pw] w fun e w' => e = .returned (.int .i64 ((sec S.dur.length * S.z : Nat))) ∧ ∃ n, w' = w.drewN n := by
  obtain ⟨c0, c1, c2, c3⟩ := h.cells
  have HS := Lib.hid (fun n => sectorsW (h.below (below_of_drew ⟨n, rfl⟩)))
  have HZ := Lib.hid (fun n => sizeIs (h.below (below_of_drew (w' := w.drewN n) ⟨n, rfl⟩)).disk)
  have hn := h.ok.few
  have hz := h.ok.most
  have hs : sec S.dur.length ≤ 2048 := by unfold sec; omega
  have hp : (sec S.dur.length * S.z) ≤ 2048 * 256 := Nat.mul_le_mul hs hz
  have hc : ((sec S.dur.length : Int) * (S.z : Int)) = ((sec S.dur.length * S.z : Nat) : Int) := by rw [Int.natCast_mul]
  clear h hn
  generalize sec S.dur.length = q at *
  generalize q * S.z = m at *
  generalize S.z = z at *
  go_enter Tryz.func101, Tryz.ntmps101
  go_wp2_with fail
  go_quiet (first | (go_at_call 118; exact Calls.quiet_of_same (HS.out _)) | (go_at_call 79; exact Calls.quiet_of_same (HZ.out _)))
  go_wp2_with fail
  go_ret
  exact ⟨rfl, _, rfl⟩
end
end Go.Proofs.YtghpohiinnallaaGreatDoor.Wal

/-
  Lists of texts: one list appended to another one, that the call owns.
-/
namespace Go.Proofs.YtghpohiinnallaaGreatDoor.Wal
open Go Go.RowKit
open Go.Proofs.YtghpohiinnallaaGreatDoor.Disk
open Go.Proofs.YtghpohiinnallaaGreatDoor.Nets (Reads)

theorem infoS : (Tryz.prog.info? 9).map (fun i => (i.zero.map (·.cells.size), i.size, i.bytes)) = some (some 1, 1, 16) := by kernel_rfl
theorem info_str : ∃ i z, Tryz.prog.info? 9 = some i ∧ i.zero = some z ∧ i.size = 1 ∧ i.bytes = 16 ∧ z.cells.size = 1 := by
  cases hi : Tryz.prog.info? 9 with
  | none => have := infoS; rw [hi] at this; cases this
  | some i =>
    have h0 := infoS
    rw [hi] at h0
    have h0' : i.zero.map (·.cells.size) = some 1 ∧ i.size = 1 ∧ i.bytes = 16 := by simpa using h0
    obtain ⟨hz, hs, hb⟩ := h0'
    obtain ⟨z, hz1, hz2⟩ := Option.map_eq_some_iff.1 hz
    exact ⟨i, z, rfl, hz1, hs, hb, hz2⟩
theorem strings_one (ss : List ByteArray) : ∀ u ∈ ss.map Value.string, u.oneCell' = true := by
  intro u hu
  obtain ⟨s, _, rfl⟩ := List.mem_map.1 hu
  rfl
theorem append_nothing {w : World} {B : Nat} {v : Value} {n cap : Nat} {xs : List Value} (ho : w.ownsRow B strT 1 v n xs) : (Builtin.append_ #[28, 28] 28 #[v, .slice none 0 cap]).run Tryz.prog w = .ok v w := by
  obtain ⟨i, z, hi, -, -, -, -⟩ := info_str
  rcases ho.2 with ⟨rfl, rfl⟩ | ⟨g, c, cur, rfl, _, _, hnc, _⟩
  · simp [Builtin.append_, run_underlying Tryz.underlying28, sizeOf, typeInfo, hi, Builtin.lenOf, Builtin.firstCells]
  · simp [Builtin.append_, run_underlying Tryz.underlying28, sizeOf, typeInfo, hi, Builtin.lenOf, Builtin.firstCells, hnc, storeCells]
/-- A list appended to an owned one. -/
theorem append_texts (w : World) (B : Nat) (u v : Value) (us ss : List ByteArray) (ho : w.ownsRow B strT 1 u us.length (us.map Value.string)) (hr : Reads w v ss) (hl : us.length ≤ 1000000) (hm : ss.length ≤ 1000000) (hB : B ≤ w.heap.size) :
    ∃ v' w', (Builtin.append_ #[28, 28] 28 #[u, v]).run Tryz.prog w = .ok v' w' ∧ w'.ownsRow B strT 1 v' (us ++ ss).length ((us ++ ss).map Value.string) ∧
      w.grownBy w' u.ownBlock ∧ (∀ k, v'.ownBlock = some k → u.ownBlock = some k ∨ w.heap.size ≤ k) := by
  have hold : ∀ {w' : World} {v' : Value}, (v'.ownBlock = u.ownBlock ∨ v'.ownBlock = some w.heap.size) → ∀ k, v'.ownBlock = some k → u.ownBlock = some k ∨ w.heap.size ≤ k := by
    intro w' v' h5 k hk
    rcases h5 with e | e
    · rw [e] at hk; exact .inl hk
    · rw [e] at hk
      obtain rfl := Option.some.inj hk
      exact .inr (Nat.le_refl _)
  obtain ⟨i, z, hi, hz1, hs, hb, hz2⟩ := info_str
  rcases hr with ⟨a, cap, rfl, rfl⟩ | ⟨h0, b, off, cap, rfl, h1, h2, h3, h4⟩
  · rcases a with _ | a
    · exact ⟨u, w, append_nothing ho, by simpa using ho, World.grownBy.refl _ _, fun k hk => .inl hk⟩
    · obtain ⟨v', w', hr, h2, h3, _, h5⟩ := run_append_own_at (P := Tryz.prog) w B 28 28 strT i z 1 16 Tryz.underlying28 hi hz1 hs hb hz2 (by decide) u us.length _ ho a 0 cap [] rfl (fun j x hx => by simp at hx) (fun x hx => by cases hx) (by unfold maxLen; omega) (by omega) hB
      exact ⟨v', w', hr, by simpa using h2, h3, hold (w' := w') h5⟩
  · obtain ⟨v', w', hr, h2, h3, _, h5⟩ := run_append_own_at (P := Tryz.prog) w B 28 28 strT i z 1 16 Tryz.underlying28 hi hz1 hs hb hz2 (by decide) u us.length _ ho ⟨b, off, none⟩ ss.length cap (ss.map Value.string) (by simp) (fun j x hx => by
      rw [List.getElem?_map] at hx
      obtain ⟨s, hs, rfl⟩ := Option.map_eq_some_iff.1 hx
      obtain ⟨hj, e⟩ := List.getElem?_eq_some_iff.1 hs
      rw [addr_add]
      have := h4 j hj
      rw [List.getD_eq_getElem?_getD, hs] at this
      exact this) (strings_one ss) (by unfold maxLen; omega) (by omega) hB
    refine ⟨v', w', hr, ?_, h3, hold (w' := w') h5⟩
    rw [List.length_append, List.map_append]
    exact h2
/-- One text, laid as a list of its own. -/
theorem reads_one {w : World} {g : Nat} {s : ByteArray} (hg : Lies w g #[.string s] strT) : Reads w (.slice (some ⟨g, 0, none⟩) 1 1) [s] := by
  refine .inr ⟨by simp, g, 0, 1, rfl, by simp, by unfold maxLen; omega, hg.lt, fun i hi => ?_⟩
  obtain rfl : i = 0 := by simp at hi; omega
  exact hg.cell 0
theorem wpList_append_run {P : Program} {w w' : World} {ops : Array Oper} {rest : List Oper} {o : Oper} {a : Act} {Q : Exit → Act → World → Prop} (hg : o.guard = none) (s x : Operand) (t : TypeId)
    (ho : o.op = .call { callee := .builtin .append, args := #[s, x], argTypes := #[t, t] }) (u v r : Value) (hs : a.eval s = u) (hx : a.eval x = v)
    (hrun : (Builtin.append_ #[t, t] o.type #[u, v]).run P w = .ok r w') (h : wpList P ops Q rest (a.put o.dst r) w') : wpList P ops Q (o :: rest) a w := by
  refine wpList_plain hg fun K hK => ?_
  unfold Oper.wp execOp
  simp only [ho, resolve, invoke, builtin, Sem.run_bind, Sem.run_pure, Result.andThen_ok, List.map_toArray, List.map_cons, List.map_nil, hs, hx, hrun]
  exact hK _ _ h
end Go.Proofs.YtghpohiinnallaaGreatDoor.Wal

/-
  Walks of the program's log, second part: Room, Append, Drop, Need, frame.
-/
namespace Go.Proofs.YtghpohiinnallaaGreatDoor.Wal
open Go Go.RowKit
open Go.Proofs.YtghpohiinnallaaGreatDoor.Disk
open Go.Proofs.YtghpohiinnallaaGreatDoor.Nets (Reads Tab Small bl)
open Go.Proofs.YtghpohiinnallaaGreatDoor.Sha (Kept wp_region_kept wp_region_kept_tail wp_region_drawn_tail)

section
variable {w : World} {k : Wk} {S : St} {L : Wl}
def roomS (S : St) (L : Wl) : Nat := sec S.dur.length * S.z - L.at_ - 1
set_option maxHeartbeats 1000000 in
theorem roomW (h : Log w k S L) (ha : L.at_ ≤ 1000000) : Calls Tryz.prog 127 #[ptr k.pw] w fun e w' => e = .returned (.int .i64 (roomS S L)) ∧ ∃ n, w' = w.drewN n := by
  obtain ⟨c0, c1, c2, c3⟩ := h.cells
  have HS := Lib.hid (fun n => sizeW (h.below (below_of_drew (w' := w.drewN n) ⟨n, rfl⟩)))
  have hn := h.ok.few
  have hz := h.ok.most
  have hs : sec S.dur.length ≤ 2048 := by unfold sec; omega
  have hp : (sec S.dur.length * S.z) ≤ 2048 * 256 := Nat.mul_le_mul hs hz
  unfold roomS
  clear h hn hz hs
  generalize sec S.dur.length * S.z = m at *
  generalize L.at_ = x at *
  go_enter Tryz.func127, Tryz.ntmps127
  have HE : Hid (max ((m : Int) - x - 1) 0 = ((m - x - 1 : Nat) : Int)) := by
    show max ((m : Int) - x - 1) 0 = ((m - x - 1 : Nat) : Int)
    omega
  go_wp2_with fail
  refine wp_region_drawn_tail 8 (by kernel_rfl) (by kernel_rfl) ?_
  simp only [List.take_succ_cons, List.take_zero, List.drop_succ_cons, List.drop_zero]
  repeat (go_big_quiet_step (first | (go_at_call 101; exact Calls.quiet_of (HS.out _))))
  refine wpQuiet_nil ?_
  rintro _ ⟨nq, rfl⟩
  go_wp2_with fail
  go_ret
  exact ⟨Nets.ret_int HE.out, _, rfl⟩
set_option maxRecDepth 100000 in
set_option maxHeartbeats 1000000 in
theorem appendW (h : Log w k S L) (s : ByteArray) (hl : L.wait.length ≤ 1000) : Calls Tryz.prog 97 #[ptr k.pw, .string s] w fun e w' => e = .returned (.tuple #[]) ∧ Done w k S { L with wait := L.wait ++ [s] } w' := by
  obtain ⟨c0, c1, c2, c3⟩ := h.cells
  have f3 := h.free 3
  have hb : Below w.heap.size w (w.alloc (.cells #[.string s] strT)) := (Below.refl _ _).alloc (Nat.le_refl _) _
  have h1 := h.below hb
  have hlt := h.own_lt (b := k.pw) (.inr (.inl rfl))
  obtain ⟨v', w', hr, ho, hg, hn⟩ := append_texts (w.alloc (.cells #[.string s] strT)) k.d.B k.wv _ L.wait [s] h1.wait (reads_one (Lies.new w _ _)) (by omega) (by simp) (by simp; omega)
  obtain ⟨a', n', rfl⟩ := owns_slice ho
  have HR := Lib.hid hr
  have hf : Fr (fun b => k.wv.ownBlock = some b) w w' := (Fr.of_below (F := fun b => k.wv.ownBlock = some b) hb).trans ((Fr.refl _ _).grown hg fun b hb _ => hb) fun _ _ e => e
  have hnew : ∀ b, (Value.slice a' (L.wait ++ [s]).length n').ownBlock = some b → b ≠ k.pw ∧ ¬ own k.d b := fun b hb => by
    rcases hn b hb with e | e
    · exact h.wv b e
    · have e2 : w.heap.size + 1 ≤ b := by simpa using e
      exact ⟨by omega, fun e3 => by have := h.own_lt (b := b) (.inl e3); omega⟩
  have HD : Hid (Done w k S { L with wait := L.wait ++ [s] } (w'.setCell ⟨k.pw, 3, none⟩ (.slice a' (L.wait ++ [s]).length n')) ∧ w'.frozen? ⟨k.pw, 3, none⟩ = false ∧ w'.cell? ⟨k.pw, 3, none⟩ = some k.wv) := by
    have hl' : Lies w' k.pw (cellsW k L) walT := h.self.same (hf.block _ h.self.lt fun e => (h.wv _ e).1 rfl)
    refine ⟨⟨{ k with wv := .slice a' (L.wait ++ [s]).length n' }, ⟨h.disk.frame (F := fun b => b = k.pw ∨ k.wv.ownBlock = some b) ((hf.mono fun _ _ e => .inr e).trans ((Fr.one w' k.pw 3 _).mono fun _ _ e => .inl e) fun _ _ e => e) ?_, hl'.set 3 _, Fr.owns (by simpa using ho) (Fr.one w' k.pw 3 _) fun b hb e => (hnew b hb).1 e, h.low, h.pw, hnew⟩,
      ⟨(hf.mono fun _ _ e => .inr (.inr e)).trans ((Fr.one w' k.pw 3 _).mono fun _ _ e => .inr (.inl e)) fun _ _ e => e, rfl, rfl, rfl, ?_⟩⟩, hl'.free 3, hl'.cell 3⟩
    · rintro b (rfl | e) o
      · exact h.pw o
      · exact (h.wv b e).2 o
    · rintro b (e | e | e)
      · exact .inl (.inl e)
      · exact .inl (.inr (.inl e))
      · rcases hn b e with e | e
        · exact .inl (.inr (.inr e))
        · exact .inr (by simp at e; omega)
  rw [show (L.wait ++ [s]).length = L.wait.length + 1 by simp] at HD
  clear hr ho hg hn hf hnew h1 hb
  have c3' := HD.out.2.2
  have f3' := HD.out.2.1
  have hlt1 := hlt.1
  clear h hlt
  go_enter Tryz.func97, Tryz.ntmps97
  go_wp2_with (at_builtin; refine wpList_append_run rfl _ _ 28 rfl _ _ _ rfl rfl HR.out ?_)
  go_end0
  exact ⟨rfl, HD.out.1⟩
end
/-- The row of a group, as the program has it. -/
theorem payB {v : Value} {ss : List ByteArray} {w : World} (hr : Reads w v ss) (hs : Small ss) (ht : Tab w) : ∃ X : ByteArray, bl X = payS ss ∧ X.size = (payS ss).length ∧ X.size ≤ 100011000 ∧ Calls Tryz.prog 128 #[v] w fun e w' => e = .returned (.string X) ∧ Below w.heap.size w w' := by
  have hl : (payS ss).length ≤ 100011000 := by
    have := Nets.rowK_len ss ss.length hs
    rw [Nets.rowK_all] at this
    exact this
  have he : (⟨(payS ss).toArray⟩ : ByteArray).size = (payS ss).length := by simp [ByteArray.size]
  exact ⟨⟨(payS ss).toArray⟩, by simp, he, by omega, Nets.row_any v ss w hr hs ht⟩
theorem needW {v : Value} {ss : List ByteArray} {w : World} (hr : Reads w v ss) (hs : Small ss) (ht : Tab w) : Calls Tryz.prog 100 #[v] w fun e w' => e = .returned (.int .i64 ((9 + (payS ss).length : Nat))) ∧ Below w.heap.size w w' := by
  obtain ⟨X, -, he, hl, hc⟩ := payB hr hs ht
  have HR := Lib.hid hc
  rw [← he]
  clear hr hs ht he hc
  go_enter Tryz.func100, Tryz.ntmps100
  go_wp2_with fail
  refine HR.out.mono ?_
  rintro e w' ⟨rfl, hb⟩
  have HB := Lib.hid hb
  clear hb
  go_wp2_with fail
  go_ret
  exact ⟨Nets.ret_int (by omega), HB.out⟩
/-- The bytes of a frame. -/
def frameB (c : UInt8) (X : ByteArray) : ByteArray := ⟨#[c]⟩ ++ Crc.bytesB X.size ++ Crc.bytesB (Crc.sumS (bl X)) ++ X
theorem frameB_bl {c : UInt8} {X : ByteArray} {ss : List ByteArray} (h : bl X = payS ss) : bl (frameB c X) = frameS c ss := by
  unfold frameB frameS
  have hs : X.size = (payS ss).length := by rw [← h]; simp
  show (((⟨#[c]⟩ : ByteArray) ++ Crc.bytesB X.size ++ Crc.bytesB (Crc.sumS (bl X)) ++ X).data.toList) = _
  rw [ByteArray.data_append, ByteArray.data_append, ByteArray.data_append, Array.toList_append, Array.toList_append, Array.toList_append, hs, ← h]
  show [c] ++ Crc.bytesS (bl X).length ++ Crc.bytesS (Crc.sumS (bl X)) ++ bl X = _
  rw [List.append_assoc, List.append_assoc]
  rfl
theorem crc_num (n : Nat) (w : World) (hn : n < 4294967296) : Calls Tryz.prog 129 #[.int .u32 n] w fun e w' => e = .returned (.string (Crc.bytesB n)) ∧ Below w.heap.size w w' := Crc.bytes_any n w hn
set_option maxHeartbeats 1000000 in
theorem frameW {v : Value} {ss : List ByteArray} {w : World} (c : UInt8) (hr : Reads w v ss) (hs : Small ss) (ht : Tab w) (hp : (payS ss).length ≤ 100000) :
    Calls Tryz.prog 102 #[.string ⟨#[c]⟩, v] w fun e w' => ∃ F : ByteArray, e = .returned (.string F) ∧ bl F = frameS c ss ∧ Below w.heap.size w w' := by
  obtain ⟨X, hx, he, -, hc⟩ := payB hr hs ht
  have HR := Lib.hid hc
  have HX := Lib.hid hx
  have hXs : X.size ≤ 100000 := by omega
  have HS := Lib.hid (fun W => Crc.sum_any X W hXs)
  have HL := Lib.hid (show Crc.sumS (bl X) < 4294967296 from Crc.addS_lt 0 _)
  have HB1 := Lib.hid (fun W => Crc.bytes_any X.size W (by omega))
  have HB2 := Lib.hid (fun W => Crc.bytes_any (Crc.sumS (bl X)) W HL.out)
  have s1 := Crc.bytesB_size X.size
  have s2 := Crc.bytesB_size (Crc.sumS (bl X))
  have HF : Hid (⟨#[c]⟩ ++ Crc.bytesB X.size ++ Crc.bytesB (Crc.sumS (bl X)) ++ X = frameB c X) := rfl
  generalize Crc.sumS (bl X) = q at *
  generalize Crc.bytesB X.size = y1 at *
  generalize Crc.bytesB q = y2 at *
  clear hr hs ht he hc hx hp
  go_enter Tryz.func102, Tryz.ntmps102
  go_wp2_with fail
  refine HR.out.mono ?_
  rintro e w1 ⟨rfl, hb1⟩
  have HB := Lib.hid hb1
  clear hb1
  go_wp2_with fail
  refine (HB1.out _).mono ?_
  rintro e w2 ⟨rfl, hb2⟩
  have HB := Lib.hid (HB.out.trans (hb2.mono HB.out.size))
  clear hb2
  go_wp2_with fail
  refine (HS.out _).mono ?_
  rintro e w3 ⟨rfl, rfl⟩
  go_wp2_with fail
  refine (HB2.out _).mono ?_
  rintro e w4 ⟨rfl, hb4⟩
  have HB := Lib.hid (HB.out.trans (hb4.mono HB.out.size))
  clear hb4
  go_wp2_with fail
  go_ret
  exact ⟨frameB c X, by rw [← HF.out]; rfl, frameB_bl HX.out, HB.out⟩
end Go.Proofs.YtghpohiinnallaaGreatDoor.Wal

/-
  A text's bytes in a block of their own, another text copied over them: overlay walked.
-/
namespace Go.Proofs.YtghpohiinnallaaGreatDoor.Wal
open Go Go.RowKit
open Go.Proofs.YtghpohiinnallaaGreatDoor.Disk (byt)
open Go.Proofs.YtghpohiinnallaaGreatDoor.Nets (bl ba)

/-- A block whose first bytes are these, and may be written. -/
def Row8 (w : World) (g : Nat) (l : List UInt8) : Prop :=
  ∃ cur fz, w.heap[g]? = some (.cells cur 5 fz) ∧ l.length ≤ cur.size ∧ (cur.size ≤ fz.1 ∨ fz = (0, 0)) ∧ cur.toList.take l.length = Lib.byteCells l
theorem Row8.lt {w : World} {g : Nat} {l : List UInt8} (h : Row8 w g l) : g < w.heap.size := by
  obtain ⟨cur, fz, hg, _⟩ := h
  exact (Array.getElem?_eq_some_iff.1 hg).1
theorem Row8.cell {w : World} {g : Nat} {l : List UInt8} (h : Row8 w g l) {j : Nat} (hj : j < l.length) : w.cell? ⟨g, j, none⟩ = some (.int .u8 (l[j].toNat : Int)) := by
  obtain ⟨cur, fz, hg, hl, hf, ht⟩ := h
  rw [cell_of_row w g j cur _ fz hg]
  have e : (cur.toList.take l.length)[j]? = (Lib.byteCells l)[j]? := by rw [ht]
  rw [List.getElem?_take, if_pos hj] at e
  simpa [Lib.byteCells, hj] using e
theorem Row8.free {w : World} {g : Nat} {l : List UInt8} (h : Row8 w g l) {j : Nat} (hj : j < l.length) : w.frozen? ⟨g, j, none⟩ = false := by
  obtain ⟨cur, fz, hg, hl, hf, ht⟩ := h
  unfold World.frozen?
  rw [hg]
  obtain ⟨lo, hi⟩ := fz
  rcases hf with hf | hf
  · have : ¬ lo ≤ j := by
      have : cur.size ≤ lo := hf
      omega
    simp [this]
  · cases hf; simp
theorem Row8.set {w : World} {g : Nat} {l : List UInt8} (h : Row8 w g l) (j : Nat) (c : UInt8) : Row8 (w.setCell ⟨g, j, none⟩ (.int .u8 (c.toNat : Int))) g (l.set j c) := by
  obtain ⟨cur, fz, hg, hl, hf, ht⟩ := h
  refine ⟨cur.setIfInBounds j (.int .u8 (c.toNat : Int)), fz, ?_, by simpa using hl, by simpa using hf, ?_⟩
  · simp [World.setCell, Array.getElem?_modify, hg]
  · rw [List.length_set, Array.toList_setIfInBounds, List.take_set, ht]
    simp [Lib.byteCells, List.map_set]
theorem strOf_bytes (l : List UInt8) : strOfNums (l.map fun b => (b.toNat : Int)) = ba l := by
  unfold strOfNums ba
  rw [List.map_map]
  have e2 : l.map ((fun n : Int => UInt8.ofNat n.toNat) ∘ fun b : UInt8 => (b.toNat : Int)) = l := by
    conv => rhs; rw [← List.map_id l]
    apply List.map_congr_left
    intro b _
    show UInt8.ofNat b.toNat = b
    exact UInt8.ofNat_toNat
  rw [e2]
theorem Row8.str {w : World} {g cap : Nat} {l : List UInt8} (h : Row8 w g l) :
    (convert 181 9 (.slice (some ⟨g, 0, none⟩) l.length cap)).run Tryz.prog w = .ok (.string (ba l)) w := by
  have e := run_convert_bytes_arg (P := Tryz.prog) w 181 5 Tryz.underlying181 Tryz.underlying5 g 0 l.length cap (l.map fun b => (b.toNat : Int)) (by simp) (fun i hi => by
    rw [Nat.zero_add, h.cell hi]
    simp [hi]) 9 Tryz.underlying9
  rw [e, strOf_bytes]
theorem bytes_start (s : ByteArray) (w : World) (hl : s.size < 1000000000) : ∃ w' cap, (convert 9 181 (.string s)).run Tryz.prog w = .ok (.slice (some ⟨w.heap.size, 0, none⟩) s.size cap) w' ∧ s.size ≤ cap ∧ cap ≤ maxLen ∧ w'.heap.size = w.heap.size + 1 ∧ Row8 w' w.heap.size (bl s) ∧ Below w.heap.size w w' := by
  have hr := run_bytes_of_string (P := Tryz.prog) w 9 181 5 s Tryz.underlying9 Tryz.underlying181 Tryz.underlying5
  have hge := grownCap_ge w s.size 0 5
  have hle := grownCap_le_maxLen w s.size 0 5 (by simp only [maxLen]; omega)
  have hlen : (bl s).length = s.size := by simp
  have hd : s.data.size = s.size := rfl
  refine ⟨_, _, hr, hge, hle, by simp, ⟨_, _, heap_alloc_new w.drew _, ?_, .inl (Nat.le_refl _), ?_⟩, (Below.drew (Below.refl _ _)).alloc (Nat.le_refl _) _⟩
  · unfold bytesRow
    simp [hd]
  · unfold bytesRow
    rw [Array.toList_append, List.take_append_of_le_length (by simp), List.take_of_length_le (by simp)]
    simp [Lib.byteCells]


/-! Bytes written from a place on. -/
def setsL : List UInt8 → Nat → List UInt8 → List UInt8
  | l, _, [] => l
  | l, o, c :: r => setsL (l.set o c) (o + 1) r
theorem setsL_length : ∀ (x l : List UInt8) (o : Nat), (setsL l o x).length = l.length
  | [], _, _ => rfl
  | c :: r, l, o => by rw [setsL, setsL_length r, List.length_set]
theorem setsL_get : ∀ (x l : List UInt8) (o j : Nat), o + x.length ≤ l.length → j < l.length → (setsL l o x)[j]? = if o ≤ j ∧ j < o + x.length then x[j - o]? else l[j]?
  | [], l, o, j, _, _ => by rw [setsL, if_neg (by simp)]
  | c :: r, l, o, j, h, hj => by
    rw [List.length_cons] at h
    rw [setsL, setsL_get r (l.set o c) (o + 1) j (by rw [List.length_set]; omega) (by rw [List.length_set]; exact hj), List.length_cons]
    by_cases e : j = o
    · subst e
      rw [if_neg (by omega), if_pos (by omega), Nat.sub_self, List.getElem?_set, if_pos rfl, if_pos hj]
      rfl
    · by_cases e2 : o + 1 ≤ j ∧ j < o + 1 + r.length
      · rw [if_pos e2, if_pos (by omega), show j - o = (j - (o + 1)) + 1 by omega, List.getElem?_cons_succ]
      · rw [if_neg e2, if_neg (by omega), List.getElem?_set, if_neg (fun h => e h.symm)]
theorem Row8.sets {g : Nat} : ∀ (x : List UInt8) (l : List UInt8) (o : Nat) (w : World), Row8 w g l → Row8 (w.setCells g o (x.map fun b => Value.int .u8 (b.toNat : Int))) g (setsL l o x)
  | [], _, _, _, h => h
  | c :: r, l, o, w, h => Row8.sets r (l.set o c) (o + 1) (w.setCell ⟨g, o, none⟩ (.int .u8 (c.toNat : Int))) (h.set o c)
theorem setCells_below {B g : Nat} (hb : B ≤ g) : ∀ (vs : List Value) (o : Nat) (w a : World), Below B a w → Below B a (w.setCells g o vs)
  | [], _, _, _, h => h
  | v :: r, o, _, a, h => setCells_below hb r (o + 1) _ a (h.setCell (p := ⟨g, o, none⟩) hb v)
theorem size_u8 : (Tryz.prog.info? 5).map (·.size) = some 1 := by kernel_rfl
/-- 'copy' of a text into such a block, from o on. -/
theorem run_copy {w : World} {g : Nat} {l : List UInt8} (h : Row8 w g l) (o dCap : Nat) (s : ByteArray) (ty : TypeId) (ho : o ≤ l.length) :
    (Builtin.copy_ #[181, 9] ty #[.slice (some ⟨g, o, none⟩) (l.length - o) dCap, .string s]).run Tryz.prog w =
      .ok (goInt (Nat.min s.size (l.length - o))) (w.setCells g o (((bl s).take (Nat.min s.size (l.length - o))).map fun b => Value.int .u8 (b.toNat : Int))) := by
  have hm : ((bl s).take (Nat.min s.size (l.length - o))).length = Nat.min s.size (l.length - o) := by
    rw [List.length_take]
    have : (bl s).length = s.size := by simp
    rw [this]
    show min (min _ _) _ = min _ _
    omega
  have hle : Nat.min s.size (l.length - o) ≤ l.length - o := Nat.min_le_right _ _
  have hst := run_storeCells_cells (P := Tryz.prog) g o (((bl s).take (Nat.min s.size (l.length - o))).map fun b => Value.int .u8 (b.toNat : Int)) 0 w
    (by rw [List.length_map, hm]; intro j hj; rw [Nat.add_zero, h.cell (by omega)]; rfl) (by rw [List.length_map, hm]; intro j hj; rw [Nat.add_zero]; exact h.free (by omega)) (by
      intro v hv
      obtain ⟨x, _, rfl⟩ := List.mem_map.1 hv
      rfl)
  cases hq : Tryz.prog.info? 5 with
  | none => have := size_u8; rw [hq] at this; cases this
  | some i =>
    have hi : i.size = 1 := by have := size_u8; rw [hq] at this; simpa using this
    rw [Nat.add_zero, List.map_take] at hst
    simp [Builtin.copy_, run_underlying Tryz.underlying181, Builtin.lenOf, Builtin.firstCells, sizeOf, typeInfo, hq]
    rw [hst]
    rfl
/-- The bytes of one text over another one. -/
def Over (old s : ByteArray) (a : Int) (X : ByteArray) : Prop :=
  X.size = old.size ∧ ∀ j, j < old.size → byt X j = if a ≤ (j : Int) ∧ (j : Int) < a + s.size then (bl s)[((j : Int) - a).toNat]? else byt old j
theorem ba_size (l : List UInt8) : (ba l).size = l.length := by simp [ByteArray.size]
set_option maxRecDepth 100000 in
set_option maxHeartbeats 1000000 in
theorem overlayW (old s : ByteArray) (a : Int) (w : World) (h0 : old.size ≤ 1000) (h1 : s.size ≤ 1000000) (h2 : a < old.size) (h3 : -a ≤ s.size) (hz : 0 < old.size) :
    Calls Tryz.prog 131 #[.string old, .string s, .int .i64 a] w fun e w' => ∃ X, e = .returned (.string X) ∧ Over old s a X ∧ Below w.heap.size w w' := by
  obtain ⟨w1, cap, hr1, hc1, hc2, hz1, hrow, hb1⟩ := bytes_start old w (by omega)
  have hc3 : (old.size : Int) ≤ (cap : Int) := by omega
  have hlo : (bl old).length = old.size := by simp
  by_cases hn : a < 0
  · obtain ⟨q, rfl⟩ : ∃ q : Nat, a = -(q : Int) := ⟨(-a).toNat, by omega⟩
    have hq : q ≤ s.size := by omega
    have hs2 : (s.extract q s.size).size = s.size - q := by rw [ByteArray.size_extract]; omega
    have hcp := fun ty => run_copy hrow 0 cap (s.extract q s.size) ty (Nat.zero_le _)
    rw [Nat.sub_zero, hlo] at hcp
    have hR := hrow.sets ((bl (s.extract q s.size)).take (Nat.min (s.extract q s.size).size old.size)) (o := 0)
    have hst := hR.str (cap := cap)
    rw [setsL_length, hlo] at hst
    have hB := setCells_below (Nat.le_refl w.heap.size) (((bl (s.extract q s.size)).take (Nat.min (s.extract q s.size).size old.size)).map fun b => Value.int .u8 (b.toNat : Int)) 0 w1 w hb1
    have HE : Hid (Over old s (-(q : Int)) (ba (setsL (bl old) 0 ((bl (s.extract q s.size)).take (Nat.min (s.extract q s.size).size old.size))))) := by
      refine ⟨by rw [ba_size, setsL_length, hlo], fun j hj => ?_⟩
      have hbl : bl (s.extract q s.size) = (bl s).drop q := by
        show (s.extract q s.size).data.toList = _
        rw [Lib.extract_data, List.take_of_length_le (by rw [List.length_drop]; simp)]
      have hm : Nat.min (s.extract q s.size).size old.size = min (s.size - q) old.size := by rw [hs2]
      have hlt : ((bl (s.extract q s.size)).take (min (s.size - q) old.size)).length = min (s.size - q) old.size := by
        rw [List.length_take, hbl, List.length_drop]; simp
      rw [hm]
      show (setsL (bl old) 0 _)[j]? = _
      rw [setsL_get _ _ _ _ (by rw [hlt, hlo]; omega) (by rw [hlo]; exact hj), hlt]
      by_cases e : j < s.size - q
      · rw [if_pos (by omega), if_pos (by omega), List.getElem?_take, if_pos (by omega), hbl, List.getElem?_drop]
        congr 1
        omega
      · rw [if_neg (by omega), if_neg (by omega)]
        rfl
    have HC := Lib.hid (And.intro hcp (And.intro hst hB))
    generalize ba (setsL (bl old) 0 ((bl (s.extract q s.size)).take (Nat.min (s.extract q s.size).size old.size))) = X at *
    generalize (w1.setCells w.heap.size 0 (((bl (s.extract q s.size)).take (Nat.min (s.extract q s.size).size old.size)).map fun b => Value.int .u8 (b.toNat : Int))) = w2 at *
    have HST := hst
    have hneg : (-(q : Int) < 0) := hn
    have hne : - -(q : Int) = (q : Int) := by omega
    clear hcp hR hst hB hb1 hrow h3 h2
    go_enter Tryz.func131, Tryz.ntmps131
    have HCP := HC.out.1 3
    go_wp2_with fail
    go_ret
    exact ⟨X, rfl, HE.out, HC.out.2.2⟩
  · obtain ⟨q, rfl⟩ := Int.eq_ofNat_of_zero_le (show 0 ≤ a by omega)
    have hq : q < old.size := by omega
    have hcp := fun ty => run_copy hrow q (cap - q) s ty (by omega)
    rw [hlo] at hcp
    have hR := hrow.sets ((bl s).take (Nat.min s.size (old.size - q))) (o := q)
    have hst := hR.str (cap := cap)
    rw [setsL_length, hlo] at hst
    have hB := setCells_below (Nat.le_refl w.heap.size) (((bl s).take (Nat.min s.size (old.size - q))).map fun b => Value.int .u8 (b.toNat : Int)) q w1 w hb1
    have HE : Hid (Over old s q (ba (setsL (bl old) q ((bl s).take (Nat.min s.size (old.size - q)))))) := by
      refine ⟨by rw [ba_size, setsL_length, hlo], fun j hj => ?_⟩
      have hbs : (bl s).length = s.size := by simp
      have hm : Nat.min s.size (old.size - q) = min s.size (old.size - q) := rfl
      have hlt : ((bl s).take (min s.size (old.size - q))).length = min s.size (old.size - q) := by
        rw [List.length_take, hbs]; omega
      rw [hm]
      show (setsL (bl old) q _)[j]? = _
      rw [setsL_get _ _ _ _ (by rw [hlt, hlo]; omega) (by rw [hlo]; exact hj), hlt]
      by_cases e : q ≤ j ∧ j < q + s.size
      · rw [if_pos (by omega), if_pos (by omega), List.getElem?_take, if_pos (by omega)]
        congr 1
        omega
      · rw [if_neg (by omega), if_neg (by omega)]
        rfl
    have HC := Lib.hid (And.intro hcp (And.intro hst hB))
    generalize ba (setsL (bl old) q ((bl s).take (Nat.min s.size (old.size - q)))) = X at *
    generalize (w1.setCells w.heap.size q (((bl s).take (Nat.min s.size (old.size - q))).map fun b => Value.int .u8 (b.toNat : Int))) = w2 at *
    have HST := hst
    have hqc : q ≤ cap := by omega
    clear hcp hR hst hB hb1 hrow h3 h2
    go_enter Tryz.func131, Tryz.ntmps131
    have HCP := HC.out.1 3
    go_wp2_with fail
    go_ret
    exact ⟨X, rfl, HE.out, HC.out.2.2⟩
end Go.Proofs.YtghpohiinnallaaGreatDoor.Wal

/-
  Plain facts on the laying of a text, continued: a sector read, laid over, written; the flush at the end.
-/
namespace Go.Proofs.YtghpohiinnallaaGreatDoor.Wal
open Go
open Go.Proofs.YtghpohiinnallaaGreatDoor.Disk
open Go.Proofs.YtghpohiinnallaaGreatDoor.Nets (bl ba)

def overB (old s : ByteArray) (a : Int) : ByteArray := ba ((bl old).mapIdx fun j c => if a ≤ (j : Int) ∧ (j : Int) < a + s.size then (bl s).getD ((j : Int) - a).toNat 0 else c)
theorem over_overB (old s : ByteArray) (a : Int) : Over old s a (overB old s a) := by
  refine ⟨by unfold overB; rw [ba_size, List.length_mapIdx]; simp, fun j hj => ?_⟩
  show ((bl old).mapIdx _)[j]? = _
  have hl : j < (bl old).length := by simpa using hj
  rw [List.getElem?_mapIdx, List.getElem?_eq_getElem hl, Option.map_some]
  by_cases h : a ≤ (j : Int) ∧ (j : Int) < a + s.size
  · rw [if_pos h, if_pos h]
    have : ((j : Int) - a).toNat < (bl s).length := by
      have e : (bl s).length = s.size := by simp
      omega
    rw [List.getD_eq_getElem?_getD, List.getElem?_eq_getElem this]
    rfl
  · rw [if_neg h, if_neg h]
    unfold byt
    rw [List.getElem?_eq_getElem hl]
theorem Over.eq {old s X : ByteArray} {a : Int} (h : Over old s a X) : X = overB old s a := by
  have h2 := over_overB old s a
  refine ByteArray.ext (Array.ext' (List.ext_getElem? fun j => ?_))
  by_cases hj : j < old.size
  · have e1 := h.2 j hj
    have e2 := h2.2 j hj
    unfold byt at e1 e2
    rw [e1, e2]
  · rw [List.getElem?_eq_none (by have := h.1; simp; omega), List.getElem?_eq_none (by have := h2.1; simp; omega)]

/-- A sector, laid over, is what is to stand there. -/
theorem Mid.over {S0 S : St} {A f : Nat} {s : ByteArray} (h : Mid S0 A (bl s) S f) (hn : f < S0.dur.length) {a : Int} (ha : (A : Int) = (f * S0.z : Nat) + a) {k : Nat} (hk : k < S0.z) (hsz : (at0 (con S) f).size = S0.z) :
    byt (overB (at0 (con S) f) s a) k = new S0.z S0.dur A (bl s) (f * S0.z + k) := by
  have hl : (bl s).length = s.size := by simp
  rw [(over_overB _ s a).2 k (by rw [hsz]; exact hk), new, hl]
  by_cases e : a ≤ (k : Int) ∧ (k : Int) < a + s.size
  · rw [if_pos e, if_pos (by omega)]
    congr 1
    omega
  · rw [if_neg e, if_neg (by omega), ab_at _ hk]
    exact h.read (Nat.le_refl _) hn hk
theorem Mid.putX {S0 S : St} {A f : Nat} {s : List UInt8} (h : Mid S0 A s S f) (ok : Ok S0) (hn : f < S0.dur.length) (X : ByteArray) (hX : X.size = S0.z) (hb : ∀ k, k < S0.z → byt X k = new S0.z S0.dur A s (f * S0.z + k)) :
    (∃ S2, putS S (f : Nat) X = (S2, 0) ∧ S0.full = false ∧ Mid S0 A s S2 (f + 1)) ∨
    (∃ S2 c, putS S (f : Nat) X = (S2, c) ∧ c ≠ 0 ∧ Laid S0 A s S2 c ∧ Kin S0 S2 (f + 1)) := by
  have hz := ok.low
  have hnr : ¬ ((f : Int) < 0 ∨ (S.dur.length : Int) ≤ (f : Int) ∨ X.size ≠ S.z) := by
    rw [h.dur, h.z, hX]
    omega
  by_cases hl : S.left = 1
  · right
    rw [Disk.put_cut hnr h.off hl, Int.toNat_natCast]
    exact ⟨_, _, rfl, by omega, (h.put_cut hl _ hb).1, (h.put_cut hl _ hb).2⟩
  · cases hf : S.full
    · left
      have hf0 : S0.full = false := by rw [← h.full]; exact hf
      rw [Disk.put_ok hnr h.off hl hf, Int.toNat_natCast]
      exact ⟨_, rfl, hf0, h.next (by omega) hn hf0 hl _ hX hb⟩
    · right
      rw [Disk.put_full hnr h.off hl hf]
      exact ⟨_, _, rfl, by omega, (h.put_full hl hf).1, (h.put_full hl hf).2⟩
theorem Mid.put {S0 S : St} {A f : Nat} {s : ByteArray} (h : Mid S0 A (bl s) S f) (ok : Ok S0) (hn : f < S0.dur.length) {a : Int} (ha : (A : Int) = (f * S0.z : Nat) + a) (hsz : (at0 (con S) f).size = S0.z) :
    (∃ S2, putS S (f : Nat) (overB (at0 (con S) f) s a) = (S2, 0) ∧ S0.full = false ∧ Mid S0 A (bl s) S2 (f + 1)) ∨
    (∃ S2 c, putS S (f : Nat) (overB (at0 (con S) f) s a) = (S2, c) ∧ c ≠ 0 ∧ Laid S0 A (bl s) S2 c ∧ Kin S0 S2 (f + 1)) :=
  h.putX ok hn _ (by rw [(over_overB _ s a).1, hsz]) fun _ hk => h.over hn ha hk hsz
theorem Mid.flush {S0 S : St} {A f : Nat} {s : List UInt8} (h : Mid S0 A s S f) (ok : Ok S0) (hA : A + s.length ≤ f * S0.z) (hfull : S0.full = false) : ∃ S2 c, flushS S = (S2, c) ∧ Laid S0 A s S2 c ∧ Kin S0 S2 (f + 1) := by
  have hz := ok.low
  by_cases hl : S.left = 1
  · exact ⟨_, _, Disk.flush_cut h.off hl, h.flush_cut hl⟩
  · exact ⟨_, _, Disk.flush_ok h.off hl, h.flush_ok (by omega) hA hfull hl⟩
end Go.Proofs.YtghpohiinnallaaGreatDoor.Wal

/-
  Plain facts on a log, continued: how Sync and Reset may end, and what a crash leaves of the disk then. No program is named here.
-/
namespace Go.Proofs.YtghpohiinnallaaGreatDoor.Wal
open Go
open Go.Proofs.YtghpohiinnallaaGreatDoor.Disk
open Go.Proofs.YtghpohiinnallaaGreatDoor.Nets (bl ba)

theorem Pow.turn {S0 S : St} {A : Nat} {s : List UInt8} (h : Pow S0.dur A s S) (ok : Ok S) (k : S.z = S0.z) (keep : List Bool) (torn : Int) : Turn S0.z S0.dur.length S0.dur A s (crashS S keep torn).dur := by
  intro g hg
  have := h.crash ok keep torn (g := g) (by rw [h.dur, k]; exact hg)
  rw [k] at this
  exact this
theorem crash_len (S : St) (keep : List Bool) (torn : Int) : (crashS S keep torn).dur.length = S.dur.length := crashL_length _ _ _ _
theorem crash_clean (S : St) (keep : List Bool) (torn : Int) : Clean (crashS S keep torn) := ⟨rfl, rfl⟩
/-- Where nothing waits to be written a crash leaves the disk as it is. -/
theorem Clean.crash {S : St} (h : Clean S) (keep : List Bool) (torn : Int) : (crashS S keep torn).dur = S.dur := by
  show crashL S.z torn S.dur (chosen S.cache keep) = S.dur
  rw [h.cache, chosen_nil, crashL_nil]

/-- A disk has the log of these groups, nothing waits. -/
structure Has (S : St) (h : Nat) (gs : List Grp) : Prop where
  clean : Clean S
  lg : Lg S.z S.dur.length S.dur h gs
/-- The power is off; behind any crash there is the log of the one or of the other groups. -/
structure Either (S : St) (a b : List Grp) : Prop where
  off : S.off = true
  lg : ∀ keep torn, ∃ h gs, Lg S.z S.dur.length (crashS S keep torn).dur h gs ∧ (gs = a ∨ gs = b)
theorem Has.same {S S' : St} {h : Nat} {gs : List Grp} {k : Nat} (hs : Has S h gs) (c : Clean S') (hk : Kin S S' k) (hd : S'.dur = S.dur) : Has S' h gs := by
  refine ⟨c, ?_⟩
  rw [hk.z, hd]
  exact hs.lg

/-- How a Sync may end. -/
inductive SyncO (S : St) (L : Wl) (gs : List Grp) (S' : St) (L' : Wl) : Int → Prop
  | none (hw : L.wait = []) (hS : S' = S) (hL : L' = { L with wait := [] }) : SyncO S L gs S' L' 0
  | room (hw : L.wait ≠ []) (hr : sec S.dur.length * S.z - (framesS gs).length - 1 < 9 + (payS L.wait).length) (hS : S' = S) (hL : L' = { L with wait := [] }) : SyncO S L gs S' L' 8
  | full (hw : L.wait ≠ []) (hr : 9 + (payS L.wait).length ≤ sec S.dur.length * S.z - (framesS gs).length - 1) (hf : S.full = true) (hS : Has S' L.half gs) (hL : L' = { L with wait := [] }) : SyncO S L gs S' L' 81
  | power (hl : S.left ≠ 0) (hS : Either S' gs (gs ++ [L.wait])) : SyncO S L gs S' L' 80
  | done (hw : L.wait ≠ []) (hr : 9 + (payS L.wait).length ≤ sec S.dur.length * S.z - (framesS gs).length - 1) (hf : S.full = false) (hS : Has S' L.half (gs ++ [L.wait])) (hL : L' = { half := L.half, at_ := (framesS (gs ++ [L.wait])).length, wait := [] }) : SyncO S L gs S' L' 0
/-- The frame with its flag 0 was laid, or the power went. -/
theorem Has.lay0 {S S' : St} {h : Nat} {gs : List Grp} {g : Grp} {x : Int} (hs : Has S h gs) (hl : Laid S (base S.z S.dur.length h + (framesS gs).length) (frameS 0 g ++ [0]) S' x) (hk : Kin S S' 42) (ok : Ok S')
    (hr : (framesS gs).length + (frameS 0 g).length + 1 ≤ sec S.dur.length * S.z) :
    (x = 81 ∧ S.full = true ∧ Has S' h gs) ∨ (x = 80 ∧ S.left ≠ 0 ∧ Either S' gs (gs ++ [g])) ∨
    (x = 0 ∧ S.full = false ∧ Has S' h gs ∧ ∀ p, p < (frameS 0 g).length + 1 → ab S'.z S'.dur (base S'.z S'.dur.length h + (framesS gs).length + p) = (frameS 0 g ++ [0])[p]?) := by
  cases hl with
  | full hf hc hd => exact .inl ⟨rfl, hf, hs.same hc hk hd⟩
  | power hf hp =>
    refine .inr (.inl ⟨rfl, hf, hp.off, fun keep torn => ⟨h, gs, ?_, .inl rfl⟩⟩)
    rw [hk.z, hk.len]
    exact hs.lg.lay (by rfl) (hp.turn ok hk.z keep torn)
  | done hf hc hb =>
    have ht : Turned S.z S.dur.length S.dur (base S.z S.dur.length h + (framesS gs).length) (frameS 0 g ++ [0]) S'.dur := hb
    refine .inr (.inr ⟨rfl, hf, ⟨hc, ?_⟩, fun p hp => ?_⟩)
    · rw [hk.z, hk.len]
      exact hs.lg.lay (by rfl) ht.turn
    · rw [hk.z, hk.len]
      refine ht.there (by rw [List.length_append]; exact hp) ?_
      have := base_lt (z := S.z) (n := S.dur.length) (h := h) (by have := hs.lg.n1; omega) hs.lg.half
      omega
/-- The flag was laid, or the power went. -/
theorem Has.lay1 {S S' : St} {h : Nat} {gs : List Grp} {g : Grp} {x : Int} (hs : Has S h gs) (hf0 : S.full = false) (hl : Laid S (base S.z S.dur.length h + (framesS gs).length) [1] S' x) (hk : Kin S S' 42) (ok : Ok S')
    (hr : (framesS gs).length + (frameS 0 g).length + 1 ≤ sec S.dur.length * S.z) (hb : ∀ p, p < (frameS 0 g).length + 1 → ab S.z S.dur (base S.z S.dur.length h + (framesS gs).length + p) = (frameS 0 g ++ [0])[p]?) :
    (x = 80 ∧ S.left ≠ 0 ∧ Either S' gs (gs ++ [g])) ∨ (x = 0 ∧ Has S' h (gs ++ [g])) := by
  cases hl with
  | full hf _ _ => rw [hf0] at hf; cases hf
  | power hf hp =>
    refine .inl ⟨rfl, hf, hp.off, fun keep torn => ?_⟩
    rw [hk.z, hk.len]
    rcases hs.lg.flag hr hb (hp.turn ok hk.z keep torn) with ⟨_, h1⟩ | ⟨_, h1⟩
    · exact ⟨h, gs, h1, .inl rfl⟩
    · exact ⟨h, gs ++ [g], h1, .inr rfl⟩
  | done _ hc ht =>
    have ht : Turned S.z S.dur.length S.dur (base S.z S.dur.length h + (framesS gs).length) [1] S'.dur := ht
    refine .inr ⟨rfl, hc, ?_⟩
    rw [hk.z, hk.len]
    rcases hs.lg.flag hr hb ht.turn with ⟨h1, _⟩ | ⟨_, h1⟩
    · exfalso
      have := ht.there (p := 0) (by simp) (hs.lg.at_lt (p := (framesS gs).length) (by omega))
      rw [Nat.add_zero, h1] at this
      simp at this
    · exact h1

/-- What a Reset is to leave. -/
def newG (l : List ByteArray) : List Grp := if l = [] then [] else [l]
theorem newG_flat (l : List ByteArray) : (newG l).flatten = l := by
  unfold newG
  split
  · rename_i h; rw [h]; rfl
  · simp
/-- How a Reset may end. -/
inductive ResetO (S : St) (L : Wl) (gs : List Grp) (l : List ByteArray) (S' : St) (L' : Wl) : Int → Prop
  | room (hr : sec S.dur.length * S.z < 9 + (payS l).length + 1) (hS : S' = S) (hL : L' = L) : ResetO S L gs l S' L' 8
  | full (hr : 9 + (payS l).length + 1 ≤ sec S.dur.length * S.z) (hf : S.full = true) (hS : Has S' L.half gs) (hL : L' = L) : ResetO S L gs l S' L' 81
  | power (hl : S.left ≠ 0) (hS : Either S' gs (newG l)) : ResetO S L gs l S' L' 80
  | done (hr : 9 + (payS l).length + 1 ≤ sec S.dur.length * S.z) (hf : S.full = false) (hS : Has S' (1 - L.half) (newG l)) (hL : L' = { half := 1 - L.half, at_ := (framesS (newG l)).length, wait := L.wait }) : ResetO S L gs l S' L' 0
/-- The other half was laid, or the power went. -/
theorem Has.layO {S S' : St} {h : Nat} {gs gs' : List Grp} {x : Int} (hs : Has S h gs) (hl : Laid S (base S.z S.dur.length (1 - h) + 0) (framesS gs' ++ [0]) S' x) (hk : Kin S S' 42) (ok : Ok S')
    (hr : (framesS gs').length + 1 ≤ sec S.dur.length * S.z) :
    (x = 81 ∧ S.full = true ∧ Has S' h gs) ∨ (x = 80 ∧ S.left ≠ 0 ∧ Either S' gs gs') ∨
    (x = 0 ∧ S.full = false ∧ Has S' h gs ∧ ∀ p, p < (framesS gs').length + 1 → ab S'.z S'.dur (base S'.z S'.dur.length (1 - h) + p) = (framesS gs' ++ [0])[p]?) := by
  rw [Nat.add_zero] at hl
  have hlen : (framesS gs' ++ [0]).length ≤ sec S.dur.length * S.z := by rw [List.length_append]; exact hr
  cases hl with
  | full hf hc hd => exact .inl ⟨rfl, hf, hs.same hc hk hd⟩
  | power hf hp =>
    refine .inr (.inl ⟨rfl, hf, hp.off, fun keep torn => ⟨h, gs, ?_, .inl rfl⟩⟩)
    rw [hk.z, hk.len]
    exact hs.lg.other hlen (hp.turn ok hk.z keep torn)
  | done hf hc hb =>
    have ht : Turned S.z S.dur.length S.dur (base S.z S.dur.length (1 - h)) (framesS gs' ++ [0]) S'.dur := hb
    refine .inr (.inr ⟨rfl, hf, ⟨hc, ?_⟩, fun p hp => ?_⟩)
    · rw [hk.z, hk.len]
      exact hs.lg.other hlen ht.turn
    · rw [hk.z, hk.len]
      refine ht.there (by rw [List.length_append]; exact hp) ?_
      have := base_lt (z := S.z) (n := S.dur.length) (h := 1 - h) (by have := hs.lg.n1; omega) (by omega)
      omega
/-- The half was chosen, or the power went. -/
theorem Has.turned {S S' : St} {h : Nat} {gs gs' : List Grp} {x : Int} (hs : Has S h gs) (hf0 : S.full = false) (hl : Laid S 0 (UInt8.ofNat (1 - h) :: List.replicate (S.z - 1) 0) S' x) (hk : Kin S S' 42) (ok : Ok S')
    (hr : (framesS gs').length + 1 ≤ sec S.dur.length * S.z) (hb : ∀ p, p < (framesS gs').length + 1 → ab S.z S.dur (base S.z S.dur.length (1 - h) + p) = (framesS gs' ++ [0])[p]?) :
    (x = 80 ∧ S.left ≠ 0 ∧ Either S' gs gs') ∨ (x = 0 ∧ Has S' (1 - h) gs') := by
  have hz := hs.lg.z1
  have hh := hs.lg.half
  have hlen : (UInt8.ofNat (1 - h) :: List.replicate (S.z - 1) (0 : UInt8)).length = S.z := by rw [List.length_cons, List.length_replicate]; omega
  cases hl with
  | full hf _ _ => rw [hf0] at hf; cases hf
  | power hf hp =>
    refine .inl ⟨rfl, hf, hp.off, fun keep torn => ?_⟩
    rw [hk.z, hk.len]
    rcases hs.lg.turn hlen rfl hr hb (hp.turn ok hk.z keep torn) with ⟨_, h1⟩ | ⟨_, h1⟩
    · exact ⟨h, gs, h1, .inl rfl⟩
    · exact ⟨1 - h, gs', h1, .inr rfl⟩
  | done _ hc ht =>
    have ht : Turned S.z S.dur.length S.dur 0 (UInt8.ofNat (1 - h) :: List.replicate (S.z - 1) 0) S'.dur := ht
    refine .inr ⟨rfl, hc, ?_⟩
    rw [hk.z, hk.len]
    rcases hs.lg.turn hlen rfl hr hb ht.turn with ⟨h1, _⟩ | ⟨_, h1⟩
    · exfalso
      have := ht.there (p := 0) (by rw [hlen]; omega) (by have := hs.lg.pos; omega)
      rw [Nat.add_zero, h1] at this
      rcases (show h = 0 ∨ h = 1 by omega) with rfl | rfl
      · simp at this
      · simp at this
    · exact h1
end Go.Proofs.YtghpohiinnallaaGreatDoor.Wal
