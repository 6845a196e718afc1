/-
  The runes of a text in plain words (no program): every text is an encoding and a rest, or begins with a byte that begins none.
-/
import Derived.Lib.DecodeN
import Derived.Lib.RuneBytes
namespace Go.Proofs.YtpklmlhioklpoaaDoor.Glyph

def byt (n : Nat) : UInt8 := UInt8.ofNat n
theorem byt_nat (n : Nat) (h : n < 256) : (byt n).toNat = n := by unfold byt; rw [UInt8.toNat_ofNat']; omega
theorem byt_eq (c : UInt8) (n : Nat) (h : c.toNat = n) : byt n = c := by subst h; exact UInt8.ofNat_toNat
def Sc (r : Nat) : Prop := r < 55296 ∨ (57344 ≤ r ∧ r ≤ 1114111)
def enc (r : Nat) : List UInt8 :=
  if r < 128 then [byt r] else if r < 2048 then [byt (192 + r / 64), byt (128 + r % 64)]
  else if r < 65536 then [byt (224 + r / 4096), byt (128 + r / 64 % 64), byt (128 + r % 64)]
  else [byt (240 + r / 262144), byt (128 + r / 4096 % 64), byt (128 + r / 64 % 64), byt (128 + r % 64)]
theorem enc_one {r : Nat} (h : r < 128) : enc r = [byt r] := by simp [enc, h]
theorem enc_two {r : Nat} (h0 : 128 ≤ r) (h : r < 2048) : enc r = [byt (192 + r / 64), byt (128 + r % 64)] := by
  unfold enc; rw [if_neg (by omega), if_pos h]
theorem enc_three {r : Nat} (h0 : 2048 ≤ r) (h : r < 65536) : enc r = [byt (224 + r / 4096), byt (128 + r / 64 % 64), byt (128 + r % 64)] := by
  unfold enc; rw [if_neg (by omega), if_neg (by omega), if_pos h]
theorem enc_four {r : Nat} (h0 : 65536 ≤ r) : enc r = [byt (240 + r / 262144), byt (128 + r / 4096 % 64), byt (128 + r / 64 % 64), byt (128 + r % 64)] := by
  unfold enc; rw [if_neg (by omega), if_neg (by omega), if_neg (by omega)]
theorem enc_ne (r : Nat) : enc r ≠ [] := by unfold enc; repeat' split
                                            all_goals simp
theorem enc_len (r : Nat) : 1 ≤ (enc r).length ∧ (enc r).length ≤ 4 := by
  unfold enc; repeat' split
  all_goals simp
theorem enc_high {r : Nat} (h0 : 128 ≤ r) (h1 : r ≤ 1114111) : ∀ c ∈ enc r, 128 ≤ c.toNat := by
  intro c hc
  by_cases h2 : r < 2048
  · rw [enc_two h0 h2] at hc
    simp only [List.mem_cons, List.not_mem_nil, or_false] at hc
    rcases hc with rfl | rfl <;> rw [byt_nat _ (by omega)] <;> omega
  by_cases h3 : r < 65536
  · rw [enc_three (by omega) h3] at hc
    simp only [List.mem_cons, List.not_mem_nil, or_false] at hc
    rcases hc with rfl | rfl | rfl <;> rw [byt_nat _ (by omega)] <;> omega
  · rw [enc_four (by omega)] at hc
    simp only [List.mem_cons, List.not_mem_nil, or_false] at hc
    rcases hc with rfl | rfl | rfl | rfl <;> rw [byt_nat _ (by omega)] <;> omega
theorem enc_lib {r : Nat} (h : Sc r) : Lib.encodeRune (r : Int) = enc r := by
  have hc : ∀ (z : Int) (n : Nat), z = n → z.toNat.toUInt8 = byt n := by rintro z n rfl; rfl
  unfold Sc at h
  unfold Lib.encodeRune
  by_cases h1 : r < 128
  · rw [Lib.encodeRuneZ_one (by omega) (by omega), enc_one h1, List.map_singleton, hc _ _ rfl]
  by_cases h2 : r < 2048
  · rw [Lib.encodeRuneZ_two (by omega) (by omega), enc_two (by omega) h2]
    simp only [List.map_cons, List.map_nil]
    rw [hc _ (192 + r / 64) (by omega), hc _ (128 + r % 64) (by omega)]
  by_cases h3 : r < 65536
  · rw [Lib.encodeRuneZ_three (by omega), enc_three (by omega) h3]
    simp only [List.map_cons, List.map_nil]
    rw [hc _ (224 + r / 4096) (by omega), hc _ (128 + r / 64 % 64) (by omega), hc _ (128 + r % 64) (by omega)]
  · rw [Lib.encodeRuneZ_four (by omega) (by omega), enc_four (by omega)]
    simp only [List.map_cons, List.map_nil]
    rw [hc _ (240 + r / 262144) (by omega), hc _ (128 + r / 4096 % 64) (by omega), hc _ (128 + r / 64 % 64) (by omega), hc _ (128 + r % 64) (by omega)]

def at4 (l : List UInt8) (i : Nat) : Nat := (l.getD i 0).toNat
def dec (l : List UInt8) : Nat × Nat := Lib.decodeN l.length (at4 l 0) (at4 l 1) (at4 l 2) (at4 l 3)
theorem dec1 (n r x y z : Nat) (h : r < 128) : Lib.decodeN n r x y z = (r, 1) := by simp [Lib.decodeN, h]
theorem dec2 (n r x y : Nat) (hn : 2 ≤ n) (h0 : 128 ≤ r) (h : r < 2048) : Lib.decodeN n (192 + r / 64) (128 + r % 64) x y = (r, 2) := by
  unfold Lib.decodeN
  rw [if_neg (by omega), if_pos ⟨by omega, by omega, by omega⟩, if_pos (by omega)]
  have : (192 + r / 64) % 32 * 64 + (128 + r % 64) % 64 = r := by omega
  rw [this]
theorem dec3 (n r y : Nat) (hn : 3 ≤ n) (h0 : 2048 ≤ r) (h : r < 65536) (hs : Sc r) : Lib.decodeN n (224 + r / 4096) (128 + r / 64 % 64) (128 + r % 64) y = (r, 3) := by
  unfold Sc at hs
  have e : (224 + r / 4096) % 16 * 4096 + (128 + r / 64 % 64) % 64 * 64 + (128 + r % 64) % 64 = r := by omega
  unfold Lib.decodeN
  rw [if_neg (by omega), if_neg (by omega), if_pos ⟨by omega, ⟨by omega, by omega⟩, by omega, by omega⟩, e, if_pos (by omega)]
theorem dec4 (n r : Nat) (hn : 4 ≤ n) (h0 : 65536 ≤ r) (h : r ≤ 1114111) : Lib.decodeN n (240 + r / 262144) (128 + r / 4096 % 64) (128 + r / 64 % 64) (128 + r % 64) = (r, 4) := by
  have e : (240 + r / 262144) % 8 * 262144 + (128 + r / 4096 % 64) % 64 * 4096 + (128 + r / 64 % 64) % 64 * 64 + (128 + r % 64) % 64 = r := by omega
  unfold Lib.decodeN
  rw [if_neg (by omega), if_neg (by omega), if_neg (by omega), if_pos ⟨by omega, ⟨by omega, by omega⟩, ⟨by omega, by omega⟩, by omega, by omega⟩, e, if_pos (by omega)]
/-- What begins with an encoding decodes to it. -/
theorem dec_enc {r : Nat} (h : Sc r) (t : List UInt8) : dec (enc r ++ t) = (r, (enc r).length) := by
  have hs := h
  unfold Sc at hs
  by_cases h1 : r < 128
  · rw [enc_one h1]
    unfold dec at4
    simp only [List.cons_append, List.nil_append, List.getD_cons_zero, byt_nat r (by omega), List.length_singleton]
    exact dec1 _ _ _ _ _ h1
  by_cases h2 : r < 2048
  · rw [enc_two (by omega) h2]
    unfold dec at4
    simp only [List.cons_append, List.nil_append, List.getD_cons_zero, List.getD_cons_succ, byt_nat (192 + r / 64) (by omega), byt_nat (128 + r % 64) (by omega), List.length_cons, List.length_nil]
    exact dec2 _ _ _ _ (by omega) (by omega) h2
  by_cases h3 : r < 65536
  · rw [enc_three (by omega) h3]
    unfold dec at4
    simp only [List.cons_append, List.nil_append, List.getD_cons_zero, List.getD_cons_succ, byt_nat (224 + r / 4096) (by omega), byt_nat (128 + r / 64 % 64) (by omega), byt_nat (128 + r % 64) (by omega), List.length_cons, List.length_nil]
    exact dec3 _ _ _ (by omega) (by omega) h3 h
  · rw [enc_four (by omega)]
    unfold dec at4
    simp only [List.cons_append, List.nil_append, List.getD_cons_zero, List.getD_cons_succ, byt_nat (240 + r / 262144) (by omega), byt_nat (128 + r / 4096 % 64) (by omega), byt_nat (128 + r / 64 % 64) (by omega), byt_nat (128 + r % 64) (by omega), List.length_cons, List.length_nil]
    exact dec4 _ _ (by omega) (by omega) (by omega)
def Begins (l : List UInt8) : Prop := ∃ r t, Sc r ∧ l = enc r ++ t
theorem begins_of (l : List UInt8) (r k : Nat) (hs : Sc r) (hk : (enc r).length = k) (hl : k ≤ l.length) (h : ∀ i, i < k → (enc r).getD i 0 = l.getD i 0) : Begins l := by
  refine ⟨r, l.drop k, hs, ?_⟩
  have : enc r = l.take k := by
    apply List.ext_getElem
    · rw [List.length_take]; omega
    · intro i h1 h2
      have := h i (by omega)
      rw [List.getD_eq_getElem?_getD, List.getD_eq_getElem?_getD, List.getElem?_eq_getElem h1, List.getElem?_eq_getElem (by omega)] at this
      simpa using this
  rw [this, List.take_append_drop]
theorem at4_byt (l : List UInt8) (i n : Nat) (h : at4 l i = n) : byt n = l.getD i 0 := byt_eq _ _ h
theorem at4_lt (l : List UInt8) (i : Nat) : at4 l i < 256 := (l.getD i 0).toNat_lt
/-- Every text that is not empty begins with an encoding, or with a byte that decodes to none. -/
theorem dec_two (l : List UInt8) (h : l ≠ []) : Begins l ∨ (dec l = (65533, 1) ∧ 128 ≤ at4 l 0) := by
  have hl : 1 ≤ l.length := by cases l <;> simp_all
  have l0 := at4_lt l 0; have l1 := at4_lt l 1; have l2 := at4_lt l 2; have l3 := at4_lt l 3
  obtain ⟨a, ha⟩ : ∃ a, at4 l 0 = a := ⟨_, rfl⟩
  obtain ⟨b, hb⟩ : ∃ a, at4 l 1 = a := ⟨_, rfl⟩
  obtain ⟨c, hc⟩ : ∃ a, at4 l 2 = a := ⟨_, rfl⟩
  obtain ⟨d, hd⟩ : ∃ a, at4 l 3 = a := ⟨_, rfl⟩
  rw [ha] at l0; rw [hb] at l1; rw [hc] at l2; rw [hd] at l3
  by_cases c1 : a < 128
  · refine .inl (begins_of l a 1 (by unfold Sc; omega) (by rw [enc_one c1]; rfl) hl fun i hi => ?_)
    obtain rfl : i = 0 := by omega
    rw [enc_one c1]
    exact at4_byt l 0 a ha
  unfold dec
  rw [ha, hb, hc, hd]
  unfold Lib.decodeN
  rw [if_neg c1]
  by_cases c2 : a / 32 = 6 ∧ 1 < l.length ∧ b / 64 = 2
  · rw [if_pos c2]
    by_cases g : a % 32 * 64 + b % 64 ≥ 128
    · obtain ⟨r, hr⟩ : ∃ r, a % 32 * 64 + b % 64 = r := ⟨_, rfl⟩
      have e := enc_two (r := r) (by omega) (by omega)
      refine .inl (begins_of l r 2 (by unfold Sc; omega) (by rw [e]; rfl) (by omega) fun i hi => ?_)
      rw [e]
      match i, hi with
      | 0, _ => exact at4_byt l 0 _ (by omega)
      | 1, _ => exact at4_byt l 1 _ (by omega)
    · rw [if_neg g]; exact .inr ⟨rfl, by omega⟩
  rw [if_neg c2]
  by_cases c3 : a / 16 = 14 ∧ (1 < l.length ∧ b / 64 = 2) ∧ (2 < l.length ∧ c / 64 = 2)
  · rw [if_pos c3]
    obtain ⟨r, hr⟩ : ∃ r, a % 16 * 4096 + b % 64 * 64 + c % 64 = r := ⟨_, rfl⟩
    rw [hr]
    by_cases g : r ≥ 2048 ∧ (r < 55296 ∨ (57344 ≤ r ∧ r ≤ 1114111))
    · have e := enc_three (r := r) (by omega) (by omega)
      refine .inl (begins_of l r 3 g.2 (by rw [e]; rfl) (by omega) fun i hi => ?_)
      rw [e]
      match i, hi with
      | 0, _ => exact at4_byt l 0 _ (by omega)
      | 1, _ => exact at4_byt l 1 _ (by omega)
      | 2, _ => exact at4_byt l 2 _ (by omega)
    · rw [if_neg g]; exact .inr ⟨rfl, by omega⟩
  rw [if_neg c3]
  by_cases c4 : a / 8 = 30 ∧ (1 < l.length ∧ b / 64 = 2) ∧ (2 < l.length ∧ c / 64 = 2) ∧ (3 < l.length ∧ d / 64 = 2)
  · rw [if_pos c4]
    obtain ⟨r, hr⟩ : ∃ r, a % 8 * 262144 + b % 64 * 4096 + c % 64 * 64 + d % 64 = r := ⟨_, rfl⟩
    rw [hr]
    by_cases g : r ≥ 65536 ∧ (r < 55296 ∨ (57344 ≤ r ∧ r ≤ 1114111))
    · have e := enc_four (r := r) (by omega)
      refine .inl (begins_of l r 4 g.2 (by rw [e]; rfl) (by omega) fun i hi => ?_)
      rw [e]
      match i, hi with
      | 0, _ => exact at4_byt l 0 _ (by omega)
      | 1, _ => exact at4_byt l 1 _ (by omega)
      | 2, _ => exact at4_byt l 2 _ (by omega)
      | 3, _ => exact at4_byt l 3 _ (by omega)
    · rw [if_neg g]; exact .inr ⟨rfl, by omega⟩
  rw [if_neg c4]
  exact .inr ⟨rfl, by omega⟩
theorem bad_not {l : List UInt8} (h : dec l = (65533, 1)) : ¬ Begins l := by
  rintro ⟨r, t, hs, rfl⟩
  rw [dec_enc hs] at h
  obtain ⟨h1, h2⟩ := Prod.mk.inj h
  subst h1
  revert h2
  decide

/-- The sign that a text begins with: its number, or -1; and how many bytes it has. -/
def sg (l : List UInt8) : Int := if dec l = (65533, 1) then -1 else (dec l).1
def wd (l : List UInt8) : Nat := (dec l).2
theorem enc_bad_ne (r : Nat) : (r, (enc r).length) ≠ (65533, 1) := by
  intro h
  obtain ⟨h1, h2⟩ := Prod.mk.inj h
  subst h1
  revert h2
  decide
theorem sg_enc {r : Nat} (h : Sc r) (t : List UInt8) : sg (enc r ++ t) = r := by
  unfold sg
  rw [dec_enc h, if_neg (enc_bad_ne r)]
theorem wd_enc {r : Nat} (h : Sc r) (t : List UInt8) : wd (enc r ++ t) = (enc r).length := by unfold wd; rw [dec_enc h]
theorem wd_pos (l : List UInt8) (h : l ≠ []) : 1 ≤ wd l ∧ wd l ≤ l.length := by
  have hl : 1 ≤ l.length := by cases l <;> simp_all
  rcases dec_two l h with ⟨r, t, hs, rfl⟩ | ⟨hd, _⟩
  · rw [wd_enc hs]
    have := enc_len r
    simp only [List.length_append]
    omega
  · unfold wd; rw [hd]; exact ⟨Nat.le_refl _, hl⟩
theorem wd_le (l : List UInt8) (h : l ≠ []) : wd l ≤ 4 := by
  rcases dec_two l h with ⟨r, t, hs, rfl⟩ | ⟨hd, _⟩
  · rw [wd_enc hs]; exact (enc_len r).2
  · unfold wd; rw [hd]; exact Nat.le_add_left 1 3
theorem dec_le (l : List UInt8) (h : l ≠ []) : (dec l).1 ≤ 1114111 := by
  rcases dec_two l h with ⟨r, t, hs, rfl⟩ | ⟨hd, _⟩
  · rw [dec_enc hs]; unfold Sc at hs; show r ≤ _; omega
  · rw [hd]; decide
theorem sg_cases (l : List UInt8) (h : l ≠ []) : sg l = -1 ∨ (∃ r t, Sc r ∧ l = enc r ++ t ∧ sg l = r) := by
  rcases dec_two l h with ⟨r, t, hs, rfl⟩ | ⟨hd, _⟩
  · exact .inr ⟨r, t, hs, rfl, sg_enc hs t⟩
  · exact .inl (by unfold sg; rw [if_pos hd])
theorem sg_bad (l : List UInt8) (h : sg l = -1) : dec l = (65533, 1) := by
  unfold sg at h
  split at h
  · assumption
  · omega
/-- How the code tells a bad sign. -/
theorem bad_iff (l : List UInt8) (h : l ≠ []) : ((dec l).1 = 65533 ∧ ¬ [239, 191, 189] <+: l) ↔ sg l = -1 := by
  constructor
  · rintro ⟨h1, h2⟩
    rcases sg_cases l h with hb | ⟨r, t, hs, rfl, hr⟩
    · exact hb
    · rw [dec_enc hs] at h1
      have h1' : r = 65533 := h1
      subst h1'
      exact absurd ⟨t, rfl⟩ h2
  · intro hb
    have hd := sg_bad l hb
    refine ⟨by rw [hd], ?_⟩
    rintro ⟨t, rfl⟩
    exact bad_not hd ⟨65533, t, .inr ⟨by decide, by decide⟩, rfl⟩
theorem sg_of_good (l : List UInt8) (h : sg l ≠ -1) : sg l = (dec l).1 := by
  unfold sg at h ⊢
  split at h
  · exact absurd rfl h
  · rename_i g; rw [if_neg g]

def stepsF : Nat → List UInt8 → List (Int × Nat)
  | 0, _ => []
  | f + 1, l => if l = [] then [] else (sg l, wd l) :: stepsF f (l.drop (wd l))
def steps (l : List UInt8) : List (Int × Nat) := stepsF l.length l
theorem stepsF_fuel : ∀ (f g : Nat) (l : List UInt8), l.length ≤ f → l.length ≤ g → stepsF f l = stepsF g l := by
  intro f
  induction f with
  | zero =>
    intro g l h1 h2
    obtain rfl : l = [] := by cases l <;> simp_all
    cases g <;> simp [stepsF]
  | succ f ih =>
    intro g l h1 h2
    by_cases h : l = []
    · subst h; cases g <;> simp [stepsF]
    · have hw := wd_pos l h
      cases g with
      | zero => omega
      | succ g =>
        simp only [stepsF, if_neg h]
        rw [ih g _ (by rw [List.length_drop]; omega) (by rw [List.length_drop]; omega)]
theorem steps_nil : steps [] = [] := rfl
theorem steps_cons (l : List UInt8) (h : l ≠ []) : steps l = (sg l, wd l) :: steps (l.drop (wd l)) := by
  have hw := wd_pos l h
  unfold steps
  obtain ⟨n, hn⟩ : ∃ n, l.length = n + 1 := ⟨l.length - 1, by omega⟩
  rw [hn]
  simp only [stepsF, if_neg h]
  rw [stepsF_fuel n (l.drop (wd l)).length _ (by rw [List.length_drop]; omega) (Nat.le_refl _)]
theorem steps_enc {r : Nat} (h : Sc r) (t : List UInt8) : steps (enc r ++ t) = ((r : Int), (enc r).length) :: steps t := by
  rw [steps_cons _ (by simp [enc_ne]), sg_enc h, wd_enc h, List.drop_left]
/-- A proof by the signs of a text. -/
theorem by_signs {p : List UInt8 → Prop} (h0 : p []) (h1 : ∀ l, l ≠ [] → p (l.drop (wd l)) → p l) : ∀ l, p l := by
  intro l
  obtain ⟨n, hn⟩ : ∃ n, l.length ≤ n := ⟨_, Nat.le_refl _⟩
  induction n generalizing l with
  | zero =>
    obtain rfl : l = [] := by cases l <;> simp_all
    exact h0
  | succ n ih =>
    by_cases h : l = []
    · subst h; exact h0
    · have := wd_pos l h
      exact h1 l h (ih _ (by rw [List.length_drop]; omega))
def signs (l : List UInt8) : List Int := (steps l).map (·.1)
theorem signs_nil : signs [] = [] := rfl
theorem signs_cons (l : List UInt8) (h : l ≠ []) : signs l = sg l :: signs (l.drop (wd l)) := by
  unfold signs; rw [steps_cons l h]; rfl
theorem signs_enc {r : Nat} (h : Sc r) (t : List UInt8) : signs (enc r ++ t) = (r : Int) :: signs t := by
  unfold signs; rw [steps_enc h]; rfl
theorem signs_len (l : List UInt8) : (signs l).length = (steps l).length := by unfold signs; simp
theorem signs_le : ∀ l, (signs l).length ≤ l.length := by
  apply by_signs
  · simp [signs_nil]
  · intro l h ih
    have := wd_pos l h
    rw [signs_cons l h]
    rw [List.length_drop] at ih
    simp only [List.length_cons]
    omega
def Ok (n : Int) : Prop := n = -1 ∨ ∃ r : Nat, Sc r ∧ n = r
theorem signs_ok : ∀ l, ∀ n ∈ signs l, Ok n := by
  apply by_signs
  · simp [signs_nil]
  · intro l h ih n hn
    rw [signs_cons l h] at hn
    rcases List.mem_cons.1 hn with rfl | hn
    · rcases sg_cases l h with hb | ⟨r, t, hs, _, hr⟩
      · exact .inl hb
      · exact .inr ⟨r, hs, hr⟩
    · exact ih n hn
theorem signs_flat : ∀ S : List Nat, (∀ r ∈ S, Sc r) → signs (S.map enc).flatten = S.map (fun r : Nat => (r : Int)) := by
  intro S
  induction S with
  | nil => intro _; rfl
  | cons r S ih =>
    intro h
    simp only [List.map_cons, List.flatten_cons]
    rw [signs_enc (h r (by simp)), ih fun q hq => h q (by simp [hq])]

/-- The bytes of the first n signs. -/
def cl (l : List UInt8) (n : Nat) : Nat := (((steps l).take n).map (·.2)).sum
theorem cl_zero (l : List UInt8) : cl l 0 = 0 := by simp [cl]
theorem cl_nil (n : Nat) : cl [] n = 0 := by simp [cl, steps_nil]
theorem cl_cons (l : List UInt8) (h : l ≠ []) (n : Nat) : cl l (n + 1) = wd l + cl (l.drop (wd l)) n := by
  unfold cl; rw [steps_cons l h]; simp
theorem cl_le : ∀ l, ∀ n, cl l n ≤ l.length := by
  apply by_signs
  · intro n; rw [cl_nil]; exact Nat.zero_le _
  · intro l h ih n
    have := wd_pos l h
    cases n with
    | zero => rw [cl_zero]; exact Nat.zero_le _
    | succ n =>
      have := ih n
      rw [List.length_drop] at this
      rw [cl_cons l h]
      omega
theorem cl_all : ∀ l, ∀ n, l.length ≤ n → cl l n = l.length := by
  apply by_signs
  · intro n _; rw [cl_nil]; rfl
  · intro l h ih n hn
    have := wd_pos l h
    obtain ⟨m, rfl⟩ : ∃ m, n = m + 1 := ⟨n - 1, by omega⟩
    have := ih m (by rw [List.length_drop]; omega)
    rw [List.length_drop] at this
    rw [cl_cons l h]
    omega
theorem cl_mono : ∀ l, ∀ a b, a ≤ b → cl l a ≤ cl l b := by
  apply by_signs
  · intro a b _; rw [cl_nil, cl_nil]; exact Nat.le_refl _
  · intro l h ih a b hab
    cases a with
    | zero => rw [cl_zero]; exact Nat.zero_le _
    | succ a =>
      obtain ⟨c, rfl⟩ : ∃ c, b = c + 1 := ⟨b - 1, by omega⟩
      rw [cl_cons l h, cl_cons l h]
      have := ih a c (by omega)
      omega
/-- What is cut off behind a sign leaves it as it is. -/
theorem dec_take (l : List UInt8) (h : l ≠ []) (m : Nat) (h1 : wd l ≤ m) : dec (l.take m) = dec l := by
  have hw := wd_pos l h
  have hne : l.take m ≠ [] := by
    intro e
    have := congrArg List.length e
    rw [List.length_take, List.length_nil] at this
    omega
  rcases dec_two l h with ⟨r, t, hs, rfl⟩ | ⟨hd, _⟩
  · rw [wd_enc hs] at h1
    rw [List.take_append, List.take_of_length_le h1, dec_enc hs, dec_enc hs]
  · rcases dec_two _ hne with ⟨r, t, hs, he⟩ | ⟨hd', _⟩
    · exfalso
      apply bad_not hd
      refine ⟨r, t ++ l.drop m, hs, ?_⟩
      rw [← List.append_assoc, ← he, List.take_append_drop]
    · rw [hd, hd']
theorem steps_take : ∀ l, ∀ a, steps (l.take (cl l a)) = (steps l).take a := by
  apply by_signs
  · intro a; simp [steps_nil]
  · intro l h ih a
    have hw := wd_pos l h
    cases a with
    | zero => rw [cl_zero]; simp [steps_nil]
    | succ a =>
      have hc := cl_le (l.drop (wd l)) a
      rw [List.length_drop] at hc
      have hne : l.take (cl l (a + 1)) ≠ [] := by
        intro e
        have := congrArg List.length e
        rw [List.length_take, cl_cons l h, List.length_nil] at this
        omega
      have hd := dec_take l h (cl l (a + 1)) (by rw [cl_cons l h]; omega)
      rw [steps_cons _ hne, steps_cons l h]
      have e1 : sg (l.take (cl l (a + 1))) = sg l := by unfold sg; rw [hd]
      have e2 : wd (l.take (cl l (a + 1))) = wd l := by unfold wd; rw [hd]
      rw [e1, e2, List.take_succ_cons, ← ih a, List.drop_take, cl_cons l h, Nat.add_sub_cancel_left]
theorem cl_cl (l : List UInt8) (a b : Nat) (h : a ≤ b) : cl (l.take (cl l b)) a = cl l a := by
  unfold cl
  have := steps_take l b
  unfold cl at this
  rw [this, List.take_take, Nat.min_eq_left h]
theorem signs_take (l : List UInt8) (a : Nat) : signs (l.take (cl l a)) = (signs l).take a := by
  unfold signs; rw [steps_take, List.map_take]

/-- Small letters for capital ones. -/
def fd (c : UInt8) : UInt8 := if 65 ≤ c.toNat ∧ c.toNat ≤ 90 then c + 32 else c
theorem fd_high (c : UInt8) (h : 128 ≤ c.toNat) : fd c = c := by unfold fd; rw [if_neg (by omega)]
theorem fd_nat (c : UInt8) : (fd c).toNat = if 65 ≤ c.toNat ∧ c.toNat ≤ 90 then c.toNat + 32 else c.toNat := by
  unfold fd
  split
  · rw [UInt8.toNat_add]; have := c.toNat_lt; show (c.toNat + 32) % 256 = _; omega
  · rfl
theorem fd_back (c : UInt8) (h : 128 ≤ (fd c).toNat) : fd c = c := by
  have h2 := fd_nat c
  apply fd_high
  split at h2 <;> omega
theorem fd_fd (c : UInt8) : fd (fd c) = fd c := by
  have h2 := fd_nat c
  rw [show fd (fd c) = if 65 ≤ (fd c).toNat ∧ (fd c).toNat ≤ 90 then fd c + 32 else fd c from rfl, if_neg (by split at h2 <;> omega)]
def foldL (l : List UInt8) : List UInt8 := l.map fd
theorem foldL_foldL (l : List UInt8) : foldL (foldL l) = foldL l := by
  unfold foldL; rw [List.map_map]; apply List.map_congr_left; intro c _; exact fd_fd c
theorem map_high (l : List UInt8) (h : ∀ c ∈ l, 128 ≤ c.toNat) : l.map fd = l := by
  conv => rhs; rw [← List.map_id l]
  apply List.map_congr_left; intro c hc; exact fd_high c (h c hc)
theorem map_back : ∀ (m l : List UInt8), (∀ c ∈ m, 128 ≤ c.toNat) → l.map fd = m → l = m := by
  intro m
  induction m with
  | nil => intro l _ h; simpa using h
  | cons c m ih =>
    intro l h he
    cases l with
    | nil => simp at he
    | cons d l =>
      simp only [List.map_cons, List.cons.injEq] at he
      have h1 : 128 ≤ (fd d).toNat := by rw [he.1]; exact h c (by simp)
      rw [ih l (fun q hq => h q (by simp [hq])) he.2, ← he.1, fd_back d h1]
def fr (r : Nat) : Nat := if 65 ≤ r ∧ r ≤ 90 then r + 32 else r
theorem fr_sc {r : Nat} (h : Sc r) : Sc (fr r) := by unfold fr; split; · left; omega
                                                     · exact h
theorem fd_enc {r : Nat} (h : Sc r) : (enc r).map fd = enc (fr r) := by
  unfold Sc at h
  by_cases h1 : r < 128
  · have h2 : fr r < 128 := by unfold fr; split <;> omega
    rw [enc_one h1, enc_one h2]
    simp only [List.map_cons, List.map_nil]
    congr 1
    apply UInt8.toNat_inj.1
    rw [fd_nat, byt_nat r (by omega), byt_nat _ (by omega)]
    rfl
  · have h2 : fr r = r := by unfold fr; rw [if_neg (by omega)]
    rw [h2, map_high _ (enc_high (by omega) (by omega))]
theorem fr_len {r : Nat} (h : Sc r) : (enc (fr r)).length = (enc r).length := by rw [← fd_enc h, List.length_map]
theorem fold_begins (l : List UInt8) (h : Begins (foldL l)) : Begins l := by
  obtain ⟨r, t, hs, he⟩ := h
  have hs' := hs
  unfold Sc at hs'
  unfold foldL at he
  by_cases h1 : r < 128
  · rw [enc_one h1] at he
    cases l with
    | nil => simp at he
    | cons c l =>
      simp only [List.map_cons, List.cons_append, List.nil_append, List.cons.injEq] at he
      have e := congrArg UInt8.toNat he.1
      have e2 := fd_nat c
      rw [byt_nat r (by omega)] at e
      have hc : c.toNat < 128 := by split at e2 <;> omega
      exact ⟨c.toNat, l, by unfold Sc; omega, by rw [enc_one hc]; simp [byt_eq c _ rfl]⟩
  · have h2 : (l.take (enc r).length).map fd = enc r := by rw [List.map_take, he, List.take_left]
    have h3 := map_back _ _ (enc_high (by omega) (by omega)) h2
    exact ⟨r, l.drop (enc r).length, hs, by rw [← h3]; rw [h3]; conv => lhs; rw [← List.take_append_drop (enc r).length l, h3]⟩
theorem fold_wd (l : List UInt8) (h : l ≠ []) : wd (foldL l) = wd l := by
  rcases dec_two l h with ⟨r, t, hs, rfl⟩ | ⟨hd, _⟩
  · rw [wd_enc hs]
    unfold foldL
    rw [List.map_append, fd_enc hs, wd_enc (fr_sc hs), fr_len hs]
  · have hne : foldL l ≠ [] := by unfold foldL; simpa using h
    rcases dec_two _ hne with hb | ⟨hd', _⟩
    · exact absurd (fold_begins l hb) (bad_not hd)
    · unfold wd; rw [hd, hd']
theorem fold_len : ∀ l, (steps (foldL l)).length = (steps l).length := by
  apply by_signs
  · rfl
  · intro l h ih
    have hne : foldL l ≠ [] := by unfold foldL; simpa using h
    rw [steps_cons _ hne, steps_cons l h, fold_wd l h]
    simp only [List.length_cons]
    have : (foldL l).drop (wd l) = foldL (l.drop (wd l)) := by unfold foldL; rw [List.map_drop]
    rw [this, ih]
/-- The bytes of a sign, folded as the code folds them. -/
theorem fold_piece (l : List UInt8) (h : l ≠ []) : foldL (l.take (wd l)) = if 65 ≤ (dec l).1 ∧ (dec l).1 ≤ 90 then [byt ((dec l).1 + 32)] else l.take (wd l) := by
  rcases dec_two l h with ⟨r, t, hs, rfl⟩ | ⟨hd, h128⟩
  · rw [wd_enc hs, List.take_left, dec_enc hs]
    unfold foldL
    rw [fd_enc hs]
    show enc (fr r) = if 65 ≤ r ∧ r ≤ 90 then _ else _
    unfold fr
    split
    · rw [enc_one (by omega)]
    · rfl
  · have hw : wd l = 1 := by unfold wd; rw [hd]
    rw [hd, if_neg (by decide), hw]
    cases l with
    | nil => exact absurd rfl h
    | cons c l =>
      have : 128 ≤ c.toNat := h128
      simp [foldL, fd_high c this]
theorem low_piece (l : List UInt8) (h : l ≠ []) (hl : (dec l).1 < 128) : wd l = 1 ∧ (l.getD 0 0).toNat = (dec l).1 := by
  rcases dec_two l h with ⟨r, t, hs, rfl⟩ | ⟨hd, _⟩
  · rw [dec_enc hs] at hl
    have hr : r < 128 := hl
    rw [wd_enc hs, dec_enc hs, enc_one hr]
    exact ⟨rfl, byt_nat r (by omega)⟩
  · rw [hd] at hl
    exact absurd hl (by decide)
theorem high_piece (l : List UInt8) (h : l ≠ []) (hl : 128 ≤ (dec l).1) : ∀ c ∈ l.take (wd l), 128 ≤ c.toNat := by
  rcases dec_two l h with ⟨r, t, hs, rfl⟩ | ⟨hd, h128⟩
  · rw [dec_enc hs] at hl
    have hr : 128 ≤ r := hl
    rw [wd_enc hs, List.take_left]
    unfold Sc at hs
    exact enc_high hr (by omega)
  · have hw : wd l = 1 := by unfold wd; rw [hd]
    rw [hw]
    cases l with
    | nil => exact absurd rfl h
    | cons c l =>
      have : 128 ≤ c.toNat := h128
      simpa using this

/-- Cleaned. -/
def cw (n : Int) : Int := if n = -1 then 65533 else if n < 32 ∨ (127 ≤ n ∧ n ≤ 159) then 32 else n
def cleanL (l : List UInt8) : List UInt8 := ((signs l).map fun n => enc (cw n).toNat).flatten
theorem cw_sc {n : Int} (h : Ok n) : Sc (cw n).toNat ∧ 0 ≤ cw n ∧ cw n ≤ 1114111 := by
  unfold cw Sc
  rcases h with rfl | ⟨r, hs, rfl⟩
  · decide
  · unfold Sc at hs
    rw [if_neg (by omega)]
    split <;> omega
theorem cw_cw {n : Int} (h : Ok n) : cw (cw n) = cw n := by
  have h0 := (cw_sc h).2.1
  have : cw n = 65533 ∨ cw n = 32 ∨ ¬ (cw n < 32 ∨ (127 ≤ cw n ∧ cw n ≤ 159)) := by
    unfold cw
    split
    · exact .inl rfl
    split
    · exact .inr (.inl rfl)
    · exact .inr (.inr (by assumption))
  rcases this with h1 | h1 | h1
  · rw [h1]; rfl
  · rw [h1]; rfl
  · have h2 : ¬ cw n = -1 := by omega
    rw [show cw (cw n) = if cw n = -1 then 65533 else if cw n < 32 ∨ (127 ≤ cw n ∧ cw n ≤ 159) then 32 else cw n from rfl, if_neg h2, if_neg h1]
theorem cleanL_signs (l : List UInt8) : signs (cleanL l) = (signs l).map cw := by
  have : cleanL l = ((((signs l).map fun n => (cw n).toNat)).map enc).flatten := by unfold cleanL; rw [List.map_map]; rfl
  rw [this, signs_flat]
  · rw [List.map_map]
    apply List.map_congr_left
    intro n hn
    have := (cw_sc (signs_ok l n hn)).2.1
    show (((cw n).toNat : Nat) : Int) = cw n
    omega
  · intro r hr
    obtain ⟨n, hn, rfl⟩ := List.mem_map.1 hr
    exact (cw_sc (signs_ok l n hn)).1
theorem cleanL_cleanL (l : List UInt8) : cleanL (cleanL l) = cleanL l := by
  rw [show cleanL (cleanL l) = ((signs (cleanL l)).map fun n => enc (cw n).toNat).flatten from rfl, cleanL_signs, List.map_map]
  unfold cleanL
  congr 1
  apply List.map_congr_left
  intro n hn
  show enc (cw (cw n)).toNat = _
  rw [cw_cw (signs_ok l n hn)]
theorem cleanL_valid (l : List UInt8) : ∀ n ∈ signs (cleanL l), 0 ≤ n := by
  intro n hn
  rw [cleanL_signs] at hn
  obtain ⟨m, hm, rfl⟩ := List.mem_map.1 hn
  exact (cw_sc (signs_ok l m hm)).2.1
theorem cleanL_len (l : List UInt8) : (signs (cleanL l)).length = (signs l).length := by rw [cleanL_signs, List.length_map]
theorem flat_len (f : Int → List UInt8) (k : Nat) (hf : ∀ n, (f n).length ≤ k) : ∀ S : List Int, (S.map f).flatten.length ≤ k * S.length := by
  intro S
  induction S with
  | nil => simp
  | cons n S ih =>
    simp only [List.map_cons, List.flatten_cons, List.length_append, List.length_cons]
    have := hf n
    rw [Nat.mul_add]
    omega
theorem cleanL_le (l : List UInt8) : (cleanL l).length ≤ 4 * l.length := by
  have h1 := flat_len (fun n => enc (cw n).toNat) 4 (fun n => (enc_len _).2) (signs l)
  have h2 := signs_le l
  unfold cleanL
  omega

/-- Numbers in base 16. -/
def hx (d : Nat) : UInt8 := byt (if d < 10 then 48 + d else 87 + d)
def hexL (n : Nat) : List UInt8 := if n < 16 then [hx n] else hexL (n / 16) ++ [hx (n % 16)]
theorem hexL_low {n : Nat} (h : n < 16) : hexL n = [hx n] := by rw [hexL, if_pos h]
theorem hexL_high {n : Nat} (h : ¬ n < 16) : hexL n = hexL (n / 16) ++ [hx (n % 16)] := by rw [hexL, if_neg h]
theorem hx_plain (d : Nat) (h : d < 16) : 32 ≤ (hx d).toNat ∧ (hx d).toNat ≤ 126 := by
  unfold hx
  rw [byt_nat _ (by split <;> omega)]
  split <;> omega
theorem hexL_plain : ∀ n, ∀ c ∈ hexL n, 32 ≤ c.toNat ∧ c.toNat ≤ 126 := by
  intro n
  induction n using Nat.strongRecOn with
  | _ n ih =>
    intro c hc
    by_cases h : n < 16
    · rw [hexL_low h] at hc
      obtain rfl := List.mem_singleton.1 hc
      exact hx_plain n h
    · rw [hexL_high h] at hc
      rcases List.mem_append.1 hc with hc | hc
      · exact ih _ (by omega) c hc
      · obtain rfl := List.mem_singleton.1 hc
        exact hx_plain _ (by omega)
theorem hexL_len : ∀ k n, n < 16 ^ (k + 1) → (hexL n).length ≤ k + 1 := by
  intro k
  induction k with
  | zero => intro n h; rw [hexL_low (by simpa using h)]; exact Nat.le_refl _
  | succ k ih =>
    intro n h
    by_cases g : n < 16
    · rw [hexL_low g]; simp
    · rw [hexL_high g, List.length_append]
      have := ih (n / 16) (by rw [Nat.pow_succ] at h; omega)
      simp only [List.length_singleton]
      omega
/-- Spelt. -/
def sp (n : Int) : List UInt8 := if n = -1 then [123, 98, 97, 100, 125] else if 32 ≤ n ∧ n ≤ 126 ∧ n ≠ 123 then enc n.toNat else 123 :: (hexL n.toNat ++ [125])
def spellL (l : List UInt8) : List UInt8 := ((signs l).map sp).flatten
theorem sp_plain {n : Int} (_h : Ok n) : ∀ c ∈ sp n, 32 ≤ c.toNat ∧ c.toNat ≤ 126 := by
  intro c hc
  unfold sp at hc
  split at hc
  · revert c; decide
  split at hc
  · rename_i g
    rw [enc_one (by omega)] at hc
    obtain rfl := List.mem_singleton.1 hc
    rw [byt_nat _ (by omega)]
    omega
  · simp only [List.mem_cons, List.mem_append, List.not_mem_nil, or_false] at hc
    rcases hc with rfl | hc | rfl
    · decide
    · exact hexL_plain _ c hc
    · decide
theorem sp_len {n : Int} (h : Ok n) : (sp n).length ≤ 8 := by
  unfold sp
  split
  · decide
  split
  · have := enc_len n.toNat; omega
  · have h6 : n.toNat < 16 ^ 6 := by
      rcases h with rfl | ⟨r, hs, rfl⟩
      · decide
      · unfold Sc at hs; omega
    have := hexL_len 5 n.toNat h6
    simp only [List.length_cons, List.length_append, List.length_nil]
    omega
theorem spellL_le (l : List UInt8) : (spellL l).length ≤ 8 * l.length := by
  have h2 := signs_le l
  have : ∀ S : List Int, (∀ n ∈ S, Ok n) → (S.map sp).flatten.length ≤ 8 * S.length := by
    intro S
    induction S with
    | nil => simp
    | cons n S ih =>
      intro h
      simp only [List.map_cons, List.flatten_cons, List.length_append, List.length_cons]
      have h1 := sp_len (h n (by simp))
      have := ih fun q hq => h q (by simp [hq])
      omega
  have := this _ (signs_ok l)
  unfold spellL
  omega
theorem signs_plain : ∀ l : List UInt8, (∀ c ∈ l, 32 ≤ c.toNat ∧ c.toNat ≤ 126) → ∀ n ∈ signs l, 32 ≤ n ∧ n ≤ 126 := by
  intro l
  induction l with
  | nil => intro _ n hn; simp [signs_nil] at hn
  | cons c l ih =>
    intro h n hn
    have hc := h c (by simp)
    have e : c :: l = enc c.toNat ++ l := by rw [enc_one (by omega)]; simp [byt_eq c _ rfl]
    rw [e, signs_enc (by unfold Sc; omega)] at hn
    rcases List.mem_cons.1 hn with rfl | hn
    · omega
    · exact ih (fun q hq => h q (by simp [hq])) n hn
theorem spellL_plain (l : List UInt8) : ∀ n ∈ signs (spellL l), 32 ≤ n ∧ n ≤ 126 := by
  apply signs_plain
  intro c hc
  unfold spellL at hc
  obtain ⟨p, hp, hcp⟩ := List.mem_flatten.1 hc
  obtain ⟨n, hn, rfl⟩ := List.mem_map.1 hp
  exact sp_plain (signs_ok l n hn) c hcp

/-- The words between blanks. -/
def blank (c : UInt8) : Bool := decide (c.toNat = 32 ∨ c.toNat = 9 ∨ c.toNat = 13 ∨ c.toNat = 10)
def wordsA : List UInt8 → List UInt8 → List (List UInt8)
  | w, [] => if w = [] then [] else [w]
  | w, c :: t => if blank c = true then (if w = [] then wordsA [] t else w :: wordsA [] t) else wordsA (w ++ [c]) t
theorem wordsA_run : ∀ (p w t : List UInt8), (∀ c ∈ p, blank c = false) → wordsA w (p ++ t) = wordsA (w ++ p) t := by
  intro p
  induction p with
  | nil => intro w t _; simp
  | cons c p ih =>
    intro w t h
    have hc := h c (by simp)
    rw [List.cons_append, wordsA, if_neg (by rw [hc]; decide), ih (w ++ [c]) t fun q hq => h q (by simp [hq])]
    simp
theorem wordsA_more : ∀ (t w : List UInt8), wordsA w (t ++ [13, 10, 9]) = wordsA w t := by
  intro t
  induction t with
  | nil =>
    intro w
    by_cases h : w = [] <;> simp [wordsA, h, blank]
  | cons c t ih =>
    intro w
    rw [List.cons_append]
    simp only [wordsA]
    rw [ih, ih]
theorem words_more (l : List UInt8) : wordsA [] (32 :: (l ++ [13, 10, 9])) = wordsA [] l := by
  rw [wordsA, if_pos (by decide), if_pos rfl, wordsA_more]
end Go.Proofs.YtpklmlhioklpoaaDoor.Glyph
