/-
  What is shown is read again; so many addresses: in plain words.
-/
import Derived.Test.YtklmhjoiffaniaaDoorMbxSide
import Derived.Test.YtklmhjoiffaniaaDoorMbxShow
namespace Go.Proofs.YtklmhjoiffaniaaDoor.Mbx
open Go.Proofs.YtklmhjoiffaniaaDoor.Lex
open Go.Proofs.YtklmhjoiffaniaaDoor.Addr (Ad ofL textL tkL tkD parseL parse_text scan_text right_parts tkD_noat dottedB label_atom sc_dotted pl_tx am64 sp64 join_pieces pcs_ne)

/-! Tokens of what is written. -/
def tkN (n : List UInt8) : List Tk := if (pieces n).all atomB = true then (pieces n).map fun p => ⟨1, ba p⟩ else [⟨2, ba n⟩]
def tkA (a : Ad) : List Tk := tkL a.l ++ ⟨3, ba [64]⟩ :: tkD (Addr.pieces a.d)
abbrev ltT : Tk := ⟨3, ba [60]⟩
abbrev gtT : Tk := ⟨3, ba [62]⟩
def tokB (b : Bx) : List Tk := if (bl b.n).isEmpty = true then tkA (adOf b) else tkN (bl b.n) ++ ltT :: (tkA (adOf b) ++ [gtT])
def toksAll : List Bx → List Tk
  | [] => []
  | [b] => tokB b
  | b :: c :: r => tokB b ++ ⟨3, commaS⟩ :: toksAll (c :: r)
theorem am32 : am 32 = false := by decide
theorem am44 : am 44 = false := by decide
theorem am62 : am 62 = false := by decide
theorem sp60 : sp 60 = true := by decide
theorem sp62 : sp 62 = true := by decide
theorem starts {d : UInt8} {r : List UInt8} (h : am d = false) : ∀ c t, d :: r = c :: t → am c = false := by
  intro c t e
  obtain ⟨rfl, _⟩ := List.cons.inj e
  exact h
theorem sc_spaced : ∀ (ps : List (List UInt8)) (out : List Tk) (y : List UInt8), ps ≠ [] → (∀ p ∈ ps, atomB p = true) → (∀ c t, y = c :: t → am c = false) → sc false .z out (join ps ++ y) = sc false .z (out ++ ps.map fun p => ⟨1, ba p⟩) y
  | [], _, _, h, _, _ => absurd rfl h
  | [p], out, y, _, h, hy => by
    obtain ⟨h1, h2⟩ := atomB_iff.1 (h p (by simp))
    exact sc_one out h1 h2 hy
  | p :: q :: r, out, y, _, h, hy => by
    obtain ⟨h1, h2⟩ := atomB_iff.1 (h p (by simp))
    rw [join_cons (by simp), List.append_assoc, List.cons_append, sc_one out h1 h2 (starts am32), sc_blank _ _ _ bk32, sc_spaced (q :: r) _ y (by simp) (fun x hx => h x (List.mem_cons_of_mem _ hx)) hy]
    simp
theorem sc_phrase (n : List UInt8) (out : List Tk) (y : List UInt8) (hn : ∀ c ∈ n, tx c = true) (hy : ∀ c t, y = c :: t → am c = false) : sc false .z out (phraseL n ++ y) = sc false .z (out ++ tkN n) y := by
  unfold phraseL tkN
  split
  · rename_i h
    have := sc_spaced (pieces n) out y (pcs_ne n []) (fun p hp => List.all_eq_true.1 h p hp) hy
    rwa [join_pieces] at this
  · exact sc_quoted n out y hn
theorem sc_addr (a : Ad) (out : List Tk) (y : List UInt8) (ha : Right a) (hy : ∀ c t, y = c :: t → am c = false) : sc false .z out (textL a ++ y) = sc false .z (out ++ tkA a) y := by
  obtain ⟨h1, h2, _⟩ := right_parts ha
  have hl : ∀ (z : List UInt8), (∀ c t, z = c :: t → am c = false) → sc false .z out ((if dottedB a.l = true then a.l else quoteL a.l) ++ z) = sc false .z (out ++ tkL a.l) z := by
    intro z hz
    unfold tkL
    split
    · rename_i h
      have := sc_dotted (Addr.pieces a.l) out z (Addr.pcs_ne a.l []) (fun p hp => List.all_eq_true.1 h p hp) hz
      rw [Addr.join_pieces] at this
      exact this
    · exact sc_quoted a.l out z (fun c hc => pl_tx c (h1 c hc))
  unfold textL tkA
  rw [List.append_assoc, List.cons_append, hl _ (starts am64), sc_special _ _ _ sp64]
  have := sc_dotted (Addr.pieces a.d) (out ++ tkL a.l ++ [⟨3, ba [64]⟩]) y (Addr.pcs_ne a.d []) (fun p hp => label_atom (h2 p hp)) hy
  rw [Addr.join_pieces] at this
  rw [this]
  simp
theorem of_tkA {a : Ad} (ha : Right a) : ofL (tkA a) = (a, 0) := by
  have h := parse_text ha
  unfold parseL at h
  rw [scan_text ha, if_pos rfl] at h
  exact h
theorem sc_show (b : Bx) (out : List Tk) (y : List UInt8) (hb : Good b) (hy : ∀ c t, y = c :: t → am c = false) : sc false .z out (showL b ++ y) = sc false .z (out ++ tokB b) y := by
  unfold showL tokB
  split
  · exact sc_addr _ out y hb.2 hy
  · have e : phraseL (bl b.n) ++ ([32, 60] ++ (textL (adOf b) ++ [62])) ++ y = phraseL (bl b.n) ++ (32 :: 60 :: (textL (adOf b) ++ (62 :: y))) := by simp
    rw [e, sc_phrase _ out _ hb.1 (starts am32), sc_blank _ _ _ bk32, sc_special _ _ _ sp60, sc_addr _ _ _ hb.2 (starts am62), sc_special _ _ _ sp62]
    simp
theorem sc_all : ∀ (l : List Bx) (out : List Tk), l ≠ [] → (∀ b ∈ l, Good b) → sc false .z out (showAllL l) = (0, out ++ toksAll l)
  | [], _, h, _ => absurd rfl h
  | [b], out, _, h => by
    have := sc_show b out [] (h b (by simp)) (by intro c t e; cases e)
    rw [List.append_nil, sc_nil] at this
    exact this
  | b :: c :: r, out, _, h => by
    have ih := sc_all (c :: r) (out ++ tokB b ++ [⟨3, commaS⟩]) (by simp) (fun x hx => h x (List.mem_cons_of_mem _ hx))
    have e : showAllL (b :: c :: r) = showL b ++ (44 :: 32 :: showAllL (c :: r)) := rfl
    rw [e, sc_show b out _ (h b (by simp)) (starts am44), sc_special _ _ _ sp44, sc_blank _ _ _ bk32]
    rw [show (⟨3, ba [44]⟩ : Tk) = ⟨3, commaS⟩ from rfl, ih]
    simp [toksAll]

/-! They are read as they were. -/
theorem plain_tkN (n : List UInt8) : plain (tkN n) = true := by
  unfold tkN plain
  split
  · rw [List.all_map]
    simp
  · rfl
theorem end_tkN (n : List UInt8) : ∀ t ∈ tkN n, endT t = false := by
  intro t ht
  have h := List.all_eq_true.1 (plain_tkN n) t ht
  unfold endT
  have : decide (t.kind = 3) = false := by simpa using h
  rw [this]
  rfl
theorem joinS_join : ∀ ps : List (List UInt8), joinS [32] ps = join ps
  | [] => rfl
  | [p] => rfl
  | p :: q :: r => by
    have ih := joinS_join (q :: r)
    show p ++ ([32] ++ joinS [32] (q :: r)) = p ++ 32 :: join (q :: r)
    rw [ih]
    rfl
theorem name_tkN (n : List UInt8) : nameL (tkN n) = n := by
  unfold tkN nameL
  split
  · rw [List.map_map, joinS_join]
    have : ((fun t : Tk => bl t.text) ∘ fun p => (⟨1, ba p⟩ : Tk)) = id := by funext p; simp
    rw [this, List.map_id, Mbx.join_pieces]
  · simp [joinS]
theorem end_tkD : ∀ ps : List (List UInt8), ∀ t ∈ tkD ps, endT t = false
  | [], t, h => by cases h
  | [p], t, h => by
    obtain rfl := List.mem_singleton.1 h
    rfl
  | p :: q :: r, t, h => by
    rcases List.mem_cons.1 h with rfl | h
    · rfl
    · rcases List.mem_cons.1 h with rfl | h
      · rfl
      · exact end_tkD (q :: r) t h
theorem end_tkA (a : Ad) : ∀ t ∈ tkA a, endT t = false := by
  intro t ht
  unfold tkA at ht
  rcases List.mem_append.1 ht with ht | ht
  · unfold tkL at ht
    split at ht
    · exact end_tkD _ t ht
    · obtain rfl := List.mem_singleton.1 ht
      rfl
  · rcases List.mem_cons.1 ht with rfl | ht
    · rfl
    · exact end_tkD _ t ht
theorem cut_tokB (b : Bx) : cutL (tokB b) = if (bl b.n).isEmpty = true then [⟨tkA (adOf b), ⟨#[]⟩⟩] else [⟨tkN (bl b.n), ba [60]⟩, ⟨tkA (adOf b), ba [62]⟩, ⟨[], ⟨#[]⟩⟩] := by
  unfold tokB
  split
  · exact cut_all _ (end_tkA _)
  · rw [cut_sign _ ltT _ (end_tkN _) rfl, cut_sign _ gtT _ (end_tkA _) rfl]
    rfl
theorem angle_no {l : List Tk} {s : ByteArray} (h : sgB s 60 = false) : ¬ angle ⟨l, s⟩ = true := by
  unfold angle
  rw [h]
  intro e
  cases e
theorem colon_no {l : List Tk} {s : ByteArray} (h : sgB s 58 = false) : ¬ colon ⟨l, s⟩ = true := by
  unfold colon
  rw [h]
  intro e
  cases e
theorem lst_one {b : Bx} {B : List Bx} {N : Nat} (hb : Good b) (hB : B.length ≠ 100) (hN : (cutL (tokB b)).length ≤ N) : lst N (cutL (tokB b)) B = (0, B ++ [b]) := by
  rw [cut_tokB] at hN ⊢
  split at hN
  · rename_i he
    rw [if_pos he]
    obtain ⟨N', rfl⟩ : ∃ N', N = N' + 1 := ⟨N - 1, by simp at hN; omega⟩
    have e : bxOf [] (adOf b) = b := by
      obtain ⟨n, l, d⟩ := b
      have hn : n = ⟨#[]⟩ := by
        have := congrArg ba (List.isEmpty_iff.1 he)
        rw [ba_bl] at this
        exact this
      unfold bxOf adOf
      rw [ba_bl, ba_bl, hn]
    have hm : mbxP [⟨tkA (adOf b), ⟨#[]⟩⟩] B = (0, [⟨[], ⟨#[]⟩⟩], B ++ [b]) := by
      rw [mbxP, if_neg (angle_no (sg_nil _)), adr_yes (by rw [of_tkA hb.2]) hB, if_pos rfl, of_tkA hb.2, e]
    rw [lst, prt, if_neg (colon_no (sg_nil _)), hm, cont_yes, done_one rfl, if_pos rfl]
  · rename_i he
    rw [if_neg he]
    obtain ⟨N', rfl⟩ : ∃ N', N = N' + 1 := ⟨N - 1, by simp at hN; omega⟩
    have e : bxOf (bl b.n) (adOf b) = b := by
      unfold bxOf adOf
      rw [ba_bl, ba_bl, ba_bl]
    have ha : angle ⟨tkN (bl b.n), ba [60]⟩ = true := by
      unfold angle
      rw [plain_tkN]
      rfl
    have hm : mbxP [⟨tkN (bl b.n), ba [60]⟩, ⟨tkA (adOf b), ba [62]⟩, ⟨[], ⟨#[]⟩⟩] B = (0, [⟨[], ⟨#[]⟩⟩], B ++ [b]) := by
      rw [mbxP, if_pos ha, angP, name_tkN, adr_yes (by rw [of_tkA hb.2]) hB, if_pos rfl, if_pos (show sgB (ba [62]) 62 = true from rfl), of_tkA hb.2, e]
    rw [lst, prt, if_neg (colon_no rfl), hm, cont_yes, done_one rfl, if_pos rfl]
theorem wf_tokB {b : Bx} (hb : Good b) : Wf (cutL (tokB b)) := by
  have := sc_show b [] [] hb (by intro c t e; cases e)
  rw [sc_nil, List.append_nil] at this
  exact ⟨_, (scan_ok (l := showL b) (T := tokB b) this).1, rfl⟩
theorem lst_all : ∀ (l B : List Bx) (N : Nat), l ≠ [] → (∀ b ∈ l, Good b) → B.length + l.length ≤ 100 → (cutL (toksAll l)).length ≤ N → lst N (cutL (toksAll l)) B = (0, B ++ l)
  | [], _, _, h, _, _, _ => absurd rfl h
  | [b], B, N, _, h, hl, hN => lst_one (h b (by simp)) (by simp at hl; omega) hN
  | b :: c :: r, B, N, _, h, hl, hN => by
    have hb := h b (by simp)
    have e : toksAll (b :: c :: r) = tokB b ++ ⟨3, commaS⟩ :: toksAll (c :: r) := rfl
    rw [e, cut_join] at hN ⊢
    have h1 := lst_one (N := (cutL (tokB b)).length) hb (B := B) (by simp at hl; omega) (Nat.le_refl _)
    rw [lst_join (cutL (toksAll (c :: r))) _ (Nat.le_refl _) _ _ B (B ++ [b]) N (wf_tokB hb) h1 hN]
    rw [lst_all (c :: r) (B ++ [b]) _ (by simp) (fun x hx => h x (List.mem_cons_of_mem _ hx)) (by simp at hl ⊢; omega) (Nat.le_refl _)]
    simp
/-- SHOWN AND READ. -/
theorem read_all {l : List Bx} (h0 : l ≠ []) (h : ∀ b ∈ l, Good b) (hl : l.length ≤ 100) : readL (showAllL l) = (0, l) := by
  have hs : scan (showAllL l) = (0, toksAll l) := sc_all l [] h0 h
  rw [read_of hs]
  exact lst_all l [] _ h0 h (by simpa using hl) (Nat.le_refl _)
theorem read_one {b : Bx} (h : Good b) : readL (showL b) = (0, [b]) := read_all (l := [b]) (by simp) (by intro x hx; obtain rfl := List.mem_singleton.1 hx; exact h) (by simp)
theorem one_show {b : Bx} (h : Good b) : oneL (showL b) = (b, 0) := by
  unfold oneL
  rw [read_one h]
  rfl
theorem text_right {a : Ad} (h : Right a) : (textL a).length ≤ 254 := (right_parts h).2.2.2.2
theorem show_right {b : Bx} (h : Good b) : (showL b).length ≤ 2 * b.n.size + 260 := by
  have h1 := phrase_len (bl b.n)
  have h2 := text_right h.2
  rw [bl_len] at h1
  unfold showL
  split
  · omega
  · simp only [List.length_append, List.length_cons, List.length_nil]
    omega
theorem all_right : ∀ l : List Bx, (∀ b ∈ l, Good b) → (showAllL l).length ≤ 2 * sumN l + 262 * l.length
  | [], _ => by simp [showAllL, joinS]
  | [b], h => by
    have := show_right (h b (by simp))
    show (showL b).length ≤ _
    simp only [sumN, List.map_cons, List.map_nil, List.sum_cons, List.sum_nil, List.length_cons, List.length_nil]
    omega
  | b :: c :: r, h => by
    have ih := all_right (c :: r) (fun x hx => h x (List.mem_cons_of_mem _ hx))
    have h1 := show_right (h b (by simp))
    have e : showAllL (b :: c :: r) = showL b ++ (44 :: 32 :: showAllL (c :: r)) := rfl
    have e2 : sumN (b :: c :: r) = b.n.size + sumN (c :: r) := by simp [sumN]
    rw [e, e2, List.length_append]
    simp only [List.length_cons] at *
    omega

/-! So many addresses. -/
def t3 : List Tk := [⟨1, ba [97]⟩, ⟨3, ba [64]⟩, ⟨1, ba [98]⟩]
def b0 : Bx := ⟨⟨#[]⟩, ba [97], ba [98]⟩
theorem of_t3 : ofL t3 = (⟨[97], [98]⟩, 0) := by kernel_rfl
def manyL : Nat → List UInt8
  | 0 => [97, 64, 98]
  | k + 1 => manyL k ++ [44, 97, 64, 98]
def mtk : Nat → List Tk
  | 0 => t3
  | k + 1 => t3 ++ ⟨3, commaS⟩ :: mtk k
theorem many_front : ∀ k, manyL (k + 1) = [97, 64, 98, 44] ++ manyL k
  | 0 => rfl
  | k + 1 => by
    show manyL (k + 1) ++ [44, 97, 64, 98] = [97, 64, 98, 44] ++ (manyL k ++ [44, 97, 64, 98])
    rw [many_front k]
    simp
theorem many_len : ∀ k, (manyL k).length = 3 + 4 * k
  | 0 => rfl
  | k + 1 => by rw [manyL, List.length_append, many_len k]; simp; omega
theorem sc_t3 (out : List Tk) (y : List UInt8) (hy : ∀ c t, y = c :: t → am c = false) : sc false .z out ([97, 64, 98] ++ y) = sc false .z (out ++ t3) y := by
  show sc false .z out ([97] ++ (64 :: ([98] ++ y))) = _
  rw [sc_one out (x := [97]) (by simp) (by decide) (starts am64), sc_special _ _ _ sp64, sc_one _ (x := [98]) (by simp) (by decide) hy]
  simp [t3]
theorem sc_many : ∀ (k : Nat) (out : List Tk) (y : List UInt8), (∀ c t, y = c :: t → am c = false) → sc false .z out (manyL k ++ y) = sc false .z (out ++ mtk k) y
  | 0, out, y, hy => sc_t3 out y hy
  | k + 1, out, y, hy => by
    rw [many_front]
    have e : [97, 64, 98, 44] ++ manyL k ++ y = [97, 64, 98] ++ (44 :: (manyL k ++ y)) := by simp
    rw [e, sc_t3 out _ (starts am44), sc_special _ _ _ sp44, sc_many k _ y hy]
    rw [show (⟨3, ba [44]⟩ : Tk) = ⟨3, commaS⟩ from rfl]
    simp [mtk]
theorem end_t3 : ∀ t ∈ t3, endT t = false := by
  intro t ht
  unfold t3 at ht
  simp only [List.mem_cons, List.not_mem_nil, or_false] at ht
  rcases ht with rfl | rfl | rfl <;> rfl
theorem cut_mtk (k : Nat) (R : List Tk) : cutL (mtk (k + 1) ++ R) = ⟨t3, commaS⟩ :: cutL (mtk k ++ R) := by
  rw [mtk, List.append_assoc, List.cons_append]
  exact cut_sign t3 _ _ end_t3 rfl
theorem mbx_t3 {s : ByteArray} {r : List Pc} {B : List Bx} (hs : sgB s 60 = false) : mbxP (⟨t3, s⟩ :: r) B = if B.length = 100 then no 8 else (0, ⟨[], s⟩ :: r, B ++ [b0]) := by
  rw [mbxP, if_neg (angle_no hs)]
  by_cases hB : B.length = 100
  · rw [adr_full (by rw [of_t3]) hB, if_pos hB]
    rfl
  · rw [adr_yes (by rw [of_t3]) hB, if_neg hB, of_t3]
    rfl
theorem colon_t3 {s : ByteArray} (hs : sgB s 58 = false) : colon ⟨t3, s⟩ = false := by unfold colon; rw [hs]; rfl
theorem many_list : ∀ (j : Nat) (B : List Bx) (N : Nat), (cutL (mtk j)).length ≤ N → B.length ≤ 100 → lst N (cutL (mtk j)) B = if B.length + (j + 1) ≤ 100 then (0, B ++ List.replicate (j + 1) b0) else (8, [])
  | 0, B, N, hN, hB => by
    have e : cutL (mtk 0) = [⟨t3, ⟨#[]⟩⟩] := cut_all t3 end_t3
    rw [e] at hN ⊢
    obtain ⟨N', rfl⟩ : ∃ N', N = N' + 1 := ⟨N - 1, by simp at hN; omega⟩
    rw [lst, prt, if_neg (by rw [colon_t3 (sg_nil _)]; decide), mbx_t3 (sg_nil _)]
    by_cases h : B.length = 100
    · rw [if_pos h, if_neg (by omega)]
      rfl
    · rw [if_neg h, if_pos (by omega), cont_yes, done_one rfl, if_pos rfl]
      rfl
  | j + 1, B, N, hN, hB => by
    have e := cut_mtk j []
    rw [List.append_nil, List.append_nil] at e
    rw [e] at hN ⊢
    obtain ⟨N', rfl⟩ : ∃ N', N = N' + 1 := ⟨N - 1, by simp at hN; omega⟩
    rw [lst, prt, if_neg (by rw [colon_t3 (by decide)]; decide), mbx_t3 (by decide)]
    by_cases h : B.length = 100
    · rw [if_pos h, if_neg (by omega)]
      rfl
    · rw [if_neg h, cont_yes, done_no (by decide), if_neg (by decide), take_yes (u := ⟨[], commaS⟩) rfl rfl]
      simp only
      rw [many_list j (B ++ [b0]) N' (by simp at hN; omega) (by rw [List.length_append]; simp; omega), List.length_append]
      simp only [List.length_cons, List.length_nil]
      by_cases h2 : B.length + (j + 1 + 1) ≤ 100
      · rw [if_pos (by omega), if_pos h2, List.replicate_succ (n := j + 1)]
        simp
      · rw [if_neg (by omega), if_neg h2]
abbrev semiT : Tk := ⟨3, ba [59]⟩
theorem many_grp : ∀ (j : Nat) (B : List Bx) (N : Nat), (cutL (mtk j ++ [semiT])).length ≤ N → B.length ≤ 100 → grp N (cutL (mtk j ++ [semiT])) B = if B.length + (j + 1) ≤ 100 then (0, [⟨[], ⟨#[]⟩⟩], B ++ List.replicate (j + 1) b0) else no 8
  | 0, B, N, hN, hB => by
    have e : cutL (mtk 0 ++ [semiT]) = [⟨t3, ba [59]⟩, ⟨[], ⟨#[]⟩⟩] := cut_sign t3 semiT [] end_t3 rfl
    rw [e] at hN ⊢
    obtain ⟨N', rfl⟩ : ∃ N', N = N' + 1 := ⟨N - 1, by simp at hN; omega⟩
    rw [grp, mbx_t3 (by decide)]
    by_cases h : B.length = 100
    · rw [if_pos h, if_neg (show ¬ (no 8).1 = 0 by decide), if_neg (by omega)]
      rfl
    · rw [if_neg h, if_pos rfl, if_pos (by omega), take_yes (u := ⟨[], ba [59]⟩) rfl rfl]
      rfl
  | j + 1, B, N, hN, hB => by
    rw [cut_mtk j [semiT]] at hN ⊢
    obtain ⟨N', rfl⟩ : ∃ N', N = N' + 1 := ⟨N - 1, by simp at hN; omega⟩
    rw [grp, mbx_t3 (by decide)]
    by_cases h : B.length = 100
    · rw [if_pos h, if_neg (show ¬ (no 8).1 = 0 by decide), if_neg (by omega)]
      rfl
    · rw [if_neg h, if_pos rfl, take_no (c := 59) (u := ⟨[], commaS⟩) (show bl commaS ≠ [59] by decide)]
      simp only
      rw [take_yes (c := 44) (u := ⟨[], commaS⟩) rfl rfl]
      simp only
      rw [many_grp j (B ++ [b0]) N' (by simp at hN; omega) (by rw [List.length_append]; simp; omega), List.length_append]
      simp only [List.length_cons, List.length_nil]
      by_cases h2 : B.length + (j + 1 + 1) ≤ 100
      · rw [if_pos (by omega), if_pos h2, List.replicate_succ (n := j + 1)]
        simp
      · rw [if_neg (by omega), if_neg h2]
theorem read_many (j : Nat) : readL (manyL j) = if j + 1 ≤ 100 then (0, List.replicate (j + 1) b0) else (8, []) := by
  have hs : scan (manyL j) = (0, mtk j) := by
    have := sc_many j [] [] (by intro c t e; cases e)
    rw [sc_nil, List.append_nil] at this
    exact this
  rw [read_of hs, many_list j [] _ (Nat.le_refl _) (by simp)]
  simp
theorem read_many_group (j : Nat) : readL ([103, 58] ++ manyL j ++ [59]) = if j + 1 ≤ 100 then (0, List.replicate (j + 1) b0) else (8, []) := by
  have hs : scan ([103, 58] ++ manyL j ++ [59]) = (0, [⟨1, ba [103]⟩, ⟨3, ba [58]⟩] ++ (mtk j ++ [semiT])) := by
    show sc false .z [] _ = _
    have e : ([103, 58] ++ manyL j ++ [59] : List UInt8) = [103] ++ (58 :: (manyL j ++ [59])) := by simp
    rw [e, sc_one [] (x := [103]) (by simp) (by decide) (starts (by decide)), sc_special _ _ _ (by decide), sc_many j _ [59] (starts (by decide)), sc_special _ _ _ (by decide), sc_nil]
    simp [fin]
  have hc : cutL ([⟨1, ba [103]⟩, ⟨3, ba [58]⟩] ++ (mtk j ++ [semiT])) = ⟨[⟨1, ba [103]⟩], ba [58]⟩ :: cutL (mtk j ++ [semiT]) := by
    exact cut_sign [⟨1, ba [103]⟩] ⟨3, ba [58]⟩ (mtk j ++ [semiT]) (by intro t ht; obtain rfl := List.mem_singleton.1 ht; rfl) rfl
  have hcol : colon ⟨[⟨1, ba [103]⟩], ba [58]⟩ = true := by kernel_rfl
  obtain ⟨p, r, hq, hp⟩ : ∃ p r, cutL (mtk j ++ [semiT]) = p :: r ∧ p.l ≠ [] := by
    cases j with
    | zero => exact ⟨_, _, cut_sign t3 semiT [] end_t3 rfl, by decide⟩
    | succ j => exact ⟨_, _, cut_mtk j [semiT], by simp [t3]⟩
  rw [read_of hs, hc, List.length_cons, lst, prt, if_pos hcol]
  unfold grp0
  have ht : takeP 59 (cutL (mtk j ++ [semiT])) = none := by rw [hq]; exact take_full hp
  rw [ht]
  simp only
  rw [many_grp j [] _ (Nat.le_refl _) (by simp)]
  simp only [List.length_nil, Nat.zero_add, List.nil_append]
  by_cases h : j + 1 ≤ 100
  · rw [if_pos h, if_pos h, cont_yes, done_one rfl, if_pos rfl]
  · rw [if_neg h, if_neg h]
    rfl
end Go.Proofs.YtklmhjoiffaniaaDoor.Mbx
