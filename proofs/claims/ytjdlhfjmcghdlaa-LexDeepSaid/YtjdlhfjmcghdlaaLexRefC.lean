/-
  Walks of the document's Print, and of To.
-/
import Derived.Test.YtjdlhfjmcghdlaaLexRefB
namespace Go.Proofs.Ytjdlhfjmcghdlaa.Lex
open Go Go.RowKit

theorem step_append_run {P : Program} {ops : Array Oper} {o : Oper} {a : Act} {w w' : World} {K : Act → World → Prop} {Q : Exit → Act → World → Prop} {E : Prop}
    (hg : o.guard = none) (s x : Operand) (t : TypeId) (hop : o.op = Op.call { callee := Callee.builtin Builtin.append, args := #[s, x], argTypes := #[t, t] })
    (u v r : Value) (hs : a.eval s = u) (hx : a.eval x = v) (hrun : (Builtin.append_ #[t, t] o.type #[u, v]).run P w = .ok r w') (hK : K (a.put o.dst r) w') :
    if Region.wanted o (yielded ops a.tmps) = true then Oper.wp P o a w K Q else E := by
  have hw : Region.wanted o (yielded ops a.tmps) = true := by simp [Region.wanted, hg]
  rw [if_pos hw]
  unfold Oper.wp
  simp [execOp, hop, resolve, invoke, builtin, hs, hx, hrun, Result.andThen]
  exact hK

theorem app_text (a : List UInt8) (t : ByteArray) : ba a ++ t = ba (a ++ bl t) := by rw [← ba_app, ba_bl]
set_option maxRecDepth 100000 in
set_option maxHeartbeats 4000000 in
theorem to_any (v : Value) (l : List Tk) (w : World) (h : ReadsT w v l) (hl : l.length ≤ 100000) :
    Calls Try.prog 20 #[v] w fun e w' => ∃ u, e = .returned u ∧ ReadsT w' u l ∧ Below w.heap.size w w' := by
  obtain ⟨va, vc, rfl⟩ := h.shape
  obtain ⟨n, hn⟩ : ∃ n, n = l.length := ⟨_, rfl⟩
  rw [← hn] at h hl ⊢
  have HV : Hid (∀ k e, l[k]? = some e → ∃ b off, va = some ⟨b, off, none⟩ ∧ b < w.heap.size ∧ w.rangeAt b (off + k * 2) (tkC e)) := Lib.hid (fun k e he => h.at_ k e he)
  have HS := Lib.hid (TokAt.start tkT w)
  have HN := Lib.hid hn
  clear h hn
  go_enter Try.func20, Try.ntmps20
  go_wp2_with fail
  go_loopw [3, 4] (fun u i wr => ∃ k : Nat, k ≤ n ∧ i = .int .i64 k ∧ Hid (TokAt tkT w wr u (l.take k))) (fun _ i _ => n - (intOf i).toNat)
  case atStart => exact ⟨0, Nat.zero_le _, rfl, HS⟩
  case round =>
    clear HS
    obtain ⟨k, hk, rfl, hT⟩ := hrel
    obtain ⟨ua, uc, rfl⟩ := owns_slice hT.out.1
    have hlk : (l.take k).length = k := by rw [List.length_take]; have := HN.out; omega
    rw [hlk] at hT ⊢
    by_cases hlt : k < n
    · obtain ⟨e, he⟩ : ∃ e, l[k]? = some e := ⟨l[k]'(by have := HN.out; omega), List.getElem?_eq_getElem _⟩
      obtain ⟨b, off, rfl, hb0, hr0⟩ := HV.out k e he
      obtain ⟨c0, c1⟩ := two (range_below hr0 hb0 hT.out.2)
      have HLK := Lib.hid hlk
      have HE : Hid (l.take (k + 1) = l.take k ++ [e]) := Lib.hid (by rw [List.take_add_one, he]; rfl)
      clear he hr0 hlk
      have hbq : Below wr.heap.size wr wr.drew := (Below.refl _ _).drew
      have hT2 := hT.out.on hbq
      have ho := hT2.1
      rw [HLK.out] at ho
      obtain ⟨a', c', w4, hr, hh⟩ := append_oneT k HLK.out wr.drew w.heap.size (.slice ua k uc) e ho (by omega) hT2.2.size
      have HR : Hid ((Builtin.append_ #[tksT, tksT] tksT #[.slice ua k uc, .slice (some ⟨wr.heap.size, 0, none⟩) 1 1]).run Try.prog (wr.alloc (boxT tkT e)).drew = .ok (.slice a' (k + 1) c') w4) := Lib.hid hr
      have HAD : Hid (TokAt tkT w w4 (.slice a' (k + 1) c') (l.take (k + 1))) := Lib.hid (by
        refine ⟨?_, hT2.2.trans hh.out.2⟩
        rw [HE.out, List.length_append, HLK.out]
        exact hh.out.1)
      clear hr hh ho hT2 hbq
      go_wp2_with fail
      go_region_law ((refine step_append_run (by rfl) _ _ _ (by rfl) _ _ _ (by rfl) (by rfl) HR.out ?_))
      all_goals
        go_wp2_with fail
        go_roundw
        case rel => exact ⟨k + 1, by omega, by simp, Lib.hid (by have h := HAD.out; exact h)⟩
        case measure => simp [intOf]; omega
    · have HE : Hid (l.take k = l) := Lib.hid (List.take_of_length_le (by have := HN.out; omega))
      have HO : Hid (ReadsT wr (.slice ua k uc) l ∧ Below w.heap.size w wr) := Lib.hid (by
        have h := hT.out
        rw [HE.out] at h
        exact ⟨owns_readsT h.1, h.2⟩)
      go_wp2_with fail
      go_ret
      exact ⟨_, rfl, HO.out.1, HO.out.2⟩
set_option maxRecDepth 100000 in
set_option maxHeartbeats 8000000 in
theorem refPrint_any (v : Value) (l : List Tk) (w : World) (h : ReadsT w v l) (hl : l.length ≤ 100000) (hc : cost l ≤ 1000000) :
    Calls Try.prog 21 #[v] w fun e w' => e = .returned (.string (ba (printL l))) ∧ w' = w := by
  obtain ⟨va, vc, rfl⟩ := h.shape
  obtain ⟨n, hn⟩ : ∃ n, n = l.length := ⟨_, rfl⟩
  rw [← hn] at h hl ⊢
  have HV : Hid (∀ k e, l[k]? = some e → ∃ b off, va = some ⟨b, off, none⟩ ∧ b < w.heap.size ∧ w.rangeAt b (off + k * 2) (tkC e)) := Lib.hid (fun k e he => h.at_ k e he)
  have HI : Hid (PAt l 0 []) := Lib.hid (by unfold PAt; rfl)
  have HN := Lib.hid (And.intro hn hc)
  clear h hn hc
  go_enter Try.func21, Try.ntmps21
  go_wp2_with fail
  go_loopw [3, 4] (fun o i wr => ∃ (k : Nat) (acc : List UInt8), k ≤ n ∧ i = .int .i64 k ∧ o = .string (ba acc) ∧ acc.length ≤ 3 * cost (l.take k) ∧ Hid (PAt l k acc) ∧ wr = w) (fun _ i _ => n - (intOf i).toNat)
  case atStart => exact ⟨0, [], by omega, rfl, rfl, by simp, HI, rfl⟩
  case round =>
    clear HI
    obtain ⟨k, acc, hk, rfl, rfl, hal, hI, rfl⟩ := hrel
    by_cases hlt : k < n
    · obtain ⟨e, he⟩ : ∃ e, l[k]? = some e := ⟨l[k]'(by have := HN.out.1; omega), List.getElem?_eq_getElem _⟩
      obtain ⟨b, off, rfl, hb0, hr0⟩ := HV.out k e he
      have HR : Hid (∀ (j : Nat) (y : Tk), l[j]? = some y → wr.cell? ⟨b, off + j * 2, none⟩ = some (.int .i64 y.kind) ∧ wr.cell? ⟨b, off + j * 2 + 1, none⟩ = some (.string y.text)) := Lib.hid (fun j y hy => by
        obtain ⟨b', off', he', h1, h2⟩ := HV.out j y hy
        obtain ⟨rfl, rfl⟩ : b = b' ∧ off = off' := by simpa using he'
        exact two h2)
      obtain ⟨c0, c1⟩ := HR.out k e he
      have hct := costT he
      have hcl := costT_le l (k + 1)
      have hz : e.text.size ≤ 1000000 := by have := HN.out.2; omega
      have hac : acc.length ≤ 3000000 := by have := HN.out.2; omega
      have HCT := Lib.hid hct
      have HNX := Lib.hid (fun g q (hg : gap (prevK l k) e.kind = g) (hq : tokL e = q) => hI.out.next he hg hq)
      have hsz : (ba acc).size = acc.length := ba_size acc
      clear hct hcl hr0 he hI
      by_cases h0 : k = 0
      · subst h0
        have z0 : wr.cell? ⟨b, off, none⟩ = some (.int .i64 e.kind) := c0
        have z1 : wr.cell? ⟨b, off + 1, none⟩ = some (.string e.text) := by rwa [show off + 0 * 2 + 1 = off + 1 by omega] at c1
        clear c0 c1
        have t0 : decide ((0 : Int) < ((0 : Nat) : Int)) = false := rfl
        have HG : Hid (gap (prevK l 0) e.kind = []) := Lib.hid (by unfold gap prevK; rw [if_pos (.inl rfl)])
        by_cases h2 : e.kind = 2
        · have t2 : (e.kind == 2) = true := beq_iff_eq.2 h2
          have HQ := Lib.hid (fun W => refQuote_any e.text W (by omega))
          have hql := quote_len (bl e.text)
          rw [bl_len] at hql
          have HK := Lib.hid (show PAt l (0 + 1) (acc ++ quoteL (bl e.text)) by have hq0 := HNX.out [] (quoteL (bl e.text)) HG.out (by unfold tokL; rw [if_pos h2]); rw [List.append_nil] at hq0; exact hq0)
          have HQL := Lib.hid (show (quoteL (bl e.text)).length ≤ 2 * e.text.size + 2 from hql)
          have HJ := Lib.hid (show ba (acc) ++ ba (quoteL (bl e.text)) = ba (acc ++ quoteL (bl e.text)) from ba_app _ _)
          have hqs : (ba (quoteL (bl e.text))).size ≤ 2 * e.text.size + 2 := by rw [ba_size]; exact hql
          clear HNX h2 hql
          generalize ba acc = o at *
          generalize ba (quoteL (bl e.text)) = X at *
          go_wp2_with fail
          refine (HQ.out _).mono ?_
          rintro e' w2 ⟨rfl, rfl⟩
          go_wp2_with fail
          go_roundw
          case rel => exact ⟨0 + 1, _, by omega, by simp, by rw [← HJ.out], by have h5 := HCT.out; have h6 := HQL.out; simp only [List.length_append]; omega, HK, trivial⟩
          case measure => simp [intOf]; omega
        · have t2 : (e.kind == 2) = false := beq_eq_false_iff_ne.2 h2
          have HK := Lib.hid (show PAt l (0 + 1) (acc ++ bl e.text) by have hq0 := HNX.out [] (bl e.text) HG.out (by unfold tokL; rw [if_neg h2]); rw [List.append_nil] at hq0; exact hq0)
          have HJ := Lib.hid (show ba (acc) ++ e.text = ba ((acc) ++ bl e.text) from app_text _ _)
          clear HNX h2
          generalize ba acc = o at *
          go_wp2_with fail
          go_roundw
          case rel => exact ⟨0 + 1, _, by omega, by simp, by rw [← HJ.out], by have h5 := HCT.out; have h6 := bl_len e.text; simp only [List.length_append]; omega, HK, trivial⟩
          case measure => simp [intOf]; omega
      · obtain ⟨j, rfl⟩ : ∃ j, k = j + 1 := ⟨k - 1, by omega⟩
        have t0 : decide ((0 : Int) < ((j + 1 : Nat) : Int)) = true := decide_eq_true (by omega)
        obtain ⟨y, hy⟩ : ∃ y, l[j]? = some y := ⟨l[j]'(by have := HN.out.1; omega), List.getElem?_eq_getElem _⟩
        obtain ⟨y0, y1⟩ := HR.out j y hy
        have HY := Lib.hid hy
        clear hy h0
        by_cases hp : y.kind = 3
        · have tp : (y.kind != 3) = false := by rw [hp]; rfl
          have HG : Hid (gap (prevK l (j + 1)) e.kind = []) := Lib.hid (by rw [prevK_succ HY.out]; unfold gap; rw [if_pos (.inl hp)])
          clear hp
          by_cases h2 : e.kind = 2
          · have t2 : (e.kind == 2) = true := beq_iff_eq.2 h2
            have HQ := Lib.hid (fun W => refQuote_any e.text W (by omega))
            have hql := quote_len (bl e.text)
            rw [bl_len] at hql
            have HK := Lib.hid (show PAt l (j + 1 + 1) (acc ++ quoteL (bl e.text)) by have hq0 := HNX.out [] (quoteL (bl e.text)) HG.out (by unfold tokL; rw [if_pos h2]); rw [List.append_nil] at hq0; exact hq0)
            have HQL := Lib.hid (show (quoteL (bl e.text)).length ≤ 2 * e.text.size + 2 from hql)
            have HJ := Lib.hid (show ba (acc) ++ ba (quoteL (bl e.text)) = ba (acc ++ quoteL (bl e.text)) from ba_app _ _)
            have hqs : (ba (quoteL (bl e.text))).size ≤ 2 * e.text.size + 2 := by rw [ba_size]; exact hql
            clear HNX h2 hql
            generalize ba acc = o at *
            generalize ba (quoteL (bl e.text)) = X at *
            go_wp2_with fail
            refine (HQ.out _).mono ?_
            rintro e' w2 ⟨rfl, rfl⟩
            go_wp2_with fail
            go_roundw
            case rel => exact ⟨j + 1 + 1, _, by omega, by simp, by rw [← HJ.out], by have h5 := HCT.out; have h6 := HQL.out; simp only [List.length_append]; omega, HK, trivial⟩
            case measure => simp [intOf]; omega
          · have t2 : (e.kind == 2) = false := beq_eq_false_iff_ne.2 h2
            have HK := Lib.hid (show PAt l (j + 1 + 1) (acc ++ bl e.text) by have hq0 := HNX.out [] (bl e.text) HG.out (by unfold tokL; rw [if_neg h2]); rw [List.append_nil] at hq0; exact hq0)
            have HJ := Lib.hid (show ba (acc) ++ e.text = ba ((acc) ++ bl e.text) from app_text _ _)
            clear HNX h2
            generalize ba acc = o at *
            go_wp2_with fail
            go_roundw
            case rel => exact ⟨j + 1 + 1, _, by omega, by simp, by rw [← HJ.out], by have h5 := HCT.out; have h6 := bl_len e.text; simp only [List.length_append]; omega, HK, trivial⟩
            case measure => simp [intOf]; omega
        · have tp : (y.kind != 3) = true := by rw [bne_iff_ne]; exact hp
          by_cases h3 : e.kind = 3
          · have t3 : (e.kind != 3) = false := by rw [h3]; rfl
            have HG : Hid (gap (prevK l (j + 1)) e.kind = []) := Lib.hid (by unfold gap; rw [if_pos (.inr h3)])
            clear hp h3
            by_cases h2 : e.kind = 2
            · have t2 : (e.kind == 2) = true := beq_iff_eq.2 h2
              have HQ := Lib.hid (fun W => refQuote_any e.text W (by omega))
              have hql := quote_len (bl e.text)
              rw [bl_len] at hql
              have HK := Lib.hid (show PAt l (j + 1 + 1) (acc ++ quoteL (bl e.text)) by have hq0 := HNX.out [] (quoteL (bl e.text)) HG.out (by unfold tokL; rw [if_pos h2]); rw [List.append_nil] at hq0; exact hq0)
              have HQL := Lib.hid (show (quoteL (bl e.text)).length ≤ 2 * e.text.size + 2 from hql)
              have HJ := Lib.hid (show ba (acc) ++ ba (quoteL (bl e.text)) = ba (acc ++ quoteL (bl e.text)) from ba_app _ _)
              have hqs : (ba (quoteL (bl e.text))).size ≤ 2 * e.text.size + 2 := by rw [ba_size]; exact hql
              clear HNX h2 hql
              generalize ba acc = o at *
              generalize ba (quoteL (bl e.text)) = X at *
              go_wp2_with fail
              refine (HQ.out _).mono ?_
              rintro e' w2 ⟨rfl, rfl⟩
              go_wp2_with fail
              go_roundw
              case rel => exact ⟨j + 1 + 1, _, by omega, by simp, by rw [← HJ.out], by have h5 := HCT.out; have h6 := HQL.out; simp only [List.length_append]; omega, HK, trivial⟩
              case measure => simp [intOf]; omega
            · have t2 : (e.kind == 2) = false := beq_eq_false_iff_ne.2 h2
              have HK := Lib.hid (show PAt l (j + 1 + 1) (acc ++ bl e.text) by have hq0 := HNX.out [] (bl e.text) HG.out (by unfold tokL; rw [if_neg h2]); rw [List.append_nil] at hq0; exact hq0)
              have HJ := Lib.hid (show ba (acc) ++ e.text = ba ((acc) ++ bl e.text) from app_text _ _)
              clear HNX h2
              generalize ba acc = o at *
              go_wp2_with fail
              go_roundw
              case rel => exact ⟨j + 1 + 1, _, by omega, by simp, by rw [← HJ.out], by have h5 := HCT.out; have h6 := bl_len e.text; simp only [List.length_append]; omega, HK, trivial⟩
              case measure => simp [intOf]; omega
          · have t3 : (e.kind != 3) = true := by rw [bne_iff_ne]; exact h3
            have HG : Hid (gap (prevK l (j + 1)) e.kind = [32]) := Lib.hid (by rw [prevK_succ HY.out]; unfold gap; rw [if_neg (by intro hh; rcases hh with hh | hh; exact hp hh; exact h3 hh)])
            clear hp h3
            by_cases h2 : e.kind = 2
            · have t2 : (e.kind == 2) = true := beq_iff_eq.2 h2
              have HQ := Lib.hid (fun W => refQuote_any e.text W (by omega))
              have hql := quote_len (bl e.text)
              rw [bl_len] at hql
              have HK := Lib.hid (HNX.out [32] (quoteL (bl e.text)) HG.out (by unfold tokL; rw [if_pos h2]))
              have HQL := Lib.hid (show (quoteL (bl e.text)).length ≤ 2 * e.text.size + 2 from hql)
              have HJ := Lib.hid (show ba (acc ++ [32]) ++ ba (quoteL (bl e.text)) = ba (acc ++ [32] ++ quoteL (bl e.text)) from ba_app _ _)
              have hqs : (ba (quoteL (bl e.text))).size ≤ 2 * e.text.size + 2 := by rw [ba_size]; exact hql
              clear HNX h2 hql
              have HJ0 := Lib.hid (show ba acc ++ ⟨#[32]⟩ = ba (acc ++ [32]) from ba_app acc [32])
              rw [← HJ0.out] at HJ
              generalize ba acc = o at *
              generalize ba (quoteL (bl e.text)) = X at *
              go_wp2_with fail
              refine (HQ.out _).mono ?_
              rintro e' w2 ⟨rfl, rfl⟩
              go_wp2_with fail
              go_roundw
              case rel => exact ⟨j + 1 + 1, _, by omega, by simp, by rw [← HJ.out], by have h5 := HCT.out; have h6 := HQL.out; simp only [List.length_append, List.length_cons, List.length_nil]; omega, HK, trivial⟩
              case measure => simp [intOf]; omega
            · have t2 : (e.kind == 2) = false := beq_eq_false_iff_ne.2 h2
              have HK := Lib.hid (HNX.out [32] (bl e.text) HG.out (by unfold tokL; rw [if_neg h2]))
              have HJ := Lib.hid (show ba (acc ++ [32]) ++ e.text = ba ((acc ++ [32]) ++ bl e.text) from app_text _ _)
              clear HNX h2
              have HJ0 := Lib.hid (show ba acc ++ ⟨#[32]⟩ = ba (acc ++ [32]) from ba_app acc [32])
              rw [← HJ0.out] at HJ
              generalize ba acc = o at *
              go_wp2_with fail
              go_roundw
              case rel => exact ⟨j + 1 + 1, _, by omega, by simp, by rw [← HJ.out], by have h5 := HCT.out; have h6 := bl_len e.text; simp only [List.length_append, List.length_cons, List.length_nil]; omega, HK, trivial⟩
              case measure => simp [intOf]; omega
    · have hX : Hid (acc = printL l) := Lib.hid (by
        have h := hI.out
        unfold PAt at h
        rw [List.drop_eq_nil_of_le (by have := HN.out.1; omega), printP, List.append_nil] at h
        exact h)
      clear hI
      go_wp2_with fail
      go_ret
      exact ⟨by rw [← hX.out]; rfl, rfl⟩
end Go.Proofs.Ytjdlhfjmcghdlaa.Lex
