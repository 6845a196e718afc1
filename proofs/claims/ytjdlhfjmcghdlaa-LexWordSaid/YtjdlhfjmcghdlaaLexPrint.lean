/-
  Walk of Print.
-/
import Derived.Test.YtjdlhfjmcghdlaaLexQuote
namespace Go.Proofs.Ytjdlhfjmcghdlaa.Lex
open Go Go.RowKit

/-- The kind of the token ahead of a place. -/
def prevK (l : List Tk) (k : Nat) : Int := if k = 0 then 3 else ((l[k - 1]?).map Tk.kind).getD 3
/-- What is printed up to a place. -/
def PAt (l : List Tk) (k : Nat) (acc : List UInt8) : Prop := acc ++ printP (prevK l k) (l.drop k) = printL l
theorem PAt.next {l : List Tk} {k : Nat} {acc : List UInt8} {e : Tk} (h : PAt l k acc) (he : l[k]? = some e) {g q : List UInt8} (hg : gap (prevK l k) e.kind = g) (hq : tokL e = q) : PAt l (k + 1) (acc ++ g ++ q) := by
  unfold PAt at *
  have hd : l.drop k = e :: l.drop (k + 1) := by
    obtain ⟨h1, h2⟩ := List.getElem?_eq_some_iff.1 he
    rw [List.drop_eq_getElem_cons h1, h2]
  have hp : prevK l (k + 1) = e.kind := by
    unfold prevK
    rw [if_neg (by omega), Nat.add_sub_cancel, he]
    rfl
  rw [hp, ← h, hd]
  show acc ++ g ++ q ++ _ = acc ++ (gap (prevK l k) e.kind ++ (tokL e ++ printP e.kind (l.drop (k + 1))))
  rw [hg, hq]
  simp
theorem costT {l : List Tk} {k : Nat} {e : Tk} (he : l[k]? = some e) : cost (l.take (k + 1)) = cost (l.take k) + (e.text.size + 1) := by
  rw [List.take_add_one, he]
  exact cost_snoc _ _
theorem costT_le (l : List Tk) (k : Nat) : cost (l.take k) ≤ cost l := by
  unfold cost
  conv => rhs; rw [← List.take_append_drop k l]
  rw [List.map_append, List.sum_append]
  omega
/-- A builder, and a box for the token at hand. -/
def PBox (w W : World) (g : Nat) (acc : List UInt8) (e : Tk) : Prop := BuiltAt w W acc ∧ Lies W g #[.int .i64 e.kind, .string e.text] tkT ∧ w.heap.size ≤ g
theorem PBox.new {w wr : World} {acc : List UInt8} (h : BuiltAt w wr acc) (e : Tk) : PBox w (wr.alloc (.cells #[.int .i64 e.kind, .string e.text] tkT)) wr.heap.size acc e :=
  ⟨h.kept ((Below.refl _ wr).alloc (Nat.le_refl _) _), Lies.new wr _ _, h.2.size⟩
theorem prevK_succ {l : List Tk} {j : Nat} {e : Tk} (h : l[j]? = some e) : prevK l (j + 1) = e.kind := by
  unfold prevK
  rw [if_neg (by omega), Nat.add_sub_cancel, h]
  rfl
theorem box_rest {b g : Nat} {w w' : World} {k : Int} {t : ByteArray} (h : Lies w g #[.int .i64 k, .string t] tkT) (hr : Rest b w w') (hb : g ≠ b) : Lies w' g #[.int .i64 k, .string t] tkT :=
  hr g _ h (fun e => hb (Option.some.inj e)) (fun c fz e => by
    obtain ⟨_, h2, _⟩ := Obj.cells.inj e
    exact absurd h2 (by decide))
set_option maxRecDepth 100000 in
set_option maxHeartbeats 8000000 in
theorem print_any (v : Value) (l : List Tk) (w : World) (h : ReadsT w v l) (hl : l.length ≤ 100000) (hc : cost l ≤ 10000000) :
    Calls Try.prog 19 #[v] w fun e w' => e = .returned (.string (ba (printL l))) ∧ Below w.heap.size w w' := by
  obtain ⟨va, vc, rfl⟩ := h.shape
  obtain ⟨n, hn⟩ : ∃ n, n = l.length := ⟨_, rfl⟩
  rw [← hn] at h hl ⊢
  have HV : Hid (∀ k e, l[k]? = some e → ∃ b off, va = some ⟨b, off, none⟩ ∧ b < w.heap.size ∧ w.rangeAt b (off + k * 2) (tkC e)) := Lib.hid (fun k e he => h.at_ k e he)
  have HB := Lib.hid (BuiltAt.start w)
  have HI : Hid (PAt l 0 []) := Lib.hid (by unfold PAt; rfl)
  have HN := Lib.hid (And.intro hn hc)
  clear h hn hc
  go_enter Try.func19, Try.ntmps19
  go_wp2_with fail
  go_loopw [8] (fun i wr => ∃ (k : Nat) (acc : List UInt8), k ≤ n ∧ i = .int .i64 k ∧ acc.length ≤ 3 * cost (l.take k) ∧ Hid (PAt l k acc) ∧ Hid (BuiltAt w wr acc)) (fun i _ => n - (intOf i).toNat)
  case atStart => exact ⟨0, [], by omega, rfl, by simp, HI, HB⟩
  case round =>
    clear HI HB
    obtain ⟨k, acc, hk, rfl, hal, hI, hB⟩ := hrel
    by_cases hlt : k < n
    · obtain ⟨e, he⟩ : ∃ e, l[k]? = some e := ⟨l[k]'(by have := HN.out.1; omega), List.getElem?_eq_getElem _⟩
      obtain ⟨b, off, rfl, hb0, hr0⟩ := HV.out k e he
      have HR : Hid (∀ (j : Nat) (y : Tk), l[j]? = some y → ∀ W, Below w.heap.size w W → W.cell? ⟨b, off + j * 2, none⟩ = some (.int .i64 y.kind) ∧ W.cell? ⟨b, off + j * 2 + 1, none⟩ = some (.string y.text)) := Lib.hid (fun j y hy W hW => by
        obtain ⟨b', off', he', h1, h2⟩ := HV.out j y hy
        obtain ⟨rfl, rfl⟩ : b = b' ∧ off = off' := by simpa using he'
        exact two (range_below h2 h1 hW))
      obtain ⟨c0, c1⟩ := HR.out k e he wr hB.out.2
      have HX := Lib.hid (PBox.new hB.out e)
      have hct := costT he
      have hcl := costT_le l (k + 1)
      have hz : e.text.size ≤ 10000000 := by have := HN.out.2; omega
      have hac : acc.length ≤ 30000000 := by have := HN.out.2; omega
      have HCT := Lib.hid hct
      have HNX := Lib.hid (fun g q (hg : gap (prevK l k) e.kind = g) (hq : tokL e = q) => hI.out.next he hg hq)
      have HE := Lib.hid he
      have hgw := hB.out.lt
      clear hct hcl hr0 he hI
      go_upto_region 5 with (fail)
      generalize wr.alloc (.cells #[.int .i64 e.kind, .string e.text] tkT) = W1 at *
      generalize wr.heap.size = g at *
      clear c0 c1
      have d0 := HX.out.2.1.cell 0
      have d1 := HX.out.2.1.cell 1
      by_cases h0 : k = 0
      · have t0 : decide ((0 : Int) < (k : Int)) = false := decide_eq_false (by omega)
        have HG : Hid (gap (prevK l k) e.kind = []) := Lib.hid (by rw [h0]; unfold gap prevK; rw [if_pos (.inl rfl)])
        subst h0
        have HX' := Lib.hid (show PBox w W1 g (acc ++ []) e by rw [List.append_nil]; exact HX.out)
        by_cases h2 : e.kind = 2
        · have t2 : (e.kind == 2) = true := beq_iff_eq.2 h2
          have HQ := Lib.hid (fun W => quote_any e.text W (by omega))
          have hql := quote_len (bl e.text)
          rw [bl_len] at hql
          have HK := Lib.hid (HNX.out [] (quoteL (bl e.text)) HG.out (by unfold tokL; rw [if_pos h2]))
          have HQL := Lib.hid (show (quoteL (bl e.text)).length ≤ 2 * e.text.size + 2 from hql)
          have HS := Lib.hid (fun W (hb : Below W1.heap.size W1 W) => wstr w W (acc ++ []) (ba (quoteL (bl e.text))) (HX'.out.1.kept hb) (by simp only [List.length_append, List.length_nil]; omega) (by rw [ba_size]; omega))
          clear HNX h2 hql
          generalize hX : ba (quoteL (bl e.text)) = X at *
          go_wp2_with fail
          refine (HQ.out _).mono ?_
          rintro e' w2 ⟨rfl, hb2⟩
          have HS2 := Lib.hid (HS.out _ hb2)
          clear hb2 HS
          go_wp2_with fail
          refine HS2.out.mono ?_
          rintro e' w3 ⟨rfl, h3⟩
          have H3 := Lib.hid (show BuiltAt w w3 (acc ++ [] ++ quoteL (bl e.text)) by rw [← hX, bl_ba] at h3; exact h3)
          clear h3
          go_wp2_with fail
          go_roundw
          case rel => exact ⟨0 + 1, _, by omega, by simp, by have h5 := HCT.out; have h6 := HQL.out; simp only [List.length_append, List.length_nil]; omega, HK, H3⟩
          case measure => simp [intOf]; omega
        · have t2 : (e.kind == 2) = false := beq_eq_false_iff_ne.2 h2
          have HK := Lib.hid (HNX.out [] (bl e.text) HG.out (by unfold tokL; rw [if_neg h2]))
          have HS := Lib.hid (wstr w W1 (acc ++ []) e.text HX'.out.1 (by simp only [List.length_append, List.length_nil]; omega) (by omega))
          clear HNX h2
          go_wp2_with fail
          refine HS.out.mono ?_
          rintro e' w3 ⟨rfl, h3⟩
          have H3 := Lib.hid h3
          clear h3
          go_wp2_with fail
          go_roundw
          case rel => exact ⟨0 + 1, _, by omega, by simp, by have h5 := HCT.out; have h6 := bl_len e.text; simp only [List.length_append, List.length_nil]; omega, HK, H3⟩
          case measure => simp [intOf]; omega
      · have t0 : decide ((0 : Int) < (k : Int)) = true := decide_eq_true (by omega)
        by_cases h3 : e.kind = 3
        · have t3 : (e.kind != 3) = false := by rw [h3]; rfl
          have HG : Hid (gap (prevK l k) e.kind = []) := Lib.hid (by unfold gap; rw [if_pos (.inr h3)])
          clear h3
          have HX' := Lib.hid (show PBox w W1 g (acc ++ []) e by rw [List.append_nil]; exact HX.out)
          by_cases h2 : e.kind = 2
          · have t2 : (e.kind == 2) = true := beq_iff_eq.2 h2
            have HQ := Lib.hid (fun W => quote_any e.text W (by omega))
            have hql := quote_len (bl e.text)
            rw [bl_len] at hql
            have HK := Lib.hid (HNX.out [] (quoteL (bl e.text)) HG.out (by unfold tokL; rw [if_pos h2]))
            have HQL := Lib.hid (show (quoteL (bl e.text)).length ≤ 2 * e.text.size + 2 from hql)
            have HS := Lib.hid (fun W (hb : Below W1.heap.size W1 W) => wstr w W (acc ++ []) (ba (quoteL (bl e.text))) (HX'.out.1.kept hb) (by simp only [List.length_append, List.length_nil]; omega) (by rw [ba_size]; omega))
            clear HNX h2 hql
            generalize hX : ba (quoteL (bl e.text)) = X at *
            go_wp2_with fail
            refine (HQ.out _).mono ?_
            rintro e' w2 ⟨rfl, hb2⟩
            have HS2 := Lib.hid (HS.out _ hb2)
            clear hb2 HS
            go_wp2_with fail
            refine HS2.out.mono ?_
            rintro e' w3 ⟨rfl, h3⟩
            have H3 := Lib.hid (show BuiltAt w w3 (acc ++ [] ++ quoteL (bl e.text)) by rw [← hX, bl_ba] at h3; exact h3)
            clear h3
            go_wp2_with fail
            go_roundw
            case rel => exact ⟨k + 1, _, by omega, by simp, by have h5 := HCT.out; have h6 := HQL.out; simp only [List.length_append, List.length_nil]; omega, HK, H3⟩
            case measure => simp [intOf]; omega
          · have t2 : (e.kind == 2) = false := beq_eq_false_iff_ne.2 h2
            have HK := Lib.hid (HNX.out [] (bl e.text) HG.out (by unfold tokL; rw [if_neg h2]))
            have HS := Lib.hid (wstr w W1 (acc ++ []) e.text HX'.out.1 (by simp only [List.length_append, List.length_nil]; omega) (by omega))
            clear HNX h2
            go_wp2_with fail
            refine HS.out.mono ?_
            rintro e' w3 ⟨rfl, h3⟩
            have H3 := Lib.hid h3
            clear h3
            go_wp2_with fail
            go_roundw
            case rel => exact ⟨k + 1, _, by omega, by simp, by have h5 := HCT.out; have h6 := bl_len e.text; simp only [List.length_append, List.length_nil]; omega, HK, H3⟩
            case measure => simp [intOf]; omega
        · obtain ⟨j, rfl⟩ : ∃ j, k = j + 1 := ⟨k - 1, by omega⟩
          obtain ⟨y, hy⟩ : ∃ y, l[j]? = some y := ⟨l[j]'(by have := HN.out.1; omega), List.getElem?_eq_getElem _⟩
          obtain ⟨y0, y1⟩ := HR.out j y hy W1 HX.out.1.2
          have HY := Lib.hid hy
          clear hy
          have t3 : (e.kind != 3) = true := by rw [bne_iff_ne]; exact h3
          by_cases hp : y.kind = 3
          · have tp : (y.kind != 3) = false := by rw [hp]; rfl
            have HG : Hid (gap (prevK l (j + 1)) e.kind = []) := Lib.hid (by rw [prevK_succ HY.out]; unfold gap; rw [if_pos (.inl hp)])
            clear hp h3
            have HX' := Lib.hid (show PBox w W1 g (acc ++ []) e by rw [List.append_nil]; exact HX.out)
            by_cases h2 : e.kind = 2
            · have t2 : (e.kind == 2) = true := beq_iff_eq.2 h2
              have HQ := Lib.hid (fun W => quote_any e.text W (by omega))
              have hql := quote_len (bl e.text)
              rw [bl_len] at hql
              have HK := Lib.hid (HNX.out [] (quoteL (bl e.text)) HG.out (by unfold tokL; rw [if_pos h2]))
              have HQL := Lib.hid (show (quoteL (bl e.text)).length ≤ 2 * e.text.size + 2 from hql)
              have HS := Lib.hid (fun W (hb : Below W1.heap.size W1 W) => wstr w W (acc ++ []) (ba (quoteL (bl e.text))) (HX'.out.1.kept hb) (by simp only [List.length_append, List.length_nil]; omega) (by rw [ba_size]; omega))
              clear HNX h2 hql
              generalize hX : ba (quoteL (bl e.text)) = X at *
              go_wp2_with fail
              refine (HQ.out _).mono ?_
              rintro e' w2 ⟨rfl, hb2⟩
              have HS2 := Lib.hid (HS.out _ hb2)
              clear hb2 HS
              go_wp2_with fail
              refine HS2.out.mono ?_
              rintro e' w3 ⟨rfl, h3⟩
              have H3 := Lib.hid (show BuiltAt w w3 (acc ++ [] ++ quoteL (bl e.text)) by rw [← hX, bl_ba] at h3; exact h3)
              clear h3
              go_wp2_with fail
              go_roundw
              case rel => exact ⟨j + 1 + 1, _, by omega, by simp, by have h5 := HCT.out; have h6 := HQL.out; simp only [List.length_append, List.length_nil]; omega, HK, H3⟩
              case measure => simp [intOf]; omega
            · have t2 : (e.kind == 2) = false := beq_eq_false_iff_ne.2 h2
              have HK := Lib.hid (HNX.out [] (bl e.text) HG.out (by unfold tokL; rw [if_neg h2]))
              have HS := Lib.hid (wstr w W1 (acc ++ []) e.text HX'.out.1 (by simp only [List.length_append, List.length_nil]; omega) (by omega))
              clear HNX h2
              go_wp2_with fail
              refine HS.out.mono ?_
              rintro e' w3 ⟨rfl, h3⟩
              have H3 := Lib.hid h3
              clear h3
              go_wp2_with fail
              go_roundw
              case rel => exact ⟨j + 1 + 1, _, by omega, by simp, by have h5 := HCT.out; have h6 := bl_len e.text; simp only [List.length_append, List.length_nil]; omega, HK, H3⟩
              case measure => simp [intOf]; omega
          · have tp : (y.kind != 3) = true := by rw [bne_iff_ne]; exact hp
            have HG : Hid (gap (prevK l (j + 1)) e.kind = [32]) := Lib.hid (by rw [prevK_succ HY.out]; unfold gap; rw [if_neg (by intro hh; rcases hh with hh | hh; exact hp hh; exact h3 hh)])
            have HWB := Lib.hid (wbyteK w W1 acc 32 32 rfl HX.out.1 (by omega))
            have hgne : g ≠ w.heap.size := by omega
            clear hp h3
            go_wp2_with fail
            refine HWB.out.mono ?_
            rintro e' w2 ⟨rfl, hb2, hr2⟩
            have HX' := Lib.hid (show PBox w w2 g (acc ++ [32]) e from ⟨hb2, box_rest HX.out.2.1 hr2 hgne, HX.out.2.2⟩)
            clear hb2 hr2 d0 d1 y0 y1 HWB
            have d0 := HX'.out.2.1.cell 0
            have d1 := HX'.out.2.1.cell 1
            by_cases h2 : e.kind = 2
            · have t2 : (e.kind == 2) = true := beq_iff_eq.2 h2
              have HQ := Lib.hid (fun W => quote_any e.text W (by omega))
              have hql := quote_len (bl e.text)
              rw [bl_len] at hql
              have HK := Lib.hid (HNX.out [32] (quoteL (bl e.text)) HG.out (by unfold tokL; rw [if_pos h2]))
              have HQL := Lib.hid (show (quoteL (bl e.text)).length ≤ 2 * e.text.size + 2 from hql)
              have HS := Lib.hid (fun W (hb : Below w2.heap.size w2 W) => wstr w W (acc ++ [32]) (ba (quoteL (bl e.text))) (HX'.out.1.kept hb) (by simp only [List.length_append, List.length_cons, List.length_nil]; omega) (by rw [ba_size]; omega))
              clear HNX h2 hql
              generalize hX : ba (quoteL (bl e.text)) = X at *
              go_wp2_with fail
              refine (HQ.out _).mono ?_
              rintro e' w2 ⟨rfl, hb2⟩
              have HS2 := Lib.hid (HS.out _ hb2)
              clear hb2 HS
              go_wp2_with fail
              refine HS2.out.mono ?_
              rintro e' w3 ⟨rfl, h3⟩
              have H3 := Lib.hid (show BuiltAt w w3 (acc ++ [32] ++ quoteL (bl e.text)) by rw [← hX, bl_ba] at h3; exact h3)
              clear h3
              go_wp2_with fail
              go_roundw
              case rel => exact ⟨j + 1 + 1, _, by omega, by simp, by have h5 := HCT.out; have h6 := HQL.out; simp only [List.length_append, List.length_cons, List.length_nil]; omega, HK, H3⟩
              case measure => simp [intOf]; omega
            · have t2 : (e.kind == 2) = false := beq_eq_false_iff_ne.2 h2
              have HK := Lib.hid (HNX.out [32] (bl e.text) HG.out (by unfold tokL; rw [if_neg h2]))
              have HS := Lib.hid (wstr w w2 (acc ++ [32]) e.text HX'.out.1 (by simp only [List.length_append, List.length_cons, List.length_nil]; omega) (by omega))
              clear HNX h2
              go_wp2_with fail
              refine HS.out.mono ?_
              rintro e' w3 ⟨rfl, h3⟩
              have H3 := Lib.hid h3
              clear h3
              go_wp2_with fail
              go_roundw
              case rel => exact ⟨j + 1 + 1, _, by omega, by simp, by have h5 := HCT.out; have h6 := bl_len e.text; simp only [List.length_append, List.length_cons, List.length_nil]; omega, HK, H3⟩
              case measure => simp [intOf]; omega
    · have hX : Hid (acc = printL l) := Lib.hid (by
        have h := hI.out
        unfold PAt at h
        rw [List.drop_eq_nil_of_le (by have := HN.out.1; omega), printP, List.append_nil] at h
        exact h)
      have HE := Lib.hid (wend w wr acc hB.out)
      clear hI
      go_wp2_with fail
      refine HE.out.mono ?_
      rintro e' w3 ⟨rfl, hb⟩
      have HB3 := Lib.hid hb
      clear hb
      go_wp2_with fail
      go_ret
      exact ⟨by rw [← hX.out]; rfl, HB3.out⟩
end Go.Proofs.Ytjdlhfjmcghdlaa.Lex
