/-
  Walk of Scan: the tokens of any bytes, or the first error.
-/
import Derived.Test.YtklmhjoiffaniaaDoorLexWalkD
import Derived.Deep.CutRange
import Derived.Outline
namespace Go.Proofs.YtklmhjoiffaniaaDoor.Lex
open Go Go.RowKit

/-- The tokens so far, and what lay there before. -/
def TokAt (t : TypeId) (w wr : World) (tv : Value) (toks : List Tk) : Prop := wr.ownsRow w.heap.size t 2 tv toks.length (toks.flatMap tkC) ∧ Below w.heap.size w wr
theorem TokAt.start (t : TypeId) (w : World) : TokAt t w w (.slice none 0 0) [] := ⟨World.ownsRow_nil _ _ _ _, Below.refl _ _⟩
theorem TokAt.on {t : TypeId} {w wr w' : World} {tv : Value} {toks : List Tk} (h : TokAt t w wr tv toks) (hb : Below wr.heap.size wr w') : TokAt t w w' tv toks :=
  ⟨owns_below h.1 hb, h.2.trans (hb.mono h.2.size)⟩
/-- The tokens so far, and a box for the next one. -/
def BoxAt (w W : World) (g : Nat) (tv : Value) (toks : List Tk) : Prop := TokAt tkT w W tv toks ∧ Lies W g #[.int .i64 0, .string ⟨#[]⟩] tkT ∧ w.heap.size ≤ g ∧ tv.ownBlock ≠ some g
theorem BoxAt.new {w wr : World} {tv : Value} {toks : List Tk} (h : TokAt tkT w wr tv toks) : BoxAt w (wr.alloc (.cells #[.int .i64 0, .string ⟨#[]⟩] tkT)) wr.heap.size tv toks :=
  ⟨h.on ((Below.refl _ _).alloc (Nat.le_refl _) _), Lies.new _ _ _, h.2.size, fun e => by have := (h.1.lt _ e).2; omega⟩
theorem BoxAt.on {w W W' : World} {g : Nat} {tv : Value} {toks : List Tk} (h : BoxAt w W g tv toks) (hb : Below W.heap.size W W') : BoxAt w W' g tv toks :=
  ⟨h.1.on hb, h.2.1.same (hb.block _ h.2.1.lt), h.2.2⟩
theorem BoxAt.fill {w W : World} {g : Nat} {tv : Value} {toks : List Tk} (h : BoxAt w W g tv toks) (y : Tk) : TokAt tkT w (fill2 W g (.int .i64 y.kind) (.string y.text)) tv toks := by
  have hf : Fr (fun k => k = g) W (fill2 W g (.int .i64 y.kind) (.string y.text)) := Fr.setCell (Fr.one W g 0 _) (fun _ => rfl) _
  refine ⟨Fr.owns h.1.1 hf (fun k hk e => h.2.2.2 (by rw [hk, e])), below_fill2 h.1.2 h.2.2.1 _ _⟩
theorem BoxAt.add {w W : World} {g n c : Nat} {a : Option Addr} {toks : List Tk} (h : BoxAt w W g (.slice a n c) toks) (hn : toks.length = n) (y : Tk) (hl : n ≤ 100000000) :
    ∃ a' c' w', (Builtin.append_ #[tksT, tksT] tksT #[.slice a n c, .slice (some ⟨W.heap.size, 0, none⟩) 1 1]).run Tryd.prog ((fill2 W g (.int .i64 y.kind) (.string y.text)).alloc (boxT tkT y)) = .ok (.slice a' (n + 1) c') w' ∧
      Hid (TokAt tkT w w' (.slice a' (n + 1) c') (toks ++ [y])) := by
  have hf := h.fill y
  have ho := hf.1
  rw [hn] at ho
  obtain ⟨a', c', w', hr, hh⟩ := append_oneT n hn (fill2 W g (.int .i64 y.kind) (.string y.text)) w.heap.size (.slice a n c) y ho hl hf.2.size
  have e : (fill2 W g (.int .i64 y.kind) (.string y.text)).heap.size = W.heap.size := by simp [World.setCell]
  rw [e] at hr
  refine ⟨a', c', w', hr, Lib.hid ⟨?_, hf.2.trans hh.out.2⟩⟩
  rw [List.length_append, hn]
  exact hh.out.1
/-- What Scan tells. -/
def ScanPost (l : List UInt8) (w : World) (e : Ending) (w' : World) : Prop := ∃ v, e = .returned (.tuple #[v, .int .i64 (scan l).1]) ∧ ReadsT w' v (scan l).2 ∧ Below w.heap.size w w'
theorem ScanPost.of {l : List UInt8} {w w' : World} {v : Value} {c : Nat} {T : List Tk} (h : scan l = (c, T)) (hv : ReadsT w' v T) (hb : Below w.heap.size w w') : ScanPost l w (.returned (.tuple #[v, .int .i64 c])) w' :=
  ⟨v, by rw [h], by rw [h]; exact hv, hb⟩
def ScAt (l : List UInt8) (k : Nat) (toks : List Tk) : Prop := sc false .z toks (l.drop k) = scan l
theorem ScAt.fails {l : List UInt8} {k : Nat} {toks : List Tk} {c : Nat} (h : ScAt l k toks) (hc : sc false .z toks (l.drop k) = (c, [])) : scan l = (c, []) := h.symm.trans hc
set_option maxRecDepth 100000 in
set_option maxHeartbeats 8000000 in
theorem scan_any (s : ByteArray) (w : World) (hs : s.size ≤ 100000000) :
    Calls Tryd.prog 21 #[.string s] w (ScanPost (bl s) w) := by
  have HI : Hid (ScAt (bl s) 0 []) := Lib.hid rfl
  have HS := Lib.hid (TokAt.start tkT w)
  go_enter Tryd.func21, Tryd.ntmps21
  go_wp2_with fail
  go_step3
  go_wp2_with fail
  go_step3
  go_wp2_with fail
  go_loopw [4, 5, 6, 7, 8, 9] (fun tv i _ _ _ _ wr => ∃ (k : Nat) (toks : List Tk), k ≤ s.size ∧ i = .int .i64 k ∧ toks.length ≤ k ∧ Hid (ScAt (bl s) k toks) ∧ Hid (TokAt tkT w wr tv toks)) (fun _ i _ _ _ _ _ => s.size - (intOf i).toNat)
  case atStart => exact ⟨0, [], by omega, rfl, by simp, HI, HS⟩
  case round =>
    clear HI HS
    obtain ⟨k, toks, hk, rfl, htl, hI, hT⟩ := hrel
    obtain ⟨ta, tc, rfl⟩ := owns_slice hT.out.1
    obtain ⟨n, hn⟩ : ∃ n, toks.length = n := ⟨_, rfl⟩
    rw [hn] at htl hT ⊢
    by_cases hlt : k < s.size
    · obtain ⟨hr1, hr2⟩ := rest_of s k hlt
      have hr3 : 0 < (s.extract k s.size).size := by omega
      have HX := Lib.hid (BoxAt.new hT.out)
      go_upto_region 9 with (fail)
      generalize wr.alloc (.cells #[.int .i64 0, .string ⟨#[]⟩] tkT) = W1 at *
      generalize wr.heap.size = g at *
      generalize s.extract k s.size = r at *
      have hdc := drop_cons r 0 hr3
      rw [List.drop_zero] at hdc
      have h8 : r[0].toNat < 256 := r[0].toNat_lt
      have hdk : (bl s).drop k = r[0] :: (bl r).drop 1 := by rw [← hr1]; exact hdc
      have hdr : ∀ m, (bl s).drop (k + m) = (bl r).drop m := fun m => by rw [← List.drop_drop, ← hr1]
      have HN := Lib.hid hn
      have HB := Lib.hid (fun W => blank_any (r[0].toNat : Int) W (by omega) (by omega))
      have HF := Lib.hid (fun W => isFold_any r W (by omega))
      have HSP := Lib.hid (fun W => special_any (r[0].toNat : Int) W (by omega) (by omega))
      have HA := Lib.hid (fun W => atom_any (r[0].toNat : Int) W (by omega) (by omega))
      obtain ⟨bb, hbb⟩ : ∃ b, bk r[0] = b := ⟨_, rfl⟩
      obtain ⟨bf, hbf⟩ : ∃ b, fold (bl r) = b := ⟨_, rfl⟩
      obtain ⟨bs, hbs⟩ : ∃ b, sp r[0] = b := ⟨_, rfl⟩
      obtain ⟨bm, hbm⟩ : ∃ b, am r[0] = b := ⟨_, rfl⟩
      rw [show bkN (r[0].toNat : Int).toNat = bb from hbb] at HB
      rw [hbf] at HF
      rw [show spN (r[0].toNat : Int).toNat = bs from hbs] at HSP
      rw [show amN (r[0].toNat : Int).toNat = bm from hbm] at HA
      have hsc : sc false .z toks (r[0] :: (bl r).drop 1) = scan (bl s) := by rw [← hdk]; exact hI.out
      clear hn
      cases bb
      · cases bf
        · by_cases h40 : r[0].toNat = 40
          · have t40 : ((r[0].toNat : Int) == 40) = true := by rw [h40]; rfl
            have HC := Lib.hid (fun W => comment_any r W hr3 (by omega))
            have hpa := sc_paren toks r[0] ((bl r).drop 1) h40
            clear h40 hdc hdk hr1 hbb hbf hbs hbm hI
            go_wp2_with fail
            refine (HB.out _).mono ?_
            rintro e' w1 ⟨rfl, rfl⟩
            go_wp2_with fail
            refine (HF.out _).mono ?_
            rintro e' w1 ⟨rfl, rfl⟩
            go_wp2_with fail
            refine (HC.out _).mono ?_
            rintro e' w1 ⟨⟨m, c, rfl, hc9, hm⟩, rfl⟩
            rcases hm with ⟨rfl, hm1, hm2, hm3⟩ | ⟨hc, hm3⟩
            · rw [bl_len] at hm2
              have HE : Hid (ScAt (bl s) (k + m) toks) := Lib.hid (by
                show sc false .z toks ((bl s).drop (k + m)) = _
                rw [hdr, ← hm3 toks, ← hpa, hsc])
              clear hsc hdr hpa hm3
              go_wp2_with fail
              go_roundw
              case rel => exact ⟨k + m, toks, by omega, by simp, by have := HN.out; omega, HE, Lib.hid (by have h := HX.out.1; exact h)⟩
              case measure => simp [intOf]; omega
            · have HE : Hid (scan (bl s) = (c, [])) := Lib.hid (by rw [← hsc, hpa, hm3 toks])
              have hne : ((c : Int) != 0) = true := by rw [bne_iff_ne]; omega
              clear hsc hdr hpa hm3
              go_wp2_with fail
              rw [Exit.noGoto_ret]
              go_ret2
              exact ScanPost.of HE.out (nil_readsT _) HX.out.1.2
          · by_cases h34 : r[0].toNat = 34
            · have t40 : ((r[0].toNat : Int) == 40) = false := by rw [beq_eq_false_iff_ne]; omega
              have t34 : ((r[0].toNat : Int) == 34) = true := by rw [h34]; rfl
              have HC := Lib.hid (fun W => quoted_any r W hr3 (by omega))
              have hpa := sc_quote toks r[0] ((bl r).drop 1) h34
              clear h34 h40 hdc hdk hr1 hbb hbf hbs hbm hI
              go_wp2_with fail
              refine (HB.out _).mono ?_
              rintro e' w1 ⟨rfl, rfl⟩
              go_wp2_with fail
              refine (HF.out _).mono ?_
              rintro e' w1 ⟨rfl, rfl⟩
              go_wp2_with fail
              refine (HC.out _).mono ?_
              rintro e' w2 ⟨m, c, t, rfl, hc9, hb2, hm⟩
              have HX2 := Lib.hid (HX.out.on hb2)
              clear hb2
              rcases hm with ⟨rfl, hm1, hm2, hm3⟩ | ⟨hc, hm3⟩
              · rw [bl_len] at hm2
                have HE : Hid (ScAt (bl s) (k + m) (toks ++ [t])) := Lib.hid (by
                  show sc false .z (toks ++ [t]) ((bl s).drop (k + m)) = _
                  rw [hdr, ← hm3 toks, ← hpa, hsc])
                obtain ⟨a', c', w4, hr, hh⟩ := HX2.out.add HN.out t (by omega)
                have HR := Lib.hid hr
                have c0 := HX2.out.2.1.cell 0
                have c1 := HX2.out.2.1.cell 1
                have f0 := HX2.out.2.1.free 0
                have f1 := HX2.out.2.1.free 1
                clear hsc hdr hpa hm3 hr
                go_wp2_with (at_builtin; refine Lib.wpList_append_run _ rfl _ _ _ _ rfl _ _ rfl rfl _ _ HR.out ?_)
                clear HR
                go_roundw
                case rel => exact ⟨k + m, _, by omega, by simp, by rw [List.length_append]; have := HN.out; simp; omega, HE, Lib.hid (by have h := hh.out; exact h)⟩
                case measure => simp [intOf]; omega
              · have HE : Hid (scan (bl s) = (c, [])) := Lib.hid (by rw [← hsc, hpa, hm3 toks])
                have hne : ((c : Int) != 0) = true := by rw [bne_iff_ne]; omega
                have c0 := HX2.out.2.1.cell 0
                have c1 := HX2.out.2.1.cell 1
                have f0 := HX2.out.2.1.free 0
                have f1 := HX2.out.2.1.free 1
                clear hsc hdr hpa hm3
                go_wp2_with fail
                rw [Exit.noGoto_ret]
                go_ret2
                exact ScanPost.of HE.out (nil_readsT _) (HX2.out.fill t).2
            · have t40 : ((r[0].toNat : Int) == 40) = false := by rw [beq_eq_false_iff_ne]; omega
              have t34 : ((r[0].toNat : Int) == 34) = false := by rw [beq_eq_false_iff_ne]; omega
              cases bs
              · cases bm
                · have HE : Hid (scan (bl s) = (3, [])) := Lib.hid (by
                    rw [← hsc]
                    exact sc_bad toks r[0] _ hbb (by rw [← hdc]; exact hbf) h40 h34 hbs hbm)
                  clear hsc hdr hdc hdk hr1 hbb hbf hbs hbm hI
                  go_wp2_with fail
                  refine (HB.out _).mono ?_
                  rintro e' w1 ⟨rfl, rfl⟩
                  go_wp2_with fail
                  refine (HF.out _).mono ?_
                  rintro e' w1 ⟨rfl, rfl⟩
                  go_wp2_with fail
                  refine (HSP.out _).mono ?_
                  rintro e' w1 ⟨rfl, rfl⟩
                  go_wp2_with fail
                  refine (HA.out _).mono ?_
                  rintro e' w1 ⟨rfl, rfl⟩
                  go_wp2_with fail
                  rw [Exit.noGoto_ret]
                  go_ret2
                  exact ScanPost.of HE.out (nil_readsT _) HX.out.1.2
                · have HZ := Lib.hid (fun W => atomSize_any r W (by omega))
                  have hz1 : 1 ≤ atomN (bl r) := by
                    rcases Nat.eq_zero_or_pos (atomN (bl r)) with h | h
                    · have := atomN_end (bl r) r[0] ((bl r).drop 1) (by rw [h, List.drop_zero]; exact hdc)
                      rw [this] at hbm
                      cases hbm
                    · exact h
                  have hz2 := atomN_le (bl r)
                  rw [bl_len] at hz2
                  have HE : Hid (ScAt (bl s) (k + atomN (bl r)) (toks ++ [⟨1, r.extract 0 (atomN (bl r))⟩])) := Lib.hid (by
                    show sc false .z (toks ++ [⟨1, r.extract 0 (atomN (bl r))⟩]) ((bl s).drop (k + atomN (bl r))) = _
                    have h1 := sc_one (x := (bl r).take (atomN (bl r))) (y := (bl r).drop (atomN (bl r))) toks (by
                      intro e
                      have := congrArg List.length e
                      rw [List.length_take, bl_len, List.length_nil] at this
                      omega) (atomN_all _) (atomN_end _)
                    rw [List.take_append_drop] at h1
                    rw [hdr, str_part, List.drop_zero, Nat.sub_zero, ← h1, ← hsc, ← hdc])
                  generalize atomN (bl r) = z at *
                  obtain ⟨a', c', w4, hr, hh⟩ := HX.out.add HN.out ⟨1, r.extract 0 z⟩ (by omega)
                  have HR := Lib.hid hr
                  have c0 := HX.out.2.1.cell 0
                  have c1 := HX.out.2.1.cell 1
                  have f0 := HX.out.2.1.free 0
                  have f1 := HX.out.2.1.free 1
                  clear hsc hdr hdc hdk hr1 hbb hbf hbs hbm hI hr
                  go_wp2_with fail
                  refine (HB.out _).mono ?_
                  rintro e' w1 ⟨rfl, rfl⟩
                  go_wp2_with fail
                  refine (HF.out _).mono ?_
                  rintro e' w1 ⟨rfl, rfl⟩
                  go_wp2_with fail
                  refine (HSP.out _).mono ?_
                  rintro e' w1 ⟨rfl, rfl⟩
                  go_wp2_with fail
                  refine (HA.out _).mono ?_
                  rintro e' w1 ⟨rfl, rfl⟩
                  go_wp2_with fail
                  refine (HZ.out _).mono ?_
                  rintro e' w1 ⟨rfl, rfl⟩
                  go_wp2_with (at_builtin; refine Lib.wpList_append_run _ rfl _ _ _ _ rfl _ _ rfl rfl _ _ HR.out ?_)
                  clear HR
                  go_roundw
                  case rel => exact ⟨k + z, _, by omega, by simp, by rw [List.length_append]; have := HN.out; simp; omega, HE, Lib.hid (by have h := hh.out; exact h)⟩
                  case measure => simp [intOf]; omega
              · have hpa := sc_special toks r[0] ((bl r).drop 1) hbs
                have HP : Hid (r.extract 0 1 = ba [r[0]]) := Lib.hid (by rw [str_part, List.drop_zero, hdc]; rfl)
                have HE : Hid (ScAt (bl s) (k + 1) (toks ++ [⟨3, r.extract 0 1⟩])) := Lib.hid (by
                  show sc false .z (toks ++ [⟨3, r.extract 0 1⟩]) ((bl s).drop (k + 1)) = _
                  rw [hdr, HP.out, ← hpa, hsc])
                clear hpa
                obtain ⟨a', c', w4, hr, hh⟩ := HX.out.add HN.out ⟨3, r.extract 0 1⟩ (by omega)
                have HR := Lib.hid hr
                have c0 := HX.out.2.1.cell 0
                have c1 := HX.out.2.1.cell 1
                have f0 := HX.out.2.1.free 0
                have f1 := HX.out.2.1.free 1
                clear hsc hdr hdc hdk hr1 hbb hbf hbs hbm hI hr
                go_wp2_with fail
                refine (HB.out _).mono ?_
                rintro e' w1 ⟨rfl, rfl⟩
                go_wp2_with fail
                refine (HF.out _).mono ?_
                rintro e' w1 ⟨rfl, rfl⟩
                go_wp2_with fail
                refine (HSP.out _).mono ?_
                rintro e' w1 ⟨rfl, rfl⟩
                go_wp2_with (at_builtin; refine Lib.wpList_append_run _ rfl _ _ _ _ rfl _ _ rfl rfl _ _ HR.out ?_)
                clear HR
                go_roundw
                case rel => exact ⟨k + 1, _, by omega, by simp, by rw [List.length_append]; have := HN.out; simp; omega, HE, Lib.hid (by have h := hh.out; exact h)⟩
                case measure => simp [intOf]; omega
        · have HE : Hid (ScAt (bl s) (k + 2) toks) := Lib.hid (by
            show sc false .z toks ((bl s).drop (k + 2)) = _
            rw [hdr, ← sc_fold toks (bl r) hbf, ← hsc, ← hdc])
          have hz : 3 ≤ r.size := by
            rw [← bl_len]
            rcases Nat.lt_or_ge 2 (bl r).length with h | h
            · exact h
            · rw [fold_short h] at hbf; cases hbf
          clear hsc hI hdc hdk hr1 hdr hbb hbf hbs hbm
          go_wp2_with fail
          refine (HB.out _).mono ?_
          rintro e' w1 ⟨rfl, rfl⟩
          go_wp2_with fail
          refine (HF.out _).mono ?_
          rintro e' w1 ⟨rfl, rfl⟩
          go_wp2_with fail
          go_roundw
          case rel => exact ⟨k + 2, toks, by omega, by simp, by have := HN.out; omega, HE, Lib.hid (by have h := HX.out.1; exact h)⟩
          case measure => simp [intOf]; omega
      · have HE : Hid (ScAt (bl s) (k + 1) toks) := Lib.hid (by
          show sc false .z toks ((bl s).drop (k + 1)) = _
          rw [hdr, ← sc_blank toks r[0] _ hbb, hsc])
        clear hsc hI hdc hdk hr1 hdr hbb hbf hbs hbm
        go_wp2_with fail
        refine (HB.out _).mono ?_
        rintro e' w1 ⟨rfl, rfl⟩
        go_wp2_with fail
        go_roundw
        case rel => exact ⟨k + 1, toks, by omega, by simp, by have := HN.out; omega, HE, Lib.hid (by have h := HX.out.1; exact h)⟩
        case measure => simp [intOf]; omega
    · obtain rfl : k = s.size := by omega
      have HE : Hid (scan (bl s) = (0, toks)) := Lib.hid (by
        rw [← hI.out, drop_end s s.size (by omega)]
        rfl)
      have HN := Lib.hid hn
      clear hI hn
      go_wp2_with fail
      rw [Exit.noGoto_ret]
      go_ret2
      refine ScanPost.of HE.out ?_ hT.out.2
      exact owns_readsT hT.out.1
end Go.Proofs.YtklmhjoiffaniaaDoor.Lex
