/-
  Walks: join, Parse.
-/
import Derived.Test.YtpklmlhioklpoaaDoorHeadJoin
import Derived.Test.YtpklmlhioklpoaaDoorHeadGrid
import Derived.Test.YtpklmlhioklpoaaDoorHeadTest
namespace Go.Proofs.YtpklmlhioklpoaaDoor.Head
open Go Go.RowKit

def rawL (ls : List ByteArray) : List UInt8 := flatL (ls.map bl)
def joinF (F : List (List ByteArray)) : List Fd := F.map fun ls => fld (rawL ls)
/-- A list of fields that the call has made; what lay there before. -/
def FdsAt (w wr : World) (v : Value) (q : List Fd) : Prop := wr.ownsRow w.heap.size fdT 2 v q.length (q.flatMap fdC) ∧ Below w.heap.size w wr
theorem FdsAt.start (w : World) : FdsAt w w (.slice none 0 0) [] := ⟨World.ownsRow_nil _ _ _ _, Below.refl _ _⟩
theorem FdsAt.on {w wr w' : World} {v : Value} {q : List Fd} (h : FdsAt w wr v q) (hb : Below wr.heap.size wr w') : FdsAt w w' v q := ⟨owns_below h.1 hb, h.2.trans (hb.mono h.2.size)⟩
theorem pre_le (l : List UInt8) : (pre l).length ≤ l.length := (List.takeWhile_sublist _).length_le
theorem post_le (l : List UInt8) : (post l).length ≤ l.length := by
  unfold post
  have := (List.dropWhile_sublist (fun x : UInt8 => x != 58) (l := l)).length_le
  rw [List.length_drop]
  omega
set_option maxRecDepth 100000 in
set_option maxHeartbeats 2000000 in
theorem join_any (ov : Value) (F : List (List ByteArray)) (w : World) (hv : ReadsG w ov F) (hm : MaxAt w) (hF : F.length ≤ 1000000) (hc : ∀ ls ∈ F, ls.length ≤ 1000000 ∧ sumS ls ≤ 100000000) :
    Calls Tryd.prog 29 #[ov] w fun e w' => ∃ v, e = .returned v ∧ FdsAt w w' v (joinF F) := by
  obtain ⟨n, hn⟩ : ∃ n, n = F.length := ⟨_, rfl⟩
  obtain ⟨oa, oc, rfl⟩ : ∃ a c, ov = .slice a n c := by
    rcases hv with ⟨a, c, rfl, rfl⟩ | ⟨b, c, rfl, _⟩
    · exact ⟨a, c, by rw [hn]; rfl⟩
    · exact ⟨_, c, by rw [hn]⟩
  have HV : Hid (∀ i ls, F[i]? = some ls → ∃ b, oa = some ⟨b, 0, none⟩ ∧ b < w.heap.size ∧ ∃ v, w.cell? ⟨b, i, none⟩ = some v ∧ ReadsS w v ls) := Lib.hid (by
    intro i ls hi
    rcases hv with ⟨a, c, _, h⟩ | ⟨b, c, h, h1, h2⟩
    · rw [h] at hi; simp at hi
    · obtain ⟨rfl, _, _⟩ := Value.slice.inj h
      exact ⟨b, rfl, h1, h2 i ls hi⟩)
  have HS := Lib.hid (FdsAt.start w)
  have HC := Lib.hid hc
  have HM := Lib.hid hm
  have HN := Lib.hid hn
  have hn1 : n ≤ 1000000 := by omega
  clear hv hc hm hn hF
  go_enter Tryd.func29, Tryd.ntmps29
  go_wp2_with fail
  go_loopw [3, 11] (fun u i wr => ∃ k : Nat, k ≤ n ∧ i = .int .i64 k ∧ Hid (FdsAt w wr u ((joinF F).take k))) (fun _ i _ => n - (intOf i).toNat)
  case atStart => exact ⟨0, Nat.zero_le _, rfl, HS⟩
  case round =>
    clear HS
    obtain ⟨k, hk, rfl, hB⟩ := hrel
    obtain ⟨ua, uc, rfl⟩ := owns_slice hB.out.1
    have hlk : ((joinF F).take k).length = k := by rw [List.length_take]; unfold joinF; rw [List.length_map]; have := HN.out; omega
    rw [hlk] at hB ⊢
    by_cases hlt : k < n
    · obtain ⟨ls, hls⟩ : ∃ a, F[k]? = some a := ⟨F[k]'(by have := HN.out; omega), List.getElem?_eq_getElem _⟩
      obtain ⟨b, rfl, hb, v, hcv, hrv⟩ := HV.out k ls hls
      have hcell : wr.cell? ⟨b, k, none⟩ = some v := by rw [hB.out.2.cell (p := ⟨b, k, none⟩) hb]; exact hcv
      have hc := HC.out ls (List.mem_of_getElem? hls)
      have hraw : (rawL ls).length ≤ 100000000 := by
        unfold rawL
        rw [flat_len]
        exact hc.2
      have hne : (joinF F).take (k + 1) = (joinF F).take k ++ [⟨ba (pre (rawL ls)), ba (trimL (post (rawL ls)))⟩] := by
        rw [List.take_add_one]
        congr 1
        unfold joinF
        rw [List.getElem?_map, hls]
        rfl
      have HJ := Lib.hid (joinE_any v ls wr (hrv.below hB.out.2) hc.1 hc.2)
      rw [show flatL (ls.map bl) = rawL ls from rfl] at HJ
      have HNE := Lib.hid hne
      obtain ⟨r, hr⟩ : ∃ r, r = rawL ls := ⟨_, rfl⟩
      rw [← hr] at HJ HNE hraw
      clear hcv hrv hc hls hne hr
      go_wp2_with fail
      refine HJ.out.mono ?_
      rintro e w1 ⟨rfl, hb1⟩
      have HB1 := Lib.hid (hB.out.on hb1)
      have HCU := Lib.hid (cutC_any (ba r) w1 (by rw [ba_size]; omega) (HM.out.below HB1.out.2))
      rw [bl_ba] at HCU
      have HT := Lib.hid (fun W => trim_any (ba (post r)) W (by rw [ba_size]; have := post_le r; omega))
      rw [bl_ba] at HT
      clear hb1
      generalize r.contains 58 = cb at *
      generalize ba (post r) = pr at *
      generalize ba (pre r) = nm at *
      generalize ba (trimL (post r)) = vl at *
      generalize ba r = br at *
      clear hraw
      go_wp2_with fail
      refine HCU.out.mono ?_
      rintro e w2 ⟨rfl, hb2⟩
      have HB2 := Lib.hid (HB1.out.on hb2)
      clear hb2
      go_wp2_with fail
      refine (HT.out _).mono ?_
      rintro e w3 ⟨rfl, hb3⟩
      have HB3 := Lib.hid (HB2.out.on hb3)
      clear hb3
      obtain ⟨a', c', w4, hr, hh⟩ := append_oneF k (us := (joinF F).take k) hlk w3 w.heap.size (.slice ua k uc) ⟨nm, vl⟩ (by have := HB3.out.1; rw [hlk] at this; exact this) (by omega) HB3.out.2.size
      have HR := Lib.hid hr
      have HN2 : Hid (FdsAt w w4 (.slice a' (k + 1) c') ((joinF F).take (k + 1))) := Lib.hid (by
        rw [HNE.out]
        refine ⟨?_, HB3.out.2.trans hh.out.2⟩
        rw [List.length_append, hlk]
        exact hh.out.1)
      clear hr hh hlk
      go_wp2_with (at_builtin; refine Lib.wpList_append_run _ rfl _ _ _ _ rfl _ _ rfl rfl _ _ HR.out ?_)
      go_roundw
      case rel => exact ⟨k + 1, by omega, by simp, HN2⟩
      case measure => simp [intOf]; omega
    · have HE : Hid (FdsAt w wr (.slice ua k uc) (joinF F)) := Lib.hid (by
        have e : (joinF F).take k = joinF F := List.take_of_length_le (by unfold joinF; rw [List.length_map]; have := HN.out; omega)
        have h := hB.out
        rw [e] at h
        exact h)
      clear hlk
      go_wp2_with fail
      go_ret
      exact ⟨_, rfl, HE.out⟩

/-! Parse. -/
def costF (F : List (List ByteArray)) : Nat := (F.map fun ls => ls.length + sumS ls).sum
theorem mem_cost {F : List (List ByteArray)} {ls : List ByteArray} (h : ls ∈ F) : ls.length + sumS ls ≤ costF F := by
  unfold costF
  induction F with
  | nil => cases h
  | cons u T ih =>
    simp only [List.map_cons, List.sum_cons]
    rcases List.mem_cons.1 h with rfl | h
    · omega
    · have := ih h; omega
theorem cost_push (F : List (List ByteArray)) (x : ByteArray) : costF (F ++ [[x]]) = costF F + x.size + 1 := by
  unfold costF
  simp [sumS]
  omega
theorem cost_last (G : List (List ByteArray)) (us : List ByteArray) (x : ByteArray) : costF (G ++ [us ++ [x]]) = costF (G ++ [us]) + x.size + 1 := by
  unfold costF
  simp [sumS]
  omega
theorem raw_push (F : List (List ByteArray)) (x : ByteArray) (h : hdB (bl x) = false) : (F ++ [[x]]).map rawL = add (F.map rawL) (bl x) := by
  unfold add
  rw [h, if_neg (by decide)]
  simp [rawL, flatL]
theorem raw_last (G : List (List ByteArray)) (us : List ByteArray) (x : ByteArray) (h : hdB (bl x) = true) : (G ++ [us ++ [x]]).map rawL = add ((G ++ [us]).map rawL) (bl x) := by
  unfold add
  rw [h, if_pos rfl]
  simp [rawL, flatL]
theorem joinF_map (F : List (List ByteArray)) : joinF F = (F.map rawL).map fld := by
  unfold joinF
  rw [List.map_map]
  rfl
structure PsAt (s : ByteArray) (w wr : World) (rest : ByteArray) (ov : Value) (vs : List Value) (F : List (List ByteArray)) : Prop where
  eq : prsA [] (bl s) = prsA (F.map rawL) (bl rest)
  grid : GridAt w.heap.size wr ov vs F
  cost : costF F + rest.size ≤ s.size
  few : F.length ≤ 100
  below : Below w.heap.size w wr
/-- What Parse answers. -/
def PsPost (s : ByteArray) (w : World) : Ending → World → Prop := fun e w' => ∃ v, e = .returned (.tuple #[v, .string (ba (parseB (bl s))), .int .i64 (parseC (bl s))]) ∧ FdsAt w w' v (parseF (bl s))
theorem PsPost.bad {s : ByteArray} {w w' : World} {c : Nat} (h : prsA [] (bl s) = (c, [], [])) (hb : Below w.heap.size w w') : PsPost s w (.returned (.tuple #[.slice none 0 0, .string ⟨#[]⟩, .int .i64 c])) w' := by
  refine ⟨.slice none 0 0, ?_, ?_⟩
  · unfold parseB parseC
    rw [h]
  · unfold parseF
    rw [h]
    exact ⟨World.ownsRow_nil _ _ _ _, hb⟩
theorem PsPost.good {s : ByteArray} {w w1 w' : World} {F : List (List ByteArray)} {b : List UInt8} {v : Value} (h : prsA [] (bl s) = (0, F.map rawL, b)) (hw : Below w.heap.size w w1) (hf : FdsAt w1 w' v (joinF F)) : PsPost s w (.returned (.tuple #[v, .string (ba b), .int .i64 0])) w' := by
  refine ⟨v, ?_, ?_⟩
  · unfold parseB parseC
    rw [h]
    rfl
  · unfold parseF
    rw [h]
    simp only
    rw [← joinF_map]
    refine ⟨?_, hw.trans (hf.2.mono hw.size)⟩
    rcases hf.1 with ⟨h1, h2⟩
    refine ⟨h1, ?_⟩
    rcases h2 with h2 | ⟨g, cap, cur, h3, h4, h5⟩
    · exact .inl h2
    · exact .inr ⟨g, cap, cur, h3, Nat.le_trans hw.size h4, h5⟩
set_option maxRecDepth 100000 in
set_option maxHeartbeats 4000000 in
theorem parse_any (s : ByteArray) (w : World) (hs : s.size ≤ 1000000) (hm : MaxAt w) :
    Calls Tryd.prog 10 #[.string s] w (PsPost s w) := by
  have HI : Hid (PsAt s w w s (.slice none 0 0) [] []) := Lib.hid ⟨rfl, GridAt.start _ _, by simp [costF], by simp, Below.refl _ _⟩
  have HM := Lib.hid hm
  clear hm
  go_enter Tryd.func10, Tryd.ntmps10
  go_wp2_with fail
  go_loopw [0, 5] (fun s0 ov wr => ∃ (rest : ByteArray) (vs : List Value) (F : List (List ByteArray)), s0 = .string rest ∧ Hid (PsAt s w wr rest ov vs F)) (fun s0 _ _ => Lib.strSize s0)
  case atStart => exact ⟨s, [], [], rfl, HI⟩
  case round =>
    clear HI
    obtain ⟨rest, vs, F, rfl, hP⟩ := hrel
    obtain ⟨oa, oc, rfl⟩ := owns_slice hP.out.grid.outer
    obtain ⟨n, hn⟩ : ∃ n, n = F.length := ⟨_, rfl⟩
    have hn1 : n ≤ 100 := by rw [hn]; exact hP.out.few
    have hrs : rest.size ≤ 1000000 := by have := hP.out.cost; omega
    have hq := empty_any rest
    have HJ : Hid (∀ w1, Below wr.heap.size wr w1 → Calls Tryd.prog 29 #[.slice oa n oc] w1 fun e w' => ∃ v, e = .returned v ∧ FdsAt w1 w' v (joinF F)) := Lib.hid (fun w1 hb => by
      have hg := hP.out.grid.reads.below hb
      rw [← hn] at hg
      refine join_any _ F w1 hg (HM.out.below (hP.out.below.trans (hb.mono hP.out.below.size))) (by omega) fun ls hls => ?_
      have h1 := mem_cost hls
      have h2 := hP.out.cost
      omega)
    rw [← hn]
    have HNN := Lib.hid hn
    clear hn
    cases hr : bl rest with
    | nil =>
      rw [hr] at hq
      rw [show ([] : List UInt8).isEmpty = true from rfl] at hq
      have HE : Hid (prsA [] (bl s) = (0, F.map rawL, [])) := Lib.hid (by rw [hP.out.eq, hr, prsA_nil])
      have HJ0 := Lib.hid (HJ.out wr (Below.refl _ _))
      clear hr
      go_wp2_with fail
      refine HJ0.out.mono ?_
      rintro e w1 ⟨v, rfl, hf⟩
      have HF := Lib.hid hf
      clear hf
      go_wp2_with fail
      go_ret3
      exact PsPost.good HE.out hP.out.below HF.out
    | cons c0 t0 =>
      have hne : bl rest ≠ [] := by rw [hr]; simp
      rw [hr] at hq
      rw [show (c0 :: t0 : List UInt8).isEmpty = false from rfl] at hq
      clear hr
      cases hc : cut2 (bl rest) with
      | none =>
        have HE : Hid (prsA [] (bl s) = (9, [], [])) := Lib.hid (by rw [hP.out.eq, prsA_short hne hc])
        have HC := Lib.hid (cutN_any rest wr (by omega) (HM.out.below hP.out.below) hc)
        clear hne hc
        go_wp2_with fail
        refine HC.out.mono ?_
        rintro e w1 ⟨rfl, hb⟩
        have HB := Lib.hid (hP.out.below.trans (hb.mono hP.out.below.size))
        clear hb
        go_wp2_with fail
        go_ret3
        exact PsPost.bad HE.out HB.out
      | some p =>
        obtain ⟨t, r⟩ := p
        have HC := Lib.hid (cutS_any rest t r wr (by omega) (HM.out.below hP.out.below) hc)
        have hlen := cut2_len hc
        rw [bl_len] at hlen
        have htq := empty_any (ba t)
        rw [bl_ba] at htq
        by_cases htn : t = []
        · subst htn
          rw [show ([] : List UInt8).isEmpty = true from rfl] at htq
          have HE : Hid (prsA [] (bl s) = (0, F.map rawL, r)) := Lib.hid (by rw [hP.out.eq, prsA_end hc])
          clear hne hc
          go_wp2_with fail
          refine HC.out.mono ?_
          rintro e w1 ⟨rfl, hb⟩
          have HJ1 := Lib.hid (HJ.out w1 hb)
          have HB := Lib.hid (hP.out.below.trans (hb.mono hP.out.below.size))
          clear hb
          go_wp2_with fail
          refine HJ1.out.mono ?_
          rintro e w2 ⟨v, rfl, hf⟩
          have HF := Lib.hid hf
          clear hf
          go_wp2_with fail
          go_ret3
          exact PsPost.good HE.out HB.out HF.out
        · have hte : t.isEmpty = false := by
            cases t with
            | nil => exact absurd rfl htn
            | cons c1 t1 => rfl
          rw [hte] at htq
          clear hte
          have hts : 0 < (ba t).size := by rw [ba_size]; exact List.length_pos_iff.2 htn
          have hts2 : (ba t).size ≤ 1000000 := by rw [ba_size]; omega
          have HK : Hid (∀ W, MaxAt W → Calls Tryd.prog 30 #[.string (ba t), .int .i64 n] W fun e w' => e = .returned (.int .i64 (chk t n)) ∧ Below W.heap.size W w') := Lib.hid (fun W h => by
            have := check_any (ba t) n W hts (by omega) (by omega) h
            rw [bl_ba] at this
            exact this)
          by_cases hk : chk t n = 0
          · have hcz := chk_zero hk
            have hnext : prsA [] (bl s) = prsA (add (F.map rawL) t) r := by
              rw [hP.out.eq, prsA_next hc htn (by rw [List.length_map, ← HNN.out]; exact hk)]
            have HBL := Lib.hid (fun W => blank_any ((ba t)[0]'hts) W)
            have hhd := hd_get (ba t) hts
            rw [bl_ba] at hhd
            rw [← hhd] at HBL
            rw [hk] at HK
            cases hh : hdB t
            · rw [hh] at HBL
              have hfew : n + 1 ≤ 100 := by
                have := (hcz.2.2.2 hh).2
                omega
              have HNX : Hid (prsA [] (bl s) = prsA ((F ++ [[ba t]]).map rawL) (bl (ba r)) ∧ costF (F ++ [[ba t]]) + (ba r).size ≤ s.size) := Lib.hid (by
                refine ⟨?_, ?_⟩
                · rw [raw_push F (ba t) (by rw [bl_ba]; exact hh), bl_ba, bl_ba, hnext]
                · rw [cost_push, ba_size, ba_size]
                  have := hP.out.cost
                  omega)
              have hrr : (ba r).size < rest.size := by rw [ba_size]; omega
              clear hne hc htn hcz hnext hhd hh hlen
              generalize ba t = bt at *
              generalize ba r = br at *
              clear hk
              go_wp2_with fail
              refine HC.out.mono ?_
              rintro e w1 ⟨rfl, hb⟩
              have HP1 := Lib.hid (And.intro (hP.out.grid.on hb) (hP.out.below.trans (hb.mono hP.out.below.size)))
              clear hb
              go_wp2_with fail
              refine (HK.out _ (HM.out.below HP1.out.2)).mono ?_
              rintro e w2 ⟨rfl, hb⟩
              have HP2 := Lib.hid (And.intro (HP1.out.1.on hb) (HP1.out.2.trans (hb.mono HP1.out.2.size)))
              clear hb
              go_wp2_with fail
              refine (HBL.out _).mono ?_
              rintro e w3 ⟨rfl, rfl⟩
              have hg := HP2.out.1
              rw [← HNN.out] at hg
              obtain ⟨a', c', w4, hr2, hh2⟩ := hg.push n HNN.out.symm bt (by omega) HP2.out.2.size
              have HR := Lib.hid hr2
              have HN2 : Hid (PsAt s w w4 br (.slice a' (n + 1) c') (vs ++ [.slice (some ⟨w2.heap.size, 0, none⟩) 1 1]) (F ++ [[bt]])) := Lib.hid ⟨HNX.out.1, hh2.out.1, HNX.out.2, by rw [List.length_append, ← HNN.out]; exact hfew, HP2.out.2.trans hh2.out.2⟩
              clear hr2 hh2 hg
              go_wp2_with (at_builtin; refine Lib.wpList_append_run _ rfl _ _ _ _ rfl _ _ rfl rfl _ _ HR.out ?_)
              go_roundw
              case rel => exact ⟨br, _, _, rfl, HN2⟩
              case measure => exact hrr
            · rw [hh] at HBL
              have hn0 : n ≠ 0 := hcz.2.2.1 hh
              obtain ⟨k, hkn⟩ : ∃ k, n = k + 1 := ⟨n - 1, by omega⟩
              obtain ⟨G, us, hGu⟩ : ∃ G us, F = G ++ [us] := by
                have : F ≠ [] := by intro e; have h9 := HNN.out; rw [e] at h9; exact hn0 h9
                exact ⟨F.dropLast, F.getLast this, (List.dropLast_concat_getLast this).symm⟩
              subst hGu
              have hGk : G.length = k := by have h9 := HNN.out; simp at h9; omega
              have HNX : Hid (prsA [] (bl s) = prsA ((G ++ [us ++ [ba t]]).map rawL) (bl (ba r)) ∧ costF (G ++ [us ++ [ba t]]) + (ba r).size ≤ s.size) := Lib.hid (by
                refine ⟨?_, ?_⟩
                · rw [raw_last G us (ba t) (by rw [bl_ba]; exact hh), bl_ba, bl_ba, hnext]
                · rw [cost_last, ba_size, ba_size]
                  have := hP.out.cost
                  omega)
              have hus : us.length ≤ 1000000 := by
                have h1 := mem_cost (F := G ++ [us]) (ls := us) (by simp)
                have h2 := hP.out.cost
                omega
              have hrr : (ba r).size < rest.size := by rw [ba_size]; omega
              clear hne hc htn hcz hnext hhd hh hlen
              generalize ba t = bt at *
              generalize ba r = br at *
              clear hk
              subst hkn
              have hsub : ((k + 1 : Nat) : Int) - 1 = (k : Int) := by omega
              go_wp2_with fail
              refine HC.out.mono ?_
              rintro e w1 ⟨rfl, hb⟩
              have HP1 := Lib.hid (And.intro (hP.out.grid.on hb) (hP.out.below.trans (hb.mono hP.out.below.size)))
              clear hb
              go_wp2_with fail
              refine (HK.out _ (HM.out.below HP1.out.2)).mono ?_
              rintro e w2 ⟨rfl, hb⟩
              have HP2 := Lib.hid (And.intro (HP1.out.1.on hb) (HP1.out.2.trans (hb.mono HP1.out.2.size)))
              clear hb
              go_wp2_with fail
              refine (HBL.out _).mono ?_
              rintro e w3 ⟨rfl, rfl⟩
              have hg := HP2.out.1
              rw [← HNN.out] at hg
              obtain ⟨b, c, v, a, d, w4, he, hbB, hcell, ⟨va, vc, rfl⟩, hr2, hfro, hcell4, hh2⟩ := hg.last bt hus HP2.out.2.size k hGk
              obtain ⟨rfl, _, rfl⟩ := Value.slice.inj he
              have hcell2 : (w2.alloc (.cells #[.string bt] strT)).cell? ⟨b, k, none⟩ = some (.slice va us.length vc) := by
                rw [((Below.refl w2.heap.size w2).alloc (Nat.le_refl _) (.cells #[.string bt] strT)).cell (p := ⟨b, k, none⟩) (cell_lt hcell)]
                exact hcell
              have HR := Lib.hid hr2
              have HN2 : Hid (PsAt s w (w4.setCell ⟨b, k, none⟩ (.slice a (us.length + 1) d)) br (.slice (some ⟨b, 0, none⟩) (k + 1) oc) (vs.set k (.slice a (us.length + 1) d)) (G ++ [us ++ [bt]])) := Lib.hid ⟨HNX.out.1, hh2.out.1, HNX.out.2, by have := hP.out.few; simpa using this, HP2.out.2.trans hh2.out.2⟩
              clear hr2 hh2 hg he
              go_wp2_with (at_builtin; refine Lib.wpList_append_run _ rfl _ _ _ _ rfl _ _ rfl rfl _ _ HR.out ?_)
              go_roundw
              case rel => exact ⟨br, _, _, rfl, HN2⟩
              case measure => exact hrr
          · have HE : Hid (prsA [] (bl s) = (chk t n, [], [])) := Lib.hid (by
              rw [hP.out.eq, prsA_bad hc htn (by rw [List.length_map, ← HNN.out]; exact hk), List.length_map, ← HNN.out])
            have hkq : ((chk t n : Int) != 0) = true := by rw [bne_iff_ne]; omega
            have hcl : chk t n ≤ 1000 := by unfold chk; (repeat' split) <;> omega
            clear hne hc htn hk
            generalize chk t n = ck at *
            generalize ba t = bt at *
            generalize ba r = br at *
            go_wp2_with fail
            refine HC.out.mono ?_
            rintro e w1 ⟨rfl, hb⟩
            have HB := Lib.hid (hP.out.below.trans (hb.mono hP.out.below.size))
            clear hb
            go_wp2_with fail
            refine (HK.out _ (HM.out.below HB.out)).mono ?_
            rintro e w2 ⟨rfl, hb⟩
            have HB2 := Lib.hid (HB.out.trans (hb.mono HB.out.size))
            clear hb
            go_wp2_with fail
            go_ret3
            exact PsPost.bad HE.out HB2.out
end Go.Proofs.YtpklmlhioklpoaaDoor.Head
