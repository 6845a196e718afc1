/-
  Walks of the document's answer: Decode.
-/
import Derived.Test.YtobnckbpgckgjaaDoorQpRefB
namespace Go.Proofs.YtobnckbpgckgjaaDoor.Qp
open Go Go.RowKit
open Go.Proofs.YtobnckbpgckgjaaDoor.Head

/-- Lines, read, where the one before ended softly or not. -/
def decD : Bool → List (List UInt8) → Option (List UInt8)
  | _, [] => some []
  | b, l :: ls => match rdW (bodyL l) with
    | none => none
    | some x => (decD (softB l) ls).map fun y => (if b then [] else [13, 10]) ++ (x ++ y)
theorem decD_eq : ∀ (ls : List (List UInt8)) (b : Bool), ls ≠ [] → decD b ls = (decJ ls).map ((if b then [] else [13, 10]) ++ ·)
  | [], b, h => absurd rfl h
  | [l], b, _ => by
    rw [decD, decJ]
    cases rdW (bodyL l) with
    | none => rfl
    | some x => simp [decD, decJ]
  | l :: m :: t, b, _ => by
    rw [decD, decJ, decD_eq (m :: t) (softB l) (by simp)]
    cases rdW (bodyL l) with
    | none => rfl
    | some x =>
      simp only [List.isEmpty_cons, Bool.or_false, Option.map_map]
      rfl
theorem decL_eq (s : List UInt8) : decL s = decD true (spl s) := by
  rw [decD_eq _ true (spl_ne s)]
  unfold decL
  simp
theorem trimR_snoc (a : List UInt8) (c : UInt8) : trimR (a ++ [c]) = if bk c then trimR a else a ++ [c] := by
  unfold trimR
  rw [List.reverse_append, List.reverse_cons, List.reverse_nil, List.nil_append, List.singleton_append, List.dropWhile_cons]
  split
  · rfl
  · simp
theorem last_split (s : ByteArray) (h : 0 < s.size) : bl s = (bl s).dropLast ++ [s[s.size - 1]'(by omega)] := by
  have hne : bl s ≠ [] := by
    intro e
    have := bl_len s
    rw [e, List.length_nil] at this
    omega
  have h1 := List.dropLast_concat_getLast hne
  have h2 := last_get s h
  rw [List.getLast?_eq_some_getLast hne] at h2
  rw [Option.some.inj h2] at h1
  exact h1.symm
theorem bl_nil {s : ByteArray} (h : ¬ 0 < s.size) : bl s = [] := by
  apply List.length_eq_zero_iff.1
  rw [bl_len]
  omega
theorem self_false (c : UInt8) : selfB c false = (its c || bk c) := by rw [self_or]; simp
/-- What the document's loop over lines has. -/
structure DdAt (s : ByteArray) (ls : List (List UInt8)) (w wr : World) (ob : ByteArray) (soft : Bool) (i : Nat) : Prop where
  eq : decL (bl s) = (decD soft (ls.drop i)).map (bl ob ++ ·)
  below : Below w.heap.size w wr
/-- What the loop over a line's bytes has. -/
structure DkAt (B : ByteArray) (w wr : World) (b0 ob : ByteArray) (k : Nat) : Prop where
  eq : ∃ x, rdW (bl B) = (rdW ((bl B).drop k)).map (x ++ ·) ∧ bl ob = bl b0 ++ x
  below : Below w.heap.size w wr
set_option maxRecDepth 100000 in
set_option maxHeartbeats 4000000 in
theorem rdecode_any (s : ByteArray) (w : World) (hs : s.size ≤ 5000) :
    Calls Tryd.prog 12 #[.string s] w (DcPost (bl s) w) := by
  have HL := Lib.hid (rlines_any s w (by omega))
  have hsf := spl_facts (bl s)
  rw [bl_len] at hsf
  have HDE := Lib.hid (decL_eq (bl s))
  have hxz : ∀ x ∈ spl (bl s), (ba x).size ≤ 5000 := fun x hx => by rw [ba_size]; have := hsf.2 x hx; omega
  have hn0 := hsf.1
  clear hsf
  generalize spl (bl s) = ls at *
  have HXZ := Lib.hid hxz
  clear hxz
  have HK : Hid (∀ (c : UInt8) W, Calls Tryd.prog 24 #[.int .u8 c.toNat] W fun e w' => e = .returned (.bool (bk c)) ∧ W = w') := Lib.hid (fun c W => rblank_any c W)
  have HC : Hid (∀ (c : UInt8) W, Calls Tryd.prog 25 #[.int .u8 c.toNat] W fun e w' => e = .returned (.bool (its c)) ∧ W = w') := Lib.hid (fun c W => ritself_any c W)
  have HBY := Lib.hid (fun x W => rbyte_any x W)
  go_enter Tryd.func12, Tryd.ntmps12
  go_wp2_with fail
  refine HL.out.mono ?_
  rintro e w1 ⟨u, rfl, hf⟩
  obtain ⟨n, hn⟩ : ∃ n, n = ls.length := ⟨_, rfl⟩
  obtain ⟨ua, uc, rfl, hsh⟩ := strs_shape (owns_readsS hf.1) (n := n) (by rw [hn, List.length_map])
  have HV : Hid (∀ i x, ls[i]? = some x → ∃ b, ua = some ⟨b, 0, none⟩ ∧ b < w1.heap.size ∧ w1.cell? ⟨b, i, none⟩ = some (.string (ba x))) := Lib.hid (fun i x h => hsh i (ba x) (by rw [List.getElem?_map, h]; rfl))
  have HB1 := Lib.hid hf.2
  have HNN := Lib.hid hn
  have hnz : n ≤ 5001 := by omega
  have HI : Hid (DdAt s ls w1 w1 ⟨#[]⟩ true 0) := Lib.hid ⟨by rw [HDE.out, List.drop_zero]; cases decD true ls <;> rfl, Below.refl _ _⟩
  clear hf hsh hn HL HDE hn0
  go_wp2_with fail
  go_loopw [5, 6, 7] (fun o f i wr => ∃ (k : Nat) (ob : ByteArray) (soft : Bool), k ≤ n ∧ i = .int .i64 k ∧ o = .string ob ∧ f = .bool soft ∧ ob.size ≤ k * 6000 ∧ Hid (DdAt s ls w1 wr ob soft k)) (fun _ _ i _ => n - (intOf i).toNat)
  case atStart => exact ⟨0, _, true, Nat.zero_le _, rfl, rfl, rfl, Nat.zero_le _, HI⟩
  case round =>
    clear HI
    obtain ⟨i, ob, soft, hi, rfl, rfl, rfl, hoz, hD⟩ := hrel
    rename World => wq
    by_cases hlt : i < n
    · obtain ⟨x, hx⟩ : ∃ a, ls[i]? = some a := ⟨ls[i]'(by have := HNN.out; omega), List.getElem?_eq_getElem _⟩
      obtain ⟨g, rfl, hg, hc⟩ := HV.out i x hx
      have hcell : wq.cell? ⟨g, i, none⟩ = some (.string (ba x)) := by rw [hD.out.below.cell (p := ⟨g, i, none⟩) hg]; exact hc
      have hbz := HXZ.out x (List.mem_of_getElem? hx)
      have hdrop : ls.drop i = x :: ls.drop (i + 1) := by
        have h := List.getElem?_eq_some_iff.1 hx
        rw [List.drop_eq_getElem_cons h.1, h.2]
      have HQ : Hid (decL (bl s) = match rdW (bodyL x) with
          | none => none
          | some z => (decD (softB x) (ls.drop (i + 1))).map fun y => bl ob ++ ((if soft then [] else [13, 10]) ++ (z ++ y))) := Lib.hid (by
        rw [hD.out.eq, hdrop, decD]
        cases rdW (bodyL x) with
        | none => rfl
        | some z => simp only [Option.map_map]; rfl)
      have HBW := Lib.hid hD.out.below
      have HTI : Hid (trimR (bl (ba x)) = trimR x) := Lib.hid (by rw [bl_ba])
      clear hx hc hdrop hD
      generalize ba x = t0 at *
      go_wp2_with fail
      go_loopw [8] (fun v wx => ∃ tb : ByteArray, v = .string tb ∧ tb.size ≤ 5000 ∧ Hid (trimR (bl tb) = trimR x) ∧ wq = wx) (fun v _ => strSz v)
      case atStart => exact ⟨t0, rfl, hbz, HTI, rfl⟩
      case round =>
        clear HTI hcell hbz
        obtain ⟨tb, rfl, htz, hT, rfl⟩ := hrel
        by_cases h0 : 0 < tb.size
        · have hsub : (tb.size : Int) - 1 = ((tb.size - 1 : Nat) : Int) := by omega
          have hls := last_split tb h0
          have hpre := to_pred tb
          have hpz : (tb.extract 0 (tb.size - 1)).size = tb.size - 1 := by rw [ByteArray.size_extract]; omega
          have hlt1 : tb.size - 1 < tb.size := by omega
          have HKL := Lib.hid (HK.out tb[tb.size - 1] wq)
          cases hb : bk tb[tb.size - 1]
          · -- trimmed
            rw [hb] at HKL
            have HTB : Hid (trimR x = bl tb) := Lib.hid (by rw [← hT.out, hls, trimR_snoc, hb]; rfl)
            have HLG := Lib.hid (last_get tb h0)
            clear hT hb hls
            by_cases h61 : tb[tb.size - 1] = 61
            · have q : ((tb[tb.size - 1].toNat : Int) == 61) = true := by rw [h61]; rfl
              have HSB : Hid (softB x = true) := Lib.hid (by unfold softB; rw [HTB.out, HLG.out, h61]; rfl)
              obtain ⟨B, hB⟩ : ∃ B, B = tb.extract 0 (tb.size - 1) := ⟨_, rfl⟩
              have HBD : Hid (bl B = bodyL x) := Lib.hid (by unfold bodyL; rw [HSB.out, if_pos rfl, HTB.out, hB, hpre])
              have hBz : B.size ≤ 5000 := by rw [hB, hpz]; omega
              have HBB := Lib.hid hB
              clear hB hpre hpz HLG HTB h61
              cases soft
              · have HOB : Hid (bl (ob ++ ⟨#[13, 10]⟩) = bl ob ++ (if false then [] else [13, 10])) := Lib.hid (by rw [bl_app]; rfl)
                have hb0z : (ob ++ ⟨#[13, 10]⟩ : ByteArray).size ≤ i * 6000 + 2 := by rw [ByteArray.size_append, show (⟨#[13, 10]⟩ : ByteArray).size = 2 from rfl]; omega
                have HKI : Hid (DkAt B wq wq (ob ++ ⟨#[13, 10]⟩) (ob ++ ⟨#[13, 10]⟩) 0) := Lib.hid ⟨⟨[], by simp, by simp⟩, Below.refl _ _⟩
                obtain ⟨bz, hbz⟩ : ∃ b, b = (ob ++ ⟨#[13, 10]⟩ : ByteArray) := ⟨_, rfl⟩
                rw [← hbz] at HOB hb0z HKI
                have HBZ := Lib.hid hbz
                clear hbz
                go_wp2_with fail
                refine HKL.out.mono ?_
                rintro e w3 ⟨rfl, rfl⟩
                go_wp2_with fail
                rw [← HBB.out]
                rw [← HBZ.out]
                go_loopw [5, 9] (fun o z wr => ∃ (k : Nat) (o2 : ByteArray), k ≤ B.size ∧ z = .int .i64 k ∧ o = .string o2 ∧ o2.size ≤ bz.size + k ∧ Hid (DkAt B wq wr bz o2 k)) (fun _ z _ => B.size - (intOf z).toNat)
                case atStart => exact ⟨0, _, Nat.zero_le _, rfl, rfl, Nat.le_refl _, HKI⟩
                case round =>
                  clear HKI
                  obtain ⟨k, o2, hk, rfl, rfl, ho2, hE⟩ := hrel
                  by_cases hlt2 : k < B.size
                  · have hd := drop_cons B k hlt2
                    have HBE := Lib.hid (HB1.out.trans ((HBW.out.trans (hE.out.below.mono HBW.out.size)).mono HB1.out.size))
                    have HC1 := Lib.hid (HC.out B[k] wr)
                    have HK1 := Lib.hid (HK.out B[k] wr)
                    have hex : bl (B.extract k (k + 1)) = [B[k]] := by rw [ba1 B k hlt2, bl_ba]
                    have hexz : (B.extract k (k + 1)).size = 1 := by rw [ByteArray.size_extract]; omega
                    by_cases c61 : B[k] = 61
                    · have q61 : ((B[k].toNat : Int) == 61) = true := by rw [c61]; rfl
                      by_cases hsh : B.size ≤ k + 2
                      · have hge : (k : Int) + 2 ≥ (B.size : Int) := by omega
                        have HE : Hid (decL (bl s) = none) := Lib.hid (by
                          obtain ⟨z, h1, _⟩ := hE.out.eq
                          rw [hd, c61, rdW_short (by rw [List.length_drop, bl_len]; omega)] at h1
                          rw [HQ.out, ← HBD.out, h1]
                          rfl)
                        clear hd hE c61 hex hexz
                        go_wp2_with fail
                        go_ret2
                        exact DcPost.bad HE.out HBE.out
                      · have hge : ¬ (k : Int) + 2 ≥ (B.size : Int) := by omega
                        have hd1 : (bl B).drop (k + 1) = B[k + 1] :: (bl B).drop (k + 2) := drop_cons B (k + 1) (by omega)
                        have hd2 := drop_cons B (k + 2) (by omega)
                        have hx2 : bl (B.extract (k + 1) (k + 3)) = [B[k + 1], B[k + 2]] := by
                          rw [bl_extract, hd1, hd2, show k + 3 - (k + 1) = 2 by omega]
                          rfl
                        have HBY1 := Lib.hid (HBY.out (B.extract (k + 1) (k + 3)) wr)
                        rw [hx2] at HBY1
                        have hstep : rdW ((bl B).drop k) = match hxL B[k + 1] B[k + 2] with | some v => (rdW ((bl B).drop (k + 1 + 1 + 1))).map (v :: ·) | none => none := by
                          rw [hd, c61, hd1, hd2, rdW_esc]
                          rfl
                        have hbv : byteL [B[k + 1], B[k + 2]] = hxL B[k + 1] B[k + 2] := rfl
                        clear hd hd1 hd2 hx2
                        unfold byteN byteS at HBY1
                        rw [hbv] at HBY1
                        clear hbv
                        cases hq : hxL B[k + 1] B[k + 2] with
                        | none =>
                          rw [hq] at hstep HBY1
                          have HE : Hid (decL (bl s) = none) := Lib.hid (by
                            obtain ⟨z, h1, _⟩ := hE.out.eq
                            rw [hstep] at h1
                            rw [HQ.out, ← HBD.out, h1]
                            rfl)
                          clear hstep hE c61 hex hexz hq
                          go_wp2_with fail
                          refine HBY1.out.mono ?_
                          rintro e w4 ⟨rfl, rfl⟩
                          go_wp2_with fail
                          go_ret2
                          exact DcPost.bad HE.out HBE.out
                        | some v =>
                          rw [hq] at hstep HBY1
                          have HN : Hid (∀ W, Below wq.heap.size wq W → DkAt B wq W bz (o2 ++ ba [v]) (k + 1 + 1 + 1)) := Lib.hid (fun W hW => ⟨by
                            obtain ⟨z, h1, h2⟩ := hE.out.eq
                            refine ⟨z ++ [v], ?_, ?_⟩
                            · rw [h1, hstep]
                              simp only [Option.map_map]
                              congr 1
                              funext y
                              simp
                            · rw [bl_app, h2, bl_ba, List.append_assoc], hW⟩)
                          have HWY := Lib.hid hE.out.below
                          have r3 : (convert 35 9 (.slice (some ⟨wr.heap.size, 0, none⟩) 1 1)).run Tryd.prog (wr.alloc (.cells #[.int .u8 v.toNat] 5)) = .ok (.string (ba [v])) (wr.alloc (.cells #[.int .u8 v.toNat] 5)) := conv1 _ _ _ (by simp)
                          have hoz2 : (o2 ++ ba [v]).size ≤ bz.size + (k + 1 + 1 + 1) := by rw [ByteArray.size_append, show (ba [v]).size = 1 from rfl]; omega
                          have hv1 : (ba [v]).size = 1 := rfl
                          clear hstep hE c61 hex hexz hq
                          go_wp2_with fail
                          refine HBY1.out.mono ?_
                          rintro e w4 ⟨rfl, rfl⟩
                          go_wp2_with fail
                          go_roundw
                          case rel => exact ⟨k + 1 + 1 + 1, _, by omega, by go_num, rfl, hoz2, Lib.hid (HN.out _ (HWY.out.alloc HWY.out.size _))⟩
                          case measure => simp [intOf]; omega
                    · have q61 : ((B[k].toNat : Int) == 61) = false := by
                        rw [beq_eq_false_iff_ne]
                        intro e
                        apply c61
                        rw [← UInt8.toNat_inj]
                        show _ = 61
                        omega
                      have hsf := self_false B[k]
                      have hoz2 : (o2 ++ B.extract k (k + 1)).size ≤ bz.size + (k + 1) := by rw [ByteArray.size_append, hexz]; omega
                      have HN : selfB B[k] false = true → Hid (DkAt B wq wr bz (o2 ++ B.extract k (k + 1)) (k + 1)) := fun h => Lib.hid ⟨by
                        obtain ⟨z, h1, h2⟩ := hE.out.eq
                        refine ⟨z ++ [B[k]], ?_, ?_⟩
                        · rw [h1, hd, rdW_self h, Option.map_map]
                          congr 1
                          funext y
                          simp
                        · rw [bl_app, h2, hex, List.append_assoc], hE.out.below⟩
                      cases hi : its B[k]
                      · cases hb : bk B[k]
                        · have HE : Hid (decL (bl s) = none) := Lib.hid (by
                            obtain ⟨z, h1, _⟩ := hE.out.eq
                            rw [hd, rdW_bad (by rw [hsf, hi, hb]; rfl) c61] at h1
                            rw [HQ.out, ← HBD.out, h1]
                            rfl)
                          rw [hi] at HC1
                          rw [hb] at HK1
                          clear hd hE c61 hex hsf HN hi hb
                          go_wp2_with fail
                          refine HC1.out.mono ?_
                          rintro e w4 ⟨rfl, rfl⟩
                          go_wp2_with fail
                          refine HK1.out.mono ?_
                          rintro e w4 ⟨rfl, rfl⟩
                          go_wp2_with fail
                          go_ret2
                          exact DcPost.bad HE.out HBE.out
                        · have HNN2 := HN (by rw [hsf, hi, hb]; rfl)
                          rw [hi] at HC1
                          rw [hb] at HK1
                          clear hd hE c61 hex hsf HN hi hb
                          go_wp2_with fail
                          refine HC1.out.mono ?_
                          rintro e w4 ⟨rfl, rfl⟩
                          go_wp2_with fail
                          refine HK1.out.mono ?_
                          rintro e w4 ⟨rfl, rfl⟩
                          go_wp2_with fail
                          go_roundw
                          case rel => exact ⟨k + 1, _, by omega, by simp, rfl, hoz2, HNN2⟩
                          case measure => simp [intOf]; omega
                      · have HNN2 := HN (by rw [hsf, hi]; rfl)
                        rw [hi] at HC1
                        clear hd hE c61 hex hsf HN hi HK1
                        go_wp2_with fail
                        refine HC1.out.mono ?_
                        rintro e w4 ⟨rfl, rfl⟩
                        go_wp2_with fail
                        go_roundw
                        case rel => exact ⟨k + 1, _, by omega, by simp, rfl, hoz2, HNN2⟩
                        case measure => simp [intOf]; omega
                  · have HN : Hid (DdAt s ls w1 wr o2 true (i + 1)) := Lib.hid ⟨by
                      obtain ⟨z, h1, h2⟩ := hE.out.eq
                      rw [drop_end B k hlt2, show rdW [] = some [] from rfl, Option.map_some, List.append_nil] at h1
                      rw [HQ.out, ← HBD.out, h1, HSB.out, h2]
                      rw [HOB.out]
                      simp, HBW.out.trans (hE.out.below.mono HBW.out.size)⟩
                    clear hE
                    go_wp2_with fail
                    go_roundw
                    case rel => exact ⟨i + 1, _, _, by omega, by simp, rfl, rfl, by omega, HN⟩
                    case measure => simp [intOf]; omega
              · have hb0z : ob.size ≤ i * 6000 + 2 := by omega
                have HKI : Hid (DkAt B wq wq ob ob 0) := Lib.hid ⟨⟨[], by simp, by simp⟩, Below.refl _ _⟩
                go_wp2_with fail
                refine HKL.out.mono ?_
                rintro e w3 ⟨rfl, rfl⟩
                go_wp2_with fail
                rw [← HBB.out]
                go_loopw [5, 9] (fun o z wr => ∃ (k : Nat) (o2 : ByteArray), k ≤ B.size ∧ z = .int .i64 k ∧ o = .string o2 ∧ o2.size ≤ ob.size + k ∧ Hid (DkAt B wq wr ob o2 k)) (fun _ z _ => B.size - (intOf z).toNat)
                case atStart => exact ⟨0, _, Nat.zero_le _, rfl, rfl, Nat.le_refl _, HKI⟩
                case round =>
                  clear HKI
                  obtain ⟨k, o2, hk, rfl, rfl, ho2, hE⟩ := hrel
                  by_cases hlt2 : k < B.size
                  · have hd := drop_cons B k hlt2
                    have HBE := Lib.hid (HB1.out.trans ((HBW.out.trans (hE.out.below.mono HBW.out.size)).mono HB1.out.size))
                    have HC1 := Lib.hid (HC.out B[k] wr)
                    have HK1 := Lib.hid (HK.out B[k] wr)
                    have hex : bl (B.extract k (k + 1)) = [B[k]] := by rw [ba1 B k hlt2, bl_ba]
                    have hexz : (B.extract k (k + 1)).size = 1 := by rw [ByteArray.size_extract]; omega
                    by_cases c61 : B[k] = 61
                    · have q61 : ((B[k].toNat : Int) == 61) = true := by rw [c61]; rfl
                      by_cases hsh : B.size ≤ k + 2
                      · have hge : (k : Int) + 2 ≥ (B.size : Int) := by omega
                        have HE : Hid (decL (bl s) = none) := Lib.hid (by
                          obtain ⟨z, h1, _⟩ := hE.out.eq
                          rw [hd, c61, rdW_short (by rw [List.length_drop, bl_len]; omega)] at h1
                          rw [HQ.out, ← HBD.out, h1]
                          rfl)
                        clear hd hE c61 hex hexz
                        go_wp2_with fail
                        go_ret2
                        exact DcPost.bad HE.out HBE.out
                      · have hge : ¬ (k : Int) + 2 ≥ (B.size : Int) := by omega
                        have hd1 : (bl B).drop (k + 1) = B[k + 1] :: (bl B).drop (k + 2) := drop_cons B (k + 1) (by omega)
                        have hd2 := drop_cons B (k + 2) (by omega)
                        have hx2 : bl (B.extract (k + 1) (k + 3)) = [B[k + 1], B[k + 2]] := by
                          rw [bl_extract, hd1, hd2, show k + 3 - (k + 1) = 2 by omega]
                          rfl
                        have HBY1 := Lib.hid (HBY.out (B.extract (k + 1) (k + 3)) wr)
                        rw [hx2] at HBY1
                        have hstep : rdW ((bl B).drop k) = match hxL B[k + 1] B[k + 2] with | some v => (rdW ((bl B).drop (k + 1 + 1 + 1))).map (v :: ·) | none => none := by
                          rw [hd, c61, hd1, hd2, rdW_esc]
                          rfl
                        have hbv : byteL [B[k + 1], B[k + 2]] = hxL B[k + 1] B[k + 2] := rfl
                        clear hd hd1 hd2 hx2
                        unfold byteN byteS at HBY1
                        rw [hbv] at HBY1
                        clear hbv
                        cases hq : hxL B[k + 1] B[k + 2] with
                        | none =>
                          rw [hq] at hstep HBY1
                          have HE : Hid (decL (bl s) = none) := Lib.hid (by
                            obtain ⟨z, h1, _⟩ := hE.out.eq
                            rw [hstep] at h1
                            rw [HQ.out, ← HBD.out, h1]
                            rfl)
                          clear hstep hE c61 hex hexz hq
                          go_wp2_with fail
                          refine HBY1.out.mono ?_
                          rintro e w4 ⟨rfl, rfl⟩
                          go_wp2_with fail
                          go_ret2
                          exact DcPost.bad HE.out HBE.out
                        | some v =>
                          rw [hq] at hstep HBY1
                          have HN : Hid (∀ W, Below wq.heap.size wq W → DkAt B wq W ob (o2 ++ ba [v]) (k + 1 + 1 + 1)) := Lib.hid (fun W hW => ⟨by
                            obtain ⟨z, h1, h2⟩ := hE.out.eq
                            refine ⟨z ++ [v], ?_, ?_⟩
                            · rw [h1, hstep]
                              simp only [Option.map_map]
                              congr 1
                              funext y
                              simp
                            · rw [bl_app, h2, bl_ba, List.append_assoc], hW⟩)
                          have HWY := Lib.hid hE.out.below
                          have r3 : (convert 35 9 (.slice (some ⟨wr.heap.size, 0, none⟩) 1 1)).run Tryd.prog (wr.alloc (.cells #[.int .u8 v.toNat] 5)) = .ok (.string (ba [v])) (wr.alloc (.cells #[.int .u8 v.toNat] 5)) := conv1 _ _ _ (by simp)
                          have hoz2 : (o2 ++ ba [v]).size ≤ ob.size + (k + 1 + 1 + 1) := by rw [ByteArray.size_append, show (ba [v]).size = 1 from rfl]; omega
                          have hv1 : (ba [v]).size = 1 := rfl
                          clear hstep hE c61 hex hexz hq
                          go_wp2_with fail
                          refine HBY1.out.mono ?_
                          rintro e w4 ⟨rfl, rfl⟩
                          go_wp2_with fail
                          go_roundw
                          case rel => exact ⟨k + 1 + 1 + 1, _, by omega, by go_num, rfl, hoz2, Lib.hid (HN.out _ (HWY.out.alloc HWY.out.size _))⟩
                          case measure => simp [intOf]; omega
                    · have q61 : ((B[k].toNat : Int) == 61) = false := by
                        rw [beq_eq_false_iff_ne]
                        intro e
                        apply c61
                        rw [← UInt8.toNat_inj]
                        show _ = 61
                        omega
                      have hsf := self_false B[k]
                      have hoz2 : (o2 ++ B.extract k (k + 1)).size ≤ ob.size + (k + 1) := by rw [ByteArray.size_append, hexz]; omega
                      have HN : selfB B[k] false = true → Hid (DkAt B wq wr ob (o2 ++ B.extract k (k + 1)) (k + 1)) := fun h => Lib.hid ⟨by
                        obtain ⟨z, h1, h2⟩ := hE.out.eq
                        refine ⟨z ++ [B[k]], ?_, ?_⟩
                        · rw [h1, hd, rdW_self h, Option.map_map]
                          congr 1
                          funext y
                          simp
                        · rw [bl_app, h2, hex, List.append_assoc], hE.out.below⟩
                      cases hi : its B[k]
                      · cases hb : bk B[k]
                        · have HE : Hid (decL (bl s) = none) := Lib.hid (by
                            obtain ⟨z, h1, _⟩ := hE.out.eq
                            rw [hd, rdW_bad (by rw [hsf, hi, hb]; rfl) c61] at h1
                            rw [HQ.out, ← HBD.out, h1]
                            rfl)
                          rw [hi] at HC1
                          rw [hb] at HK1
                          clear hd hE c61 hex hsf HN hi hb
                          go_wp2_with fail
                          refine HC1.out.mono ?_
                          rintro e w4 ⟨rfl, rfl⟩
                          go_wp2_with fail
                          refine HK1.out.mono ?_
                          rintro e w4 ⟨rfl, rfl⟩
                          go_wp2_with fail
                          go_ret2
                          exact DcPost.bad HE.out HBE.out
                        · have HNN2 := HN (by rw [hsf, hi, hb]; rfl)
                          rw [hi] at HC1
                          rw [hb] at HK1
                          clear hd hE c61 hex hsf HN hi hb
                          go_wp2_with fail
                          refine HC1.out.mono ?_
                          rintro e w4 ⟨rfl, rfl⟩
                          go_wp2_with fail
                          refine HK1.out.mono ?_
                          rintro e w4 ⟨rfl, rfl⟩
                          go_wp2_with fail
                          go_roundw
                          case rel => exact ⟨k + 1, _, by omega, by simp, rfl, hoz2, HNN2⟩
                          case measure => simp [intOf]; omega
                      · have HNN2 := HN (by rw [hsf, hi]; rfl)
                        rw [hi] at HC1
                        clear hd hE c61 hex hsf HN hi HK1
                        go_wp2_with fail
                        refine HC1.out.mono ?_
                        rintro e w4 ⟨rfl, rfl⟩
                        go_wp2_with fail
                        go_roundw
                        case rel => exact ⟨k + 1, _, by omega, by simp, rfl, hoz2, HNN2⟩
                        case measure => simp [intOf]; omega
                  · have HN : Hid (DdAt s ls w1 wr o2 true (i + 1)) := Lib.hid ⟨by
                      obtain ⟨z, h1, h2⟩ := hE.out.eq
                      rw [drop_end B k hlt2, show rdW [] = some [] from rfl, Option.map_some, List.append_nil] at h1
                      rw [HQ.out, ← HBD.out, h1, HSB.out, h2]
                      simp, HBW.out.trans (hE.out.below.mono HBW.out.size)⟩
                    clear hE
                    go_wp2_with fail
                    go_roundw
                    case rel => exact ⟨i + 1, _, _, by omega, by simp, rfl, rfl, by omega, HN⟩
                    case measure => simp [intOf]; omega
            · have q : ((tb[tb.size - 1].toNat : Int) == 61) = false := by
                rw [beq_eq_false_iff_ne]
                intro e
                apply h61
                rw [← UInt8.toNat_inj]
                show _ = 61
                omega
              have HSB : Hid (softB x = false) := Lib.hid (by unfold softB; rw [HTB.out, HLG.out, beq_eq_false_iff_ne]; intro e; exact h61 (Option.some.inj e))
              have HBD : Hid (bl tb = bodyL x) := Lib.hid (by unfold bodyL; rw [HSB.out, if_neg (by decide), HTB.out])
              clear hpre hpz HLG HTB h61
              cases soft
              · have HOB : Hid (bl (ob ++ ⟨#[13, 10]⟩) = bl ob ++ (if false then [] else [13, 10])) := Lib.hid (by rw [bl_app]; rfl)
                have hb0z : (ob ++ ⟨#[13, 10]⟩ : ByteArray).size ≤ i * 6000 + 2 := by rw [ByteArray.size_append, show (⟨#[13, 10]⟩ : ByteArray).size = 2 from rfl]; omega
                have HKI : Hid (DkAt tb wq wq (ob ++ ⟨#[13, 10]⟩) (ob ++ ⟨#[13, 10]⟩) 0) := Lib.hid ⟨⟨[], by simp, by simp⟩, Below.refl _ _⟩
                obtain ⟨bz, hbz⟩ : ∃ b, b = (ob ++ ⟨#[13, 10]⟩ : ByteArray) := ⟨_, rfl⟩
                rw [← hbz] at HOB hb0z HKI
                have HBZ := Lib.hid hbz
                clear hbz
                go_wp2_with fail
                refine HKL.out.mono ?_
                rintro e w3 ⟨rfl, rfl⟩
                go_wp2_with fail
                rw [← HBZ.out]
                go_loopw [5, 9] (fun o z wr => ∃ (k : Nat) (o2 : ByteArray), k ≤ tb.size ∧ z = .int .i64 k ∧ o = .string o2 ∧ o2.size ≤ bz.size + k ∧ Hid (DkAt tb wq wr bz o2 k)) (fun _ z _ => tb.size - (intOf z).toNat)
                case atStart => exact ⟨0, _, Nat.zero_le _, rfl, rfl, Nat.le_refl _, HKI⟩
                case round =>
                  clear HKI
                  obtain ⟨k, o2, hk, rfl, rfl, ho2, hE⟩ := hrel
                  by_cases hlt2 : k < tb.size
                  · have hd := drop_cons tb k hlt2
                    have HBE := Lib.hid (HB1.out.trans ((HBW.out.trans (hE.out.below.mono HBW.out.size)).mono HB1.out.size))
                    have HC1 := Lib.hid (HC.out tb[k] wr)
                    have HK1 := Lib.hid (HK.out tb[k] wr)
                    have hex : bl (tb.extract k (k + 1)) = [tb[k]] := by rw [ba1 tb k hlt2, bl_ba]
                    have hexz : (tb.extract k (k + 1)).size = 1 := by rw [ByteArray.size_extract]; omega
                    by_cases c61 : tb[k] = 61
                    · have q61 : ((tb[k].toNat : Int) == 61) = true := by rw [c61]; rfl
                      by_cases hsh : tb.size ≤ k + 2
                      · have hge : (k : Int) + 2 ≥ (tb.size : Int) := by omega
                        have HE : Hid (decL (bl s) = none) := Lib.hid (by
                          obtain ⟨z, h1, _⟩ := hE.out.eq
                          rw [hd, c61, rdW_short (by rw [List.length_drop, bl_len]; omega)] at h1
                          rw [HQ.out, ← HBD.out, h1]
                          rfl)
                        clear hd hE c61 hex hexz
                        go_wp2_with fail
                        go_ret2
                        exact DcPost.bad HE.out HBE.out
                      · have hge : ¬ (k : Int) + 2 ≥ (tb.size : Int) := by omega
                        have hd1 : (bl tb).drop (k + 1) = tb[k + 1] :: (bl tb).drop (k + 2) := drop_cons tb (k + 1) (by omega)
                        have hd2 := drop_cons tb (k + 2) (by omega)
                        have hx2 : bl (tb.extract (k + 1) (k + 3)) = [tb[k + 1], tb[k + 2]] := by
                          rw [bl_extract, hd1, hd2, show k + 3 - (k + 1) = 2 by omega]
                          rfl
                        have HBY1 := Lib.hid (HBY.out (tb.extract (k + 1) (k + 3)) wr)
                        rw [hx2] at HBY1
                        have hstep : rdW ((bl tb).drop k) = match hxL tb[k + 1] tb[k + 2] with | some v => (rdW ((bl tb).drop (k + 1 + 1 + 1))).map (v :: ·) | none => none := by
                          rw [hd, c61, hd1, hd2, rdW_esc]
                          rfl
                        have hbv : byteL [tb[k + 1], tb[k + 2]] = hxL tb[k + 1] tb[k + 2] := rfl
                        clear hd hd1 hd2 hx2
                        unfold byteN byteS at HBY1
                        rw [hbv] at HBY1
                        clear hbv
                        cases hq : hxL tb[k + 1] tb[k + 2] with
                        | none =>
                          rw [hq] at hstep HBY1
                          have HE : Hid (decL (bl s) = none) := Lib.hid (by
                            obtain ⟨z, h1, _⟩ := hE.out.eq
                            rw [hstep] at h1
                            rw [HQ.out, ← HBD.out, h1]
                            rfl)
                          clear hstep hE c61 hex hexz hq
                          go_wp2_with fail
                          refine HBY1.out.mono ?_
                          rintro e w4 ⟨rfl, rfl⟩
                          go_wp2_with fail
                          go_ret2
                          exact DcPost.bad HE.out HBE.out
                        | some v =>
                          rw [hq] at hstep HBY1
                          have HN : Hid (∀ W, Below wq.heap.size wq W → DkAt tb wq W bz (o2 ++ ba [v]) (k + 1 + 1 + 1)) := Lib.hid (fun W hW => ⟨by
                            obtain ⟨z, h1, h2⟩ := hE.out.eq
                            refine ⟨z ++ [v], ?_, ?_⟩
                            · rw [h1, hstep]
                              simp only [Option.map_map]
                              congr 1
                              funext y
                              simp
                            · rw [bl_app, h2, bl_ba, List.append_assoc], hW⟩)
                          have HWY := Lib.hid hE.out.below
                          have r3 : (convert 35 9 (.slice (some ⟨wr.heap.size, 0, none⟩) 1 1)).run Tryd.prog (wr.alloc (.cells #[.int .u8 v.toNat] 5)) = .ok (.string (ba [v])) (wr.alloc (.cells #[.int .u8 v.toNat] 5)) := conv1 _ _ _ (by simp)
                          have hoz2 : (o2 ++ ba [v]).size ≤ bz.size + (k + 1 + 1 + 1) := by rw [ByteArray.size_append, show (ba [v]).size = 1 from rfl]; omega
                          have hv1 : (ba [v]).size = 1 := rfl
                          clear hstep hE c61 hex hexz hq
                          go_wp2_with fail
                          refine HBY1.out.mono ?_
                          rintro e w4 ⟨rfl, rfl⟩
                          go_wp2_with fail
                          go_roundw
                          case rel => exact ⟨k + 1 + 1 + 1, _, by omega, by go_num, rfl, hoz2, Lib.hid (HN.out _ (HWY.out.alloc HWY.out.size _))⟩
                          case measure => simp [intOf]; omega
                    · have q61 : ((tb[k].toNat : Int) == 61) = false := by
                        rw [beq_eq_false_iff_ne]
                        intro e
                        apply c61
                        rw [← UInt8.toNat_inj]
                        show _ = 61
                        omega
                      have hsf := self_false tb[k]
                      have hoz2 : (o2 ++ tb.extract k (k + 1)).size ≤ bz.size + (k + 1) := by rw [ByteArray.size_append, hexz]; omega
                      have HN : selfB tb[k] false = true → Hid (DkAt tb wq wr bz (o2 ++ tb.extract k (k + 1)) (k + 1)) := fun h => Lib.hid ⟨by
                        obtain ⟨z, h1, h2⟩ := hE.out.eq
                        refine ⟨z ++ [tb[k]], ?_, ?_⟩
                        · rw [h1, hd, rdW_self h, Option.map_map]
                          congr 1
                          funext y
                          simp
                        · rw [bl_app, h2, hex, List.append_assoc], hE.out.below⟩
                      cases hi : its tb[k]
                      · cases hb : bk tb[k]
                        · have HE : Hid (decL (bl s) = none) := Lib.hid (by
                            obtain ⟨z, h1, _⟩ := hE.out.eq
                            rw [hd, rdW_bad (by rw [hsf, hi, hb]; rfl) c61] at h1
                            rw [HQ.out, ← HBD.out, h1]
                            rfl)
                          rw [hi] at HC1
                          rw [hb] at HK1
                          clear hd hE c61 hex hsf HN hi hb
                          go_wp2_with fail
                          refine HC1.out.mono ?_
                          rintro e w4 ⟨rfl, rfl⟩
                          go_wp2_with fail
                          refine HK1.out.mono ?_
                          rintro e w4 ⟨rfl, rfl⟩
                          go_wp2_with fail
                          go_ret2
                          exact DcPost.bad HE.out HBE.out
                        · have HNN2 := HN (by rw [hsf, hi, hb]; rfl)
                          rw [hi] at HC1
                          rw [hb] at HK1
                          clear hd hE c61 hex hsf HN hi hb
                          go_wp2_with fail
                          refine HC1.out.mono ?_
                          rintro e w4 ⟨rfl, rfl⟩
                          go_wp2_with fail
                          refine HK1.out.mono ?_
                          rintro e w4 ⟨rfl, rfl⟩
                          go_wp2_with fail
                          go_roundw
                          case rel => exact ⟨k + 1, _, by omega, by simp, rfl, hoz2, HNN2⟩
                          case measure => simp [intOf]; omega
                      · have HNN2 := HN (by rw [hsf, hi]; rfl)
                        rw [hi] at HC1
                        clear hd hE c61 hex hsf HN hi HK1
                        go_wp2_with fail
                        refine HC1.out.mono ?_
                        rintro e w4 ⟨rfl, rfl⟩
                        go_wp2_with fail
                        go_roundw
                        case rel => exact ⟨k + 1, _, by omega, by simp, rfl, hoz2, HNN2⟩
                        case measure => simp [intOf]; omega
                  · have HN : Hid (DdAt s ls w1 wr o2 false (i + 1)) := Lib.hid ⟨by
                      obtain ⟨z, h1, h2⟩ := hE.out.eq
                      rw [drop_end tb k hlt2, show rdW [] = some [] from rfl, Option.map_some, List.append_nil] at h1
                      rw [HQ.out, ← HBD.out, h1, HSB.out, h2]
                      rw [HOB.out]
                      simp, HBW.out.trans (hE.out.below.mono HBW.out.size)⟩
                    clear hE
                    go_wp2_with fail
                    go_roundw
                    case rel => exact ⟨i + 1, _, _, by omega, by simp, rfl, rfl, by omega, HN⟩
                    case measure => simp [intOf]; omega
              · have hb0z : ob.size ≤ i * 6000 + 2 := by omega
                have HKI : Hid (DkAt tb wq wq ob ob 0) := Lib.hid ⟨⟨[], by simp, by simp⟩, Below.refl _ _⟩
                go_wp2_with fail
                refine HKL.out.mono ?_
                rintro e w3 ⟨rfl, rfl⟩
                go_wp2_with fail
                go_loopw [5, 9] (fun o z wr => ∃ (k : Nat) (o2 : ByteArray), k ≤ tb.size ∧ z = .int .i64 k ∧ o = .string o2 ∧ o2.size ≤ ob.size + k ∧ Hid (DkAt tb wq wr ob o2 k)) (fun _ z _ => tb.size - (intOf z).toNat)
                case atStart => exact ⟨0, _, Nat.zero_le _, rfl, rfl, Nat.le_refl _, HKI⟩
                case round =>
                  clear HKI
                  obtain ⟨k, o2, hk, rfl, rfl, ho2, hE⟩ := hrel
                  by_cases hlt2 : k < tb.size
                  · have hd := drop_cons tb k hlt2
                    have HBE := Lib.hid (HB1.out.trans ((HBW.out.trans (hE.out.below.mono HBW.out.size)).mono HB1.out.size))
                    have HC1 := Lib.hid (HC.out tb[k] wr)
                    have HK1 := Lib.hid (HK.out tb[k] wr)
                    have hex : bl (tb.extract k (k + 1)) = [tb[k]] := by rw [ba1 tb k hlt2, bl_ba]
                    have hexz : (tb.extract k (k + 1)).size = 1 := by rw [ByteArray.size_extract]; omega
                    by_cases c61 : tb[k] = 61
                    · have q61 : ((tb[k].toNat : Int) == 61) = true := by rw [c61]; rfl
                      by_cases hsh : tb.size ≤ k + 2
                      · have hge : (k : Int) + 2 ≥ (tb.size : Int) := by omega
                        have HE : Hid (decL (bl s) = none) := Lib.hid (by
                          obtain ⟨z, h1, _⟩ := hE.out.eq
                          rw [hd, c61, rdW_short (by rw [List.length_drop, bl_len]; omega)] at h1
                          rw [HQ.out, ← HBD.out, h1]
                          rfl)
                        clear hd hE c61 hex hexz
                        go_wp2_with fail
                        go_ret2
                        exact DcPost.bad HE.out HBE.out
                      · have hge : ¬ (k : Int) + 2 ≥ (tb.size : Int) := by omega
                        have hd1 : (bl tb).drop (k + 1) = tb[k + 1] :: (bl tb).drop (k + 2) := drop_cons tb (k + 1) (by omega)
                        have hd2 := drop_cons tb (k + 2) (by omega)
                        have hx2 : bl (tb.extract (k + 1) (k + 3)) = [tb[k + 1], tb[k + 2]] := by
                          rw [bl_extract, hd1, hd2, show k + 3 - (k + 1) = 2 by omega]
                          rfl
                        have HBY1 := Lib.hid (HBY.out (tb.extract (k + 1) (k + 3)) wr)
                        rw [hx2] at HBY1
                        have hstep : rdW ((bl tb).drop k) = match hxL tb[k + 1] tb[k + 2] with | some v => (rdW ((bl tb).drop (k + 1 + 1 + 1))).map (v :: ·) | none => none := by
                          rw [hd, c61, hd1, hd2, rdW_esc]
                          rfl
                        have hbv : byteL [tb[k + 1], tb[k + 2]] = hxL tb[k + 1] tb[k + 2] := rfl
                        clear hd hd1 hd2 hx2
                        unfold byteN byteS at HBY1
                        rw [hbv] at HBY1
                        clear hbv
                        cases hq : hxL tb[k + 1] tb[k + 2] with
                        | none =>
                          rw [hq] at hstep HBY1
                          have HE : Hid (decL (bl s) = none) := Lib.hid (by
                            obtain ⟨z, h1, _⟩ := hE.out.eq
                            rw [hstep] at h1
                            rw [HQ.out, ← HBD.out, h1]
                            rfl)
                          clear hstep hE c61 hex hexz hq
                          go_wp2_with fail
                          refine HBY1.out.mono ?_
                          rintro e w4 ⟨rfl, rfl⟩
                          go_wp2_with fail
                          go_ret2
                          exact DcPost.bad HE.out HBE.out
                        | some v =>
                          rw [hq] at hstep HBY1
                          have HN : Hid (∀ W, Below wq.heap.size wq W → DkAt tb wq W ob (o2 ++ ba [v]) (k + 1 + 1 + 1)) := Lib.hid (fun W hW => ⟨by
                            obtain ⟨z, h1, h2⟩ := hE.out.eq
                            refine ⟨z ++ [v], ?_, ?_⟩
                            · rw [h1, hstep]
                              simp only [Option.map_map]
                              congr 1
                              funext y
                              simp
                            · rw [bl_app, h2, bl_ba, List.append_assoc], hW⟩)
                          have HWY := Lib.hid hE.out.below
                          have r3 : (convert 35 9 (.slice (some ⟨wr.heap.size, 0, none⟩) 1 1)).run Tryd.prog (wr.alloc (.cells #[.int .u8 v.toNat] 5)) = .ok (.string (ba [v])) (wr.alloc (.cells #[.int .u8 v.toNat] 5)) := conv1 _ _ _ (by simp)
                          have hoz2 : (o2 ++ ba [v]).size ≤ ob.size + (k + 1 + 1 + 1) := by rw [ByteArray.size_append, show (ba [v]).size = 1 from rfl]; omega
                          have hv1 : (ba [v]).size = 1 := rfl
                          clear hstep hE c61 hex hexz hq
                          go_wp2_with fail
                          refine HBY1.out.mono ?_
                          rintro e w4 ⟨rfl, rfl⟩
                          go_wp2_with fail
                          go_roundw
                          case rel => exact ⟨k + 1 + 1 + 1, _, by omega, by go_num, rfl, hoz2, Lib.hid (HN.out _ (HWY.out.alloc HWY.out.size _))⟩
                          case measure => simp [intOf]; omega
                    · have q61 : ((tb[k].toNat : Int) == 61) = false := by
                        rw [beq_eq_false_iff_ne]
                        intro e
                        apply c61
                        rw [← UInt8.toNat_inj]
                        show _ = 61
                        omega
                      have hsf := self_false tb[k]
                      have hoz2 : (o2 ++ tb.extract k (k + 1)).size ≤ ob.size + (k + 1) := by rw [ByteArray.size_append, hexz]; omega
                      have HN : selfB tb[k] false = true → Hid (DkAt tb wq wr ob (o2 ++ tb.extract k (k + 1)) (k + 1)) := fun h => Lib.hid ⟨by
                        obtain ⟨z, h1, h2⟩ := hE.out.eq
                        refine ⟨z ++ [tb[k]], ?_, ?_⟩
                        · rw [h1, hd, rdW_self h, Option.map_map]
                          congr 1
                          funext y
                          simp
                        · rw [bl_app, h2, hex, List.append_assoc], hE.out.below⟩
                      cases hi : its tb[k]
                      · cases hb : bk tb[k]
                        · have HE : Hid (decL (bl s) = none) := Lib.hid (by
                            obtain ⟨z, h1, _⟩ := hE.out.eq
                            rw [hd, rdW_bad (by rw [hsf, hi, hb]; rfl) c61] at h1
                            rw [HQ.out, ← HBD.out, h1]
                            rfl)
                          rw [hi] at HC1
                          rw [hb] at HK1
                          clear hd hE c61 hex hsf HN hi hb
                          go_wp2_with fail
                          refine HC1.out.mono ?_
                          rintro e w4 ⟨rfl, rfl⟩
                          go_wp2_with fail
                          refine HK1.out.mono ?_
                          rintro e w4 ⟨rfl, rfl⟩
                          go_wp2_with fail
                          go_ret2
                          exact DcPost.bad HE.out HBE.out
                        · have HNN2 := HN (by rw [hsf, hi, hb]; rfl)
                          rw [hi] at HC1
                          rw [hb] at HK1
                          clear hd hE c61 hex hsf HN hi hb
                          go_wp2_with fail
                          refine HC1.out.mono ?_
                          rintro e w4 ⟨rfl, rfl⟩
                          go_wp2_with fail
                          refine HK1.out.mono ?_
                          rintro e w4 ⟨rfl, rfl⟩
                          go_wp2_with fail
                          go_roundw
                          case rel => exact ⟨k + 1, _, by omega, by simp, rfl, hoz2, HNN2⟩
                          case measure => simp [intOf]; omega
                      · have HNN2 := HN (by rw [hsf, hi]; rfl)
                        rw [hi] at HC1
                        clear hd hE c61 hex hsf HN hi HK1
                        go_wp2_with fail
                        refine HC1.out.mono ?_
                        rintro e w4 ⟨rfl, rfl⟩
                        go_wp2_with fail
                        go_roundw
                        case rel => exact ⟨k + 1, _, by omega, by simp, rfl, hoz2, HNN2⟩
                        case measure => simp [intOf]; omega
                  · have HN : Hid (DdAt s ls w1 wr o2 false (i + 1)) := Lib.hid ⟨by
                      obtain ⟨z, h1, h2⟩ := hE.out.eq
                      rw [drop_end tb k hlt2, show rdW [] = some [] from rfl, Option.map_some, List.append_nil] at h1
                      rw [HQ.out, ← HBD.out, h1, HSB.out, h2]
                      simp, HBW.out.trans (hE.out.below.mono HBW.out.size)⟩
                    clear hE
                    go_wp2_with fail
                    go_roundw
                    case rel => exact ⟨i + 1, _, _, by omega, by simp, rfl, rfl, by omega, HN⟩
                    case measure => simp [intOf]; omega
          · rw [hb] at HKL
            have HN : Hid (trimR (bl (tb.extract 0 (tb.size - 1))) = trimR x) := Lib.hid (by
              rw [hpre, ← hT.out]
              conv => rhs; rw [hls, trimR_snoc, hb]
              rfl)
            clear hb hls hpre hT
            go_wp2_with fail
            refine HKL.out.mono ?_
            rintro e w3 ⟨rfl, rfl⟩
            go_wp2_with fail
            go_roundw
            case rel => exact ⟨_, rfl, by omega, HN, trivial⟩
            case measure => simp [strSz]; omega
        · have hn := bl_nil h0
          have HSB : Hid (softB x = false) := Lib.hid (by unfold softB; rw [← hT.out, hn]; rfl)
          have HBD : Hid (bl tb = bodyL x) := Lib.hid (by unfold bodyL; rw [HSB.out, if_neg (by decide), ← hT.out, hn]; rfl)
          clear hn hT
          cases soft
          · have HOB : Hid (bl (ob ++ ⟨#[13, 10]⟩) = bl ob ++ (if false then [] else [13, 10])) := Lib.hid (by rw [bl_app]; rfl)
            have hb0z : (ob ++ ⟨#[13, 10]⟩ : ByteArray).size ≤ i * 6000 + 2 := by rw [ByteArray.size_append, show (⟨#[13, 10]⟩ : ByteArray).size = 2 from rfl]; omega
            have HKI : Hid (DkAt tb wq wq (ob ++ ⟨#[13, 10]⟩) (ob ++ ⟨#[13, 10]⟩) 0) := Lib.hid ⟨⟨[], by simp, by simp⟩, Below.refl _ _⟩
            obtain ⟨bz, hbz⟩ : ∃ b, b = (ob ++ ⟨#[13, 10]⟩ : ByteArray) := ⟨_, rfl⟩
            rw [← hbz] at HOB hb0z HKI
            have HBZ := Lib.hid hbz
            clear hbz
            go_wp2_with fail
            rw [← HBZ.out]
            go_loopw [5, 9] (fun o z wr => ∃ (k : Nat) (o2 : ByteArray), k ≤ tb.size ∧ z = .int .i64 k ∧ o = .string o2 ∧ o2.size ≤ bz.size + k ∧ Hid (DkAt tb wq wr bz o2 k)) (fun _ z _ => tb.size - (intOf z).toNat)
            case atStart => exact ⟨0, _, Nat.zero_le _, rfl, rfl, Nat.le_refl _, HKI⟩
            case round =>
              clear HKI
              obtain ⟨k, o2, hk, rfl, rfl, ho2, hE⟩ := hrel
              by_cases hlt2 : k < tb.size
              · exfalso; omega
              · have HN : Hid (DdAt s ls w1 wr o2 false (i + 1)) := Lib.hid ⟨by
                  obtain ⟨z, h1, h2⟩ := hE.out.eq
                  rw [drop_end tb k hlt2, show rdW [] = some [] from rfl, Option.map_some, List.append_nil] at h1
                  rw [HQ.out, ← HBD.out, h1, HSB.out, h2]
                  rw [HOB.out]
                  simp, HBW.out.trans (hE.out.below.mono HBW.out.size)⟩
                clear hE
                go_wp2_with fail
                go_roundw
                case rel => exact ⟨i + 1, _, _, by omega, by simp, rfl, rfl, by omega, HN⟩
                case measure => simp [intOf]; omega
          · have hb0z : ob.size ≤ i * 6000 + 2 := by omega
            have HKI : Hid (DkAt tb wq wq ob ob 0) := Lib.hid ⟨⟨[], by simp, by simp⟩, Below.refl _ _⟩
            go_wp2_with fail
            go_loopw [5, 9] (fun o z wr => ∃ (k : Nat) (o2 : ByteArray), k ≤ tb.size ∧ z = .int .i64 k ∧ o = .string o2 ∧ o2.size ≤ ob.size + k ∧ Hid (DkAt tb wq wr ob o2 k)) (fun _ z _ => tb.size - (intOf z).toNat)
            case atStart => exact ⟨0, _, Nat.zero_le _, rfl, rfl, Nat.le_refl _, HKI⟩
            case round =>
              clear HKI
              obtain ⟨k, o2, hk, rfl, rfl, ho2, hE⟩ := hrel
              by_cases hlt2 : k < tb.size
              · exfalso; omega
              · have HN : Hid (DdAt s ls w1 wr o2 false (i + 1)) := Lib.hid ⟨by
                  obtain ⟨z, h1, h2⟩ := hE.out.eq
                  rw [drop_end tb k hlt2, show rdW [] = some [] from rfl, Option.map_some, List.append_nil] at h1
                  rw [HQ.out, ← HBD.out, h1, HSB.out, h2]
                  simp, HBW.out.trans (hE.out.below.mono HBW.out.size)⟩
                clear hE
                go_wp2_with fail
                go_roundw
                case rel => exact ⟨i + 1, _, _, by omega, by simp, rfl, rfl, by omega, HN⟩
                case measure => simp [intOf]; omega
    · have HE : Hid (decL (bl s) = some (bl ob)) := Lib.hid (by
        rw [hD.out.eq, List.drop_eq_nil_of_le (by have := HNN.out; omega), decD, Option.map_some, List.append_nil])
      have HBE := Lib.hid (HB1.out.trans (hD.out.below.mono HB1.out.size))
      clear hD
      go_wp2_with fail
      go_ret2
      have := DcPost.good HE.out HBE.out
      rw [ba_bl] at this
      exact this
end Go.Proofs.YtobnckbpgckgjaaDoor.Qp
