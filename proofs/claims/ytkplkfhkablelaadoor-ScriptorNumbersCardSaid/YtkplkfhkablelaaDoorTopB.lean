/-
  The statement ScriptorNumbers: the walk.
-/
import Derived.Test.YtkplkfhkablelaaDoorTopA
namespace Go.Proofs.YtkplkfhkablelaaDoor
open Go.ChangeShapes Go.WideShapes Go.ChangeAt Go.RowKit
set_option linter.unusedVariables false
set_option maxRecDepth 100000

set_option maxHeartbeats 4000000 in
theorem top_walk (a a2 : Option Addr) (n cap n2 cap2 : Nat) (bit : Int) (K K2 : Nat) (zs fs : List Int) (w : World)
    (hK : min (n : Int) 20 = (K : Int)) (hK2 : min (n2 : Int) 20 = (K2 : Int))
    (hc : n ≤ cap) (hc2 : n2 ≤ cap2) (hint : Row .i64 w a K zs) (hflt : Row .u64 w a2 K2 fs) (ht : Tab w)
    (htab : Lib.TabIs Tryd.prog w "internal/strconv.uint64pow10" .u64 Lib.pow10Tab) (hdb : w.cell? ⟨5, 15, none⟩ = some (.int .u8 4)) :
    Calls Tryd.prog 8 #[.slice a n cap, .slice a2 n2 cap2, .int .i64 bit] w fun e w' => e = .returned (.bool true) ∧ Below w.heap.size w w' := by
  have hs1 : ∀ W, (Instr.slice 39 (.slice a n cap) none (some (.int .i64 (K : Int))) none).run Tryd.prog W = .ok (.slice a K cap) W := fun W => cut_ints a n cap K (by omega) W
  have hs2 : ∀ W, (Instr.slice 40 (.slice a2 n2 cap2) none (some (.int .i64 (K2 : Int))) none).run Tryd.prog W = .ok (.slice a2 K2 cap2) W := fun W => cut_words a2 n2 cap2 K2 (by omega) W
  obtain ⟨i0, hi, hz0, hz1, hz2⟩ := info_parts info5
  have hK20 : K ≤ 20 := by omega
  have hK220 : K2 ≤ 20 := by omega
  have HI := Lib.hid hint
  have HS := Lib.hid hflt
  have HT : Hid (∀ W, Below w.heap.size w W → Tab W) := Lib.hid (fun W hb => ht.below hb)
  have HTX : Hid (∀ (z : Int) W, Below w.heap.size w W → Calls Tryd.prog 19 #[.int .i64 z] W fun e w' => e = .returned (.string (tz z)) ∧ Below W.heap.size W w') := Lib.hid (fun z W hb => text_tz z W (tab_later htab hb))
  have HBT : Hid (∀ (x : Nat) W, x < 18446744073709551616 → Below w.heap.size w W → Calls Tryd.prog 22 #[.int .u64 (Di.Fl.canon x : Nat)] W fun e w' => e = .returned (.string (tf x)) ∧ Below W.heap.size W w') := Lib.hid (fun x W hx hb => Di.bits_any (Di.Fl.canon x) (Di.Fl.canon_lt x hx) W (spot_later hdb hb))
  clear hint hflt ht htab hdb
  go_enter Tryd.func8, Tryd.ntmps8
  go_wp2
  go_quiet (fail)
  go_wp2
  have HB0 := Lib.hid (Wr.below_drewN w nq)
  generalize w.drewN nq = w0 at *
  clear hK hK2 hs1 hs2 hc hc2
  go_loopw [7, 8] (fun b i wr => ∃ (k m : Nat) (L : List Nat), i = .int .i64 k ∧ k ≤ K ∧ Hid (L = enc1 tz (zs.take k)) ∧ Hid (m = L.length) ∧ wr.ownsRow w.heap.size 5 1 b m (vals L) ∧ Below w.heap.size w wr) (fun _ i _ => K - (intOf i).toNat)
  case atStart => exact ⟨0, 0, [], rfl, Nat.zero_le _, Lib.hid rfl, Lib.hid rfl, World.ownsRow_nil _ _ _ _, HB0.out⟩
  case round =>
    obtain ⟨k, m, L, rfl, hk, HL, HM, hown, hbel⟩ := hrel
    have HO := Lib.hid hown
    have HB := Lib.hid hbel
    clear hown hbel
    by_cases g : k < K
    · obtain ⟨p, hp, hcl, hix⟩ := HI.out.ints g
      have HD := Lib.hid (enc1_take tz zs k (by rw [HI.out.1]; exact g))
      have hcell := (HB.out.cell hp).trans hcl
      have hix1 := hix cap
      clear hix hcl
      generalize zs.getD k 0 = z at *
      have hm600 : m ≤ 600 := by
        have h1 := HM.out
        rw [HL.out] at h1
        have h2 := enc1_len tz (fun z => by have := tz_size z; omega) (zs.take k)
        rw [List.length_take] at h2
        omega
      have htz := tz_size z
      have HX := Lib.hid (HTX.out z wr HB.out)
      generalize tz z = t at *
      have h1len := one_len t htz
      have h1pos := one_pos t
      go_wp2_with (first
        | (go_at_call 19; refine HX.out.mono ?_; rintro e1 w1 ⟨rfl, hb⟩; have HB1 := Lib.hid hb; clear hb)
        | (go_at_call 18; refine (str_one t htz _).mono ?_; rintro e1 w2 ⟨v, rfl, ho, hv, hb⟩; obtain ⟨g5, len5, cap5, rfl, HL5, HS5⟩ := row_own ho hv; have HB2 := Lib.hid (Below.step hb HB1.out); clear ho hv hb)
        | (at_builtin; refine wpList_append_own _ rfl (.tmp 38) (.tmp 44) 22 rfl w.heap.size 5 i0 (.int .u8 0) 1 1 Tryd.underlying22 hi hz0 hz1 hz2 rfl (by decide) _ m (vals L) rfl (Wr.ownsRow_below HO.out HB2.out) ⟨g5, 0, none⟩ len5 cap5 (vals (one t)) rfl ?c1 ?c2 ?c3 ?c4 ?c5 ?c6 ?_))
      case c1 => rw [vals_length, HL5.out, Nat.mul_one]
      case c2 => exact HS5.out
      case c3 => exact vals_one _
      case c4 => have := HL5.out; unfold maxLen; omega
      case c5 => have := HL5.out; omega
      case c6 => exact Nat.le_trans HB.out.size HB2.out.size
      intro v' w3 hown hgrow hnil
      have bel : Below w.heap.size w w3 := (Below.step HB2.out HB.out).grown hgrow (Nat.le_trans HB.out.size HB2.out.size) (fun k hk => Wr.own_base HO.out hk)
      have HO2 := Lib.hid hown
      have HB3 := Lib.hid bel
      clear hown hgrow hnil bel
      go_wp2_with fail
      go_roundw
      case rel => exact ⟨k + 1, m + len5, L ++ one t, by go_num, by omega, Lib.hid (by rw [HD.out, HL.out]), Lib.hid (by rw [List.length_append, HM.out, HL5.out]), by rw [vals_append]; exact HO2.out, HB3.out⟩
      case measure => simp [intOf]; omega
    · have hLz : Hid (L = enc1 tz zs) := (by
        rw [HL.out]
        show enc1 tz (zs.take k) = enc1 tz zs
        rw [List.take_of_length_le (by rw [HI.out.1]; omega)])
      have hL600 : L.length ≤ 600 := by
        have h2 := enc1_len tz (fun z => by have := tz_size z; omega) zs
        rw [HI.out.1] at h2
        rw [hLz.out]
        omega
      clear HL
      go_wp2_with fail
      obtain ⟨wa, rfl⟩ : ∃ wa : World, wa = wr := ⟨_, rfl⟩
      go_loopw [7, 9] (fun b i wr => ∃ (k m : Nat) (L2 : List Nat), i = .int .i64 k ∧ k ≤ K2 ∧ Hid (L2 = L ++ enc1 tf (fs.take k)) ∧ Hid (m = L2.length) ∧ wr.ownsRow w.heap.size 5 1 b m (vals L2) ∧ Below w.heap.size w wr) (fun _ i _ => K2 - (intOf i).toNat)
      case atStart => exact ⟨0, m, L, rfl, Nat.zero_le _, Lib.hid (List.append_nil L).symm, HM, HO.out, HB.out⟩
      case round =>
        clear HM HO HB hk g
        obtain ⟨k, m, L2, rfl, hk, HL, HM, hown, hbel⟩ := hrel
        have HO := Lib.hid hown
        have HB := Lib.hid hbel
        clear hown hbel
        by_cases g : k < K2
        · obtain ⟨p, hp, hcl, hix⟩ := HS.out.words g
          obtain ⟨x, hx, hx64⟩ := HS.out.word g
          have HD := Lib.hid (enc1_take tf fs k (by rw [HS.out.1]; exact g))
          rw [hx] at hcl HD
          have hcell := (HB.out.cell hp).trans hcl
          have hix1 := hix cap2
          clear hix hcl hx
          have hm1200 : m ≤ 1200 := by
            have h1 := HM.out
            rw [HL.out, List.length_append] at h1
            have h2 := enc1_len tf (fun z => by have := tf_size z; omega) (fs.take k)
            rw [List.length_take] at h2
            omega
          have htf : (tf x).size ≤ 20 := by rw [tf_size]; omega
          have HX := Lib.hid (HBT.out x wr hx64 HB.out)
          generalize tf (x : Int) = t at *
          have h1len := one_len t htf
          have h1pos := one_pos t
          go_wp2_with (first
            | (go_at_call 21; refine (Di.go_any x _).mono ?_; rintro e1 w1 ⟨rfl, rfl⟩)
            | (go_at_call 20; refine (Di.of_any x hx64 _).mono ?_; rintro e1 w1 ⟨rfl, rfl⟩)
            | (go_at_call 22; refine HX.out.mono ?_; rintro e1 w1 ⟨rfl, hb⟩; have HB1 := Lib.hid hb; clear hb)
            | (go_at_call 18; refine (str_one t htf _).mono ?_; rintro e1 w2 ⟨v, rfl, ho, hv, hb⟩; obtain ⟨g5, len5, cap5, rfl, HL5, HS5⟩ := row_own ho hv; have HB2 := Lib.hid (Below.step hb HB1.out); clear ho hv hb)
            | (at_builtin; refine wpList_append_own _ rfl (.tmp 52) (.tmp 60) 22 rfl w.heap.size 5 i0 (.int .u8 0) 1 1 Tryd.underlying22 hi hz0 hz1 hz2 rfl (by decide) _ m (vals L2) rfl (Wr.ownsRow_below HO.out HB2.out) ⟨g5, 0, none⟩ len5 cap5 (vals (one t)) rfl ?c1 ?c2 ?c3 ?c4 ?c5 ?c6 ?_))
          case c1 => rw [vals_length, HL5.out, Nat.mul_one]
          case c2 => exact HS5.out
          case c3 => exact vals_one _
          case c4 => have := HL5.out; unfold maxLen; omega
          case c5 => have := HL5.out; omega
          case c6 => exact Nat.le_trans HB.out.size HB2.out.size
          intro v' w3 hown hgrow hnil
          have bel : Below w.heap.size w w3 := (Below.step HB2.out HB.out).grown hgrow (Nat.le_trans HB.out.size HB2.out.size) (fun k hk => Wr.own_base HO.out hk)
          have HO2 := Lib.hid hown
          have HB3 := Lib.hid bel
          clear hown hgrow hnil bel
          go_wp2_with fail
          go_roundw
          case rel => exact ⟨k + 1, m + len5, L2 ++ one t, by go_num, by omega, Lib.hid (by rw [HD.out, HL.out, List.append_assoc]), Lib.hid (by rw [List.length_append, HM.out, HL5.out]), by rw [vals_append]; exact HO2.out, HB3.out⟩
          case measure => simp [intOf]; omega
        · have hLz2 : Hid (L2 = enc1 tz zs ++ enc1 tf fs) := (by
            rw [HL.out, hLz.out]
            show enc1 tz zs ++ enc1 tf (fs.take k) = enc1 tz zs ++ enc1 tf fs
            rw [List.take_of_length_le (by rw [HS.out.1]; omega)])
          have hm12 : m ≤ 1200 := by
            have h1 := HM.out
            rw [HL.out, List.length_append] at h1
            have h2 := enc1_len tf (fun z => by have := tf_size z; omega) (fs.take k)
            rw [List.length_take] at h2
            omega
          have hL256 : ∀ c ∈ L2, c < 256 := by
            intro c hc
            rw [hLz2.out] at hc
            rcases List.mem_append.1 hc with h | h
            · exact enc1_lt _ _ c h
            · exact enc1_lt _ _ c h
          obtain ⟨ab, capb, rfl, HY, HA⟩ := bytes_own HO.out hL256 HM.out (by omega)
          have H256 := Lib.hid hL256
          clear HL HO hL256 hLz HA hL600 HB0
          obtain ⟨wb, rfl⟩ : ∃ wb : World, wb = wr := ⟨_, rfl⟩
          have HCL := Lib.hid (close_any ab m capb L2 wb HY.out (by omega) (HT.out _ HB.out))
          obtain ⟨Kb, hKb, hKb2⟩ := cut_fact3 bit m (by omega)
          go_wp2_with (first
            | (go_at_call 14; refine HCL.out.mono ?_; rintro e3 wc ⟨gc, capc, rfl, hM, hb⟩; have HMc := Lib.hid hM; have HBc := Lib.hid (Below.step hb HB.out); clear hM hb)
            | (go_at_call 23; refine (stands_any _).mono ?_; rintro e4 w4 ⟨rfl, rfl⟩)
            | (at_builtin; refine wpList_append_own _ rfl (.tmp 74) (.tmp 75) 22 rfl wc.heap.size 5 i0 (.int .u8 0) 1 1 Tryd.underlying22 hi hz0 hz1 hz2 rfl (by decide) _ 0 (vals []) rfl (owns_empty wc) ⟨gc, 0, none⟩ (m + 4) capc (vals (L2 ++ four (sum L2))) rfl ?d1 ?d2 ?d3 ?d4 ?d5 ?d6 ?_))
          case d1 => rw [vals_length, HMc.out.2.2.2.1, Nat.mul_one]
          case d2 => exact src_cells (HMc.out.row.below ((Below.refl _ _).alloc (Nat.le_refl _) (.cells #[] 5))) (by omega)
          case d3 => exact vals_one _
          case d4 => unfold maxLen; omega
          case d5 => omega
          case d6 => simp
          intro v' w5 hown hgrow hnil
          have hl256 := HMc.out.2.2.2.2.1
          obtain ⟨gd, capd, rfl, hmine⟩ := Mine.of hown hnil hl256
          have bel : Below wc.heap.size wc w5 := ((Below.refl _ _).alloc (Nat.le_refl _) _).grown hgrow (by simp) (fun k hk => by cases hk; exact Nat.le_refl _)
          have HMd := Lib.hid hmine
          have HB5 := Lib.hid bel
          clear hown hgrow hnil hmine bel hl256 g hk
          go_wp2_with fail
          rw [hKb]
          have hyes : stored (L2 ++ four (sum L2)) m = sum ((L2 ++ four (sum L2)).take m) := by rw [HM.out]; exact closed_yes L2
          have htk : (L2 ++ four (sum L2)).take m = L2 := by rw [HM.out, List.take_left]
          have hmag := closed_magic L2 H256.out
          have hlen := HMd.out.2.2.2.1
          have h256 := HMd.out.2.2.2.2.1
          clear hKb HCL
          generalize L2 ++ four (sum L2) = lc at *
          obtain ⟨q, hq⟩ : ∃ q, q = Kb / 8 := ⟨_, rfl⟩
          obtain ⟨r, hr⟩ : ∃ r, r = Kb % 8 := ⟨_, rfl⟩
          have hql : q < m + 4 := by omega
          have hrl : r < 8 := by omega
          have hbad := flip_bad lc m q r hlen h256 hmag hql hrl
          obtain ⟨C, hC⟩ : ∃ C, C = lc.getD q 0 := ⟨_, rfl⟩
          have hcell := HMd.out.cell q hql
          rw [← hC] at hcell hbad
          have hfr := HMd.out.frozen q
          have hCl : C < 256 := by rw [hC]; exact h256 _ (getD_mem lc _ (by rw [hlen]; exact hql))
          have hXl : 2 ^ r < 256 := by
            have : (2 : Nat) ^ r ≤ 2 ^ 7 := Nat.pow_le_pow_right (by decide) (by omega)
            omega
          have HN := Lib.hid (HMd.out.set q (C ^^^ 2 ^ r) hql (Nat.xor_lt_two_pow (n := 8) hCl hXl))
          have HN2 := Lib.hid (HB5.out.setCell (p := ⟨gd, q, none⟩) HMd.out.1 (.int .u8 ((C ^^^ 2 ^ r : Nat) : Int)))
          have q1 : (Kb : Int) / 8 = (q : Int) := by omega
          have r1 : (Kb : Int) % 8 = (r : Int) := by omega
          have hxr : bits .xor .u8 (C : Int) (2 ^ r % 256) = ((C ^^^ 2 ^ r : Nat) : Int) := by
            have e : (2 : Int) ^ r % 256 = ((2 ^ r : Nat) : Int) := by
              rw [Int.natCast_pow]
              have : ((2 ^ r : Nat) : Int) < 256 := by omega
              rw [Int.natCast_pow] at this
              exact Int.emod_eq_of_lt (Int.le_of_lt (Int.pow_pos (by decide))) this
            rw [e]
            exact u8_xor_nat C (2 ^ r) hCl hXl
          have HXR := Lib.hid hxr
          have hq2 : (q : Int) < (m : Int) + 4 := by omega
          have hq3 : (0 : Int) ≤ (q : Int) := by omega
          have hr3 : (0 : Int) ≤ (r : Int) := by omega
          have HYES := Lib.hid hyes
          have HTK := Lib.hid htk
          have HBAD := Lib.hid hbad
          clear hxr hyes htk hbad hmag hlen h256 hq hr hC hKb2
          go_region
          rw [HXR.out]
          obtain ⟨w6, hw6⟩ : ∃ w6, w6 = (w5.setCell ⟨gd, q, none⟩ (.int .u8 ((C ^^^ 2 ^ r : Nat) : Int))).drew := ⟨_, rfl⟩
          have HB6 : Hid (Below wc.heap.size wc w6) := by rw [hw6]; exact HN2.out.drew
          have HMd6 : Hid (Mine w6 wc.heap.size gd (m + 4) capd (lc.set q (C ^^^ 2 ^ r))) := by rw [hw6]; exact HN.out
          rw [← hw6]
          have HMc6 := Lib.hid (HMc.out.below HB6.out)
          have HW6 := Lib.hid (Below.step HB6.out HBc.out)
          have HOc := Lib.hid (open_yes _ gc m capc lc w6 HMc6.out (by omega) (HT.out _ HW6.out) (by rw [HYES.out]; simp))
          have HOd : Hid (∀ W, Below w6.heap.size w6 W → Calls Tryd.prog 15 #[.slice (some ⟨gd, 0, none⟩) (m + 4) capd] W fun e w' => e = .returned (.tuple #[.slice none 0 0, .bool false]) ∧ Below W.heap.size W w') := Lib.hid (fun W hb => open_no _ gd m capd _ W (HMd6.out.below hb) (by omega) (HT.out _ (Below.step hb HW6.out)) (by rw [bne_iff_ne]; have := HBAD.out; omega))
          rw [HTK.out] at HOc
          clear hw6 HN HN2 HXR HMd HMc HB5 HMd6 HMc6 HYES HTK HBAD hcell hfr q1 r1 hq2 hq3 hr3 hCl hXl hrl hql HB6 HBc HB HY
          go_wp2_with (first
            | (go_at_call_of 15 gc; refine HOc.out.mono ?_; rintro e7 w7 ⟨vo, rfl, ho, hb⟩; obtain ⟨ao, capo, rfl, HYo, HAo⟩ := bytes_own ho H256.out HM.out (by omega); have HB7 := Lib.hid hb; clear ho hb HAo)
            | (go_at_call_of 15 gd; refine (HOd.out _ HB7.out).mono ?_; rintro e8 w8 ⟨rfl, hb⟩; have HB8 := Lib.hid (Below.step hb HB7.out); have HYo8 := Lib.hid (HYo.out.below hb); clear hb)
            | (go_at_call 24; refine (Wr.open_any ao m capo L2 _ HYo8.out (by omega)).mono ?_; rintro e9 w9 ⟨p, rfl, hi9, hp9, hb⟩; have HI9 := Lib.hid hi9; have HP := Lib.hid (Nat.le_trans HW6.out.size (Nat.le_trans HB8.out.size hp9)); have HB9 := Lib.hid (Below.step (Below.step hb HB8.out) HW6.out); clear hi9 hp9 hb))
          rw [hLz2.out] at HI9
          clear HOc HOd HM H256 hLz2 hm12 HTX
          go_loopw [18] (fun i wr => ∃ k : Nat, i = .int .i64 k ∧ k ≤ K ∧ Wr.InAt wr p (enc1 tz (zs.drop k) ++ enc1 tf fs) 0 ∧ Below w.heap.size w wr) (fun i _ => K - (intOf i).toNat)
          case atStart => exact ⟨0, rfl, Nat.zero_le _, HI9.out, HB9.out⟩
          case round =>
            obtain ⟨k, rfl, hk, hin, hbel⟩ := hrel
            have HIn := Lib.hid hin
            have HBn := Lib.hid hbel
            clear hin hbel HI9
            by_cases g : k < K
            · obtain ⟨p', hp', hcl, hix⟩ := HI.out.ints g
              have HD := Lib.hid (enc1_drop tz zs k (by rw [HI.out.1]; exact g))
              have HCE := Lib.hid hcl
              have hix1 := hix cap
              clear hix hcl
              generalize zs.getD k 0 = z at *
              have htz := tz_size z
              have hrd := Lib.hid (read_tz z)
              have hst := Lib.hid (inStr_one p 20 (tz z) (enc1 tz (zs.drop (k + 1)) ++ enc1 tf fs) (by omega) htz wr (by rw [← List.append_assoc, ← HD.out]; exact HIn.out))
              have HRD := Lib.hid (fun W => Di.read_any (tz z) W (by omega))
              rw [hrd.out] at HRD
              have HWR := Lib.hid (Di.wrap_any z)
              clear hrd HIn
              generalize tz z = t at *
              generalize Di.w63 z = wz at *
              go_wp2_with (first
                | (go_at_call 26; refine hst.out.mono ?_; rintro e6 w6 ⟨rfl, hi6, hb6⟩; have HI6 := Lib.hid hi6; have HB6 := Lib.hid (HBn.out.trans (hb6 _ HP.out)); have hcell7 := (HB6.out.cell hp').trans HCE.out; clear hi6 hb6)
                | (go_at_call 25; refine (HRD.out _).mono ?_; rintro e7 w7 ⟨rfl, rfl⟩)
                | (go_at_call 27; refine (HWR.out _).mono ?_; rintro e7 w7 ⟨rfl, rfl⟩))
              go_roundw
              case rel => exact ⟨k + 1, by go_num, by omega, HI6.out, HB6.out⟩
              case measure => simp [intOf]; omega
            · have HI9 : Hid (Wr.InAt wr p (enc1 tf fs) 0) := Lib.hid (by have h := HIn.out; rw [List.drop_of_length_le (by rw [HI.out.1]; omega)] at h; exact h)
              go_wp2_with fail
              obtain ⟨wo, rfl⟩ : ∃ wo : World, wo = wr := ⟨_, rfl⟩
              clear HIn hk g
              go_loopw [21] (fun i wr => ∃ k : Nat, i = .int .i64 k ∧ k ≤ K2 ∧ Wr.InAt wr p (enc1 tf (fs.drop k)) 0 ∧ Below w.heap.size w wr) (fun i _ => K2 - (intOf i).toNat)
              case atStart => exact ⟨0, rfl, Nat.zero_le _, HI9.out, HBn.out⟩
              case round =>
                clear HI9 HBn
                obtain ⟨k, rfl, hk, hin, hbel⟩ := hrel
                have HIn := Lib.hid hin
                have HBn := Lib.hid hbel
                clear hin hbel
                by_cases g : k < K2
                · obtain ⟨p', hp', hcl, hix⟩ := HS.out.words g
                  obtain ⟨x, hx, hx64⟩ := HS.out.word g
                  have HD := Lib.hid (enc1_drop tf fs k (by rw [HS.out.1]; exact g))
                  rw [hx] at hcl HD
                  have hcell := (HBn.out.cell hp').trans hcl
                  have HCE := Lib.hid hcl
                  have hix1 := hix cap2
                  clear hix hcl hx
                  have htf := tf_size x
                  have hst : Hid (∀ W, Wr.InAt W p (one (tf x) ++ enc1 tf (fs.drop (k + 1))) 0 → Calls Tryd.prog 26 #[.pointer (some ⟨p, 0, none⟩), .int .i64 16] W fun e' w' => e' = .returned (.string (tf x)) ∧ Wr.InAt w' p (enc1 tf (fs.drop (k + 1))) 0 ∧ ∀ B, B ≤ p → Below B W w') := Lib.hid (fun W h => inStr_one p 16 (tf x) (enc1 tf (fs.drop (k + 1))) (by omega) (by omega) W h)
                  have HIx : Hid (Wr.InAt wr.drew p (one (tf x) ++ enc1 tf (fs.drop (k + 1))) 0) := Lib.hid (by rw [← HD.out]; exact HIn.out.below ((Below.refl _ _).drew))
                  have HBd : Hid (Below w.heap.size w wr.drew) := Lib.hid HBn.out.drew
                  have HX := Lib.hid (fun W hb => HBT.out x W hx64 hb)
                  clear HD HIn
                  generalize tf (x : Int) = t at *
                  go_wp2_with fail
                  go_region_held3 (fun w' => w'.cell? p' = some (.int .u64 x)) (first | exact hcell | exact hk1 | exact hk2)
                    (first
                      | (go_at_call 26; refine (hst.out _ HIx.out).mono ?_; rintro e6 w6 ⟨rfl, hi6, hb6⟩; have HI6 := Lib.hid hi6; have HB6 := Lib.hid (HBd.out.trans (hb6 _ HP.out)); have hk1 := (HB6.out.cell hp').trans HCE.out; clear hi6 hb6)
                      | (go_at_call 21; refine (Di.go_any x _).mono ?_; rintro e1 w1 ⟨rfl, rfl⟩)
                      | (go_at_call 20; refine (Di.of_any x hx64 _).mono ?_; rintro e1 w1 ⟨rfl, rfl⟩)
                      | (go_at_call 22; refine (HX.out _ HB6.out).mono ?_; rintro e1 w7 ⟨rfl, hb⟩; have HB7 := Lib.hid (Below.step hb HB6.out); have HI7 := Lib.hid (HI6.out.below hb); have hk2 := (HB7.out.cell hp').trans HCE.out; clear hb))
                  go_wp2_with fail
                  go_roundw
                  case rel => exact ⟨k + 1, by go_num, by omega, HI7.out, HB7.out⟩
                  case measure => simp [intOf]; omega
                · go_wp2_with (go_at_call 28; refine (Wr.end_any p [] 0 _ (by have h := HIn.out; rw [List.drop_of_length_le (by rw [HS.out.1]; omega)] at h; exact h)).mono ?_; rintro e6 w6 ⟨rfl, hi6, hb6⟩; have HB6 := Lib.hid (HBn.out.trans (hb6 _ HP.out)); clear hi6 hb6)
                  go_ret
                  exact ⟨rfl, HB6.out⟩

theorem scriptorNumbers_law {w : World} (a : Option Addr) (len cap : Nat) (zs : List Int) (w0 : IsRow .i64 w a len cap zs) (a2 : Option Addr) (len2 cap2 : Nat) (fs : List Int) (w2 : IsRow .u64 w a2 len2 cap2 fs) (bit : Int) (w3 : (Lit.int .i64 bit).wf = true)
    (ht : Tab w ∧ Lib.TabIs Tryd.prog w "internal/strconv.uint64pow10" .u64 Lib.pow10Tab ∧ w.cell? ⟨5, 15, none⟩ = some (.int .u8 4)) :
    Calls Tryd.prog 8 #[.slice a len cap, .slice a2 len2 cap2, .int .i64 bit] w fun e w' => e = .returned (.bool true) ∧ Below w.heap.size w w' := by
  obtain ⟨r1, c1⟩ := row_of w0 (min len 20) (Nat.min_le_left _ _)
  obtain ⟨r2, c2⟩ := row_of w2 (min len2 20) (Nat.min_le_left _ _)
  exact top_walk a a2 len cap len2 cap2 bit _ _ _ _ w (by omega) (by omega) c1 c2 r1 r2 ht.1 ht.2.1 ht.2.2
end Go.Proofs.YtkplkfhkablelaaDoor
