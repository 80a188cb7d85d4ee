/-
  The law WireBack: the walk.
-/
import Derived.Test.YtlknmnodchfkkaaWireS
namespace Go.Proofs.Ytlknmnodchfkkaa
open Go.ChangeShapes Go.WideShapes Go.ChangeAt Go.RowKit
set_option linter.unusedVariables false

theorem own_src {w : World} {base n : Nat} {v : Value} {l : List Nat} (h : w.ownsRow base 5 1 v n (vals l)) (hv : v ≠ .slice none 0 0) :
    ∃ g len cap, v = .slice (some ⟨g, 0, none⟩) len cap ∧ Hid (len = l.length) ∧ Hid (∀ (j : Nat) (u : Value), (vals l)[j]? = some u → w.cell? ((⟨g, 0, none⟩ : Addr).add j) = some u) := by
  have hl : n = l.length := by have := h.1; rw [vals_length] at this; omega
  have hcells := fun g => @World.ownsRow.cells _ _ _ _ _ _ _ h g
  rcases h.2 with ⟨h2, _⟩ | ⟨g, cap, cur, rfl, r⟩
  · exact absurd h2 hv
  · exact ⟨g, n, cap, rfl, Lib.hid hl, Lib.hid (hcells g rfl)⟩

theorem str_cut (s : ByteArray) (hs : s.size ≤ maxLen) : ∃ S : Nat, S ≤ s.size ∧ (if (200 : Int) < (s.size : Int) then 200 else (s.size : Int)) = (S : Int) ∧
    ∀ W, (Instr.slice 9 (.string s) none (some (.int .i64 (S : Int))) none).run Try.prog W = .ok (.string (cut200 s)) W := by
  refine ⟨min s.size 200, by omega, by split <;> omega, fun W => ?_⟩
  unfold cut200
  generalize hS : min s.size 200 = S
  have h1 : (S : Int) ≤ (s.size : Int) := by omega
  have h2 : (0 : Int) ≤ (S : Int) := by omega
  clear hS
  unfold maxLen at hs
  go_simp

theorem bytes_of_own' {w : World} {base n : Nat} {v : Value} {l : List Nat} (h : w.ownsRow base 5 1 v n (vals l)) (hl : ∀ c ∈ l, c < 256) (hn : n = l.length) (hm : n ≤ 7000) :
    ∃ a cap, v = .slice a n cap ∧ Hid (Bytes w a n cap l) ∧ Hid (∀ x, a = some x → base ≤ x.block ∧ x.block < w.heap.size) := by
  subst hn
  obtain ⟨a, cap, h1, h2, h3⟩ := bytes_of_own h hl (by unfold maxLen; omega)
  exact ⟨a, cap, h1, Lib.hid h2, Lib.hid h3⟩
theorem mod_cut (c : Int) (m : Nat) (h : 0 < m) (h7 : m ≤ 7000) : ∃ q : Nat, q < m ∧ wrap64 ((IntKind.u64.wrap c).tmod (m : Int)) = (q : Int) := by
  rw [IntKind.wrap_u64]
  have h1 : 0 ≤ c % 18446744073709551616 := by omega
  generalize c % 18446744073709551616 = x at *
  rw [Int.tmod_eq_emod_of_nonneg h1]
  have h2 : 0 ≤ x % (m : Int) := Int.emod_nonneg _ (by omega)
  have h3 : x % (m : Int) < (m : Int) := Int.emod_lt_of_pos _ (by omega)
  generalize x % (m : Int) = y at *
  refine ⟨y.toNat, by omega, ?_⟩
  unfold wrap64
  omega
theorem Below.drewK {B : Nat} {w w1 : World} (h : Below B w w1) (n : Nat) : Below B w (w1.drewN n) := ⟨h.os, h.tape, h.output, h.size, h.block⟩
theorem InAt.drewK {w : World} {p : Nat} {l : List Nat} {e : Int} (h : InAt w p l e) (n : Nat) : InAt (w.drewN n) p l e := h.below (below_drewN w n)
theorem cut_bytes {w : World} {a : Option Addr} {len cap : Nat} {l : List Nat} (q : Nat) (hq : q < len) (h : Bytes w a len cap l) : Bytes w a q cap (l.take q) :=
  ⟨h.1.take q (by omega), by have := h.2.1; omega, h.2.2.1, fun hz => by have := h.2.2.2 hz; omega⟩
theorem slice_to1 (a : Option Addr) (m cap k : Nat) (hk : k ≤ cap) (w : World) : (Instr.slice 45 (.slice a m cap) none (some (.int .i64 (k : Int))) none).run Try.prog w = .ok (.slice a k cap) w := by
  rw [run_slice_h w 45 a m cap (by kernel_rfl) .i64 (k : Int) (by omega) (by omega)]
  go_simp
theorem slice_to2 (a : Option Addr) (m cap k : Nat) (hk : k ≤ cap) (w : World) : (Instr.slice 46 (.slice a m cap) none (some (.int .i64 (k : Int))) none).run Try.prog w = .ok (.slice a k cap) w := by
  rw [run_slice_h w 46 a m cap (by kernel_rfl) .i64 (k : Int) (by omega) (by omega)]
  go_simp
theorem code_pos (n : Int) : 0 < (code n).length := by
  unfold code
  unfold enc
  split
  · exact Nat.one_pos
  · exact Nat.succ_pos _
theorem cut_len (t : ByteArray) (h : t.size ≤ 200) : (code (t.size : Int) ++ bytesOf t).length ≤ 210 := by
  rw [List.length_append, bytesOf_length]
  have := code_len (t.size : Int)
  omega
theorem below_undrew {w w1 : World} (h : Below w.drew.heap.size w.drew w1) : Below w.heap.size w w1 := ⟨h.os, h.tape, h.output, h.size, h.block⟩

set_option maxRecDepth 100000 in
set_option maxHeartbeats 2000000 in
theorem back_walk (a a2 : Option Addr) (n cap n2 cap2 : Nat) (cut : Int) (K K2 : Nat) (zs : List Int) (ss : List ByteArray) (w : World)
    (hK : (if (30 : Int) < (n : Int) then 30 else (n : Int)) = (K : Int)) (hK2 : (if (30 : Int) < (n2 : Int) then 30 else (n2 : Int)) = (K2 : Int))
    (hc : n ≤ cap) (hc2 : n2 ≤ cap2) (hint : IntRow w a K zs) (hstr : StrRow w a2 K2 ss) :
    Calls Try.prog 5 #[.slice a n cap, .slice a2 n2 cap2, .int .i64 cut] w fun e w' => e = .returned (.bool true) ∧ Below w.heap.size w w' := by
  have hs1 : ∀ W, (Instr.slice 45 (.slice a n cap) none (some (.int .i64 (K : Int))) none).run Try.prog W = .ok (.slice a K cap) W := fun W => slice_to1 a n cap K (by split at hK <;> omega) W
  have hs2 : ∀ W, (Instr.slice 46 (.slice a2 n2 cap2) none (some (.int .i64 (K2 : Int))) none).run Try.prog W = .ok (.slice a2 K2 cap2) W := fun W => slice_to2 a2 n2 cap2 K2 (by split at hK2 <;> omega) W
  obtain ⟨i0, hi, hz0, hz1, hz2⟩ := info_parts info5
  have hK30 : K ≤ 30 := by split at hK <;> omega
  have hK230 : K2 ≤ 30 := by split at hK2 <;> omega
  have HI := Lib.hid hint
  have HS := Lib.hid hstr
  clear hint hstr
  go_enter Try.func5, Try.ntmps5
  go_wp2
  go_quiet (fail)
  go_wp2
  have HB0 := Lib.hid (below_drewN w nq)
  generalize w.drewN nq = w0 at *
  clear hK hK2 hs1 hs2 hc hc2
  go_loopw [7, 8] (fun b i wr => ∃ (k m : Nat) (L : List Nat), i = .int .i64 k ∧ k ≤ K ∧ Hid (L = codes (zs.take k)) ∧ Hid (m = L.length) ∧ wr.ownsRow w.heap.size 5 1 b m (vals L) ∧ Below w.heap.size w wr) (fun _ i _ => K - (intOf i).toNat)
  case atStart => exact ⟨0, 0, [], rfl, Nat.zero_le _, Lib.hid rfl, Lib.hid rfl, World.ownsRow_nil _ _ _ _, HB0.out⟩
  case round =>
    obtain ⟨k, m, L, rfl, hk, HL, HM, hown, hbel⟩ := hrel
    have HO := Lib.hid hown
    have HB := Lib.hid hbel
    clear hown hbel
    by_cases g : k < K
    · obtain ⟨p, hp, hcl, hix⟩ := HI.out.at_ g
      obtain ⟨hz1', hz2'⟩ := HI.out.bound g
      have HT := Lib.hid (codes_take zs k (by rw [HI.out.1]; exact g))
      have hcell := (HB.out.cell hp).trans hcl
      have hix1 := hix cap
      clear hix hcl
      generalize zs.getD k 0 = z at *
      have hcl := code_len z
      have hm300 : m ≤ 300 := by
        have h1 := HM.out
        rw [HL.out] at h1
        have h2 := codes_len (zs.take k)
        rw [List.length_take] at h2
        omega
      go_wp2_with (first
        | (go_at_call 9; refine (num_any z hz1' hz2' _).mono ?_; rintro e1 w1 ⟨v, rfl, ho, hv, hb⟩; obtain ⟨g5, len5, cap5, rfl, HL5, HS5⟩ := own_src ho hv; have HB1 := Lib.hid hb; clear ho hv hb)
        | (at_builtin; refine wpList_append_own _ rfl (.tmp 33) (.tmp 38) 23 rfl w.heap.size 5 i0 (.int .u8 0) 1 1 Try.underlying23 hi hz0 hz1 hz2 rfl (by decide) _ m (vals L) rfl (ownsRow_below HO.out HB1.out) ⟨g5, 0, none⟩ len5 cap5 (vals (code z)) rfl ?c1 ?c2 ?c3 ?c4 ?c5 ?c6 ?_))
      case c1 => rw [vals_length, HL5.out, Nat.mul_one]
      case c2 => exact HS5.out
      case c3 => exact vals_one _
      case c4 => have := HL5.out; unfold maxLen; omega
      case c5 => have := HL5.out; omega
      case c6 => exact Nat.le_trans HB.out.size HB1.out.size
      intro v' w2 hown hgrow hnil
      have bel : Below w.heap.size w w2 := (Below.step HB1.out HB.out).grown hgrow (Nat.le_trans HB.out.size HB1.out.size) (fun k hk => own_base HO.out hk)
      have HO2 := Lib.hid hown
      have HB2 := Lib.hid bel
      clear hown hgrow hnil bel
      go_wp2_with fail
      go_roundw
      case rel => exact ⟨k + 1, m + len5, L ++ code z, by go_num, by omega, Lib.hid (by rw [HT.out, HL.out]), Lib.hid (by rw [List.length_append, HM.out, HL5.out]), by rw [vals_append]; exact HO2.out, HB2.out⟩
      case measure => simp [intOf]; omega
    · have hLz : Hid (L = codes zs) := (by
        rw [HL.out]
        show codes (zs.take k) = codes zs
        rw [List.take_of_length_le (by rw [HI.out.1]; omega)])
      have hL300 : L.length ≤ 300 := by
        have h2 := codes_len zs
        rw [HI.out.1] at h2
        rw [hLz.out]
        omega
      clear HL
      go_wp2_with fail
      obtain ⟨wa, rfl⟩ : ∃ wa : World, wa = wr := ⟨_, rfl⟩
      go_loopw [7, 9] (fun b i wr => ∃ (k m : Nat) (L2 : List Nat), i = .int .i64 k ∧ k ≤ K2 ∧ Hid (L2 = L ++ texts (ss.take k)) ∧ Hid (m = L2.length) ∧ wr.ownsRow w.heap.size 5 1 b m (vals L2) ∧ Below w.heap.size w wr) (fun _ i _ => K2 - (intOf i).toNat)
      case atStart => exact ⟨0, m, L, rfl, Nat.zero_le _, Lib.hid (List.append_nil L).symm, HM, HO.out, HB.out⟩
      case round =>
        clear HM HO HB hk g
        obtain ⟨k, m, L2, rfl, hk, HL, HM, hown, hbel⟩ := hrel
        have HO := Lib.hid hown
        have HB := Lib.hid hbel
        clear hown hbel
        by_cases g : k < K2
        · obtain ⟨p, hp, hcl, hix⟩ := HS.out.at_ g
          have hz1' := HS.out.bound g
          have HT := Lib.hid (texts_take ss k (by rw [HS.out.1]; exact g))
          have hcell := (HB.out.cell hp).trans hcl
          have hix1 := hix cap2
          have hcl0 := hcl
          clear hix hcl
          generalize ss.getD k ⟨#[]⟩ = s at *
          obtain ⟨S, hS, hmin, hsl⟩ := str_cut s hz1'
          have h200 := cut200_size s
          generalize cut200 s = t at *
          have hm300 : m ≤ 7000 := by
            have h1 := HM.out
            rw [HL.out, List.length_append] at h1
            have h2 := texts_len (ss.take k)
            rw [List.length_take] at h2
            omega
          have hk0 : 0 < (code (t.size : Int) ++ bytesOf t).length := by
            rw [List.length_append]
            have := code_pos (t.size : Int)
            omega
          have htl := cut_len t h200
          have HB0' := Lib.hid HB.out.size
          go_wp2_with fail
          go_region_held3 (fun w' => w'.cell? p = some (.string s)) (first | exact hcell | exact hk1 | exact hk2)
            (first
              | (go_at_call 11; refine (str_any t (by omega) _).mono ?_; rintro e1 w1 ⟨v, rfl, ho, hv, hb⟩; obtain ⟨g5, len5, cap5, rfl, HL5, HS5⟩ := own_src ho hv; have HB1 := Lib.hid (below_undrew hb); have hk1 := ((Below.step HB1.out HB.out).cell hp).trans hcl0; clear ho hv hb)
              | (refine step_append_lies _ (by rfl) _ _ _ (by rfl) w.heap.size 5 i0 _ 1 1 Try.underlying23 hi hz0 hz1 hz2 rfl (by omega) u7 m (vals L2) (by rfl) (ownsRow_below HO.out HB1.out) ⟨g5, 0, none⟩ len5 cap5 (vals (code (t.size : Int) ++ bytesOf t)) (by rfl) (by rw [vals_length, HL5.out, Nat.mul_one]) HS5.out (vals_one _) (by rw [HL5.out]; exact hk0) (by have := HL5.out; unfold maxLen; omega) (by have := HL5.out; omega) (Nat.le_trans HB.out.size HB1.out.size) w1.heap.size rfl ?_; intro gg capg w3 hown hgrow hat hlt; have HB2 := Lib.hid ((Below.step HB1.out HB.out).grown hgrow (Nat.le_trans HB.out.size HB1.out.size) (fun k hk => own_base HO.out hk)); have HO2 := Lib.hid hown; have hk2 := (HB2.out.cell hp).trans hcl0; clear hown hgrow hat hlt))
          go_wp2_with fail
          go_roundw
          case rel => exact ⟨k + 1, m + len5, L2 ++ (code (t.size : Int) ++ bytesOf t), by go_num, by omega, Lib.hid (by rw [HT.out, HL.out, List.append_assoc]), Lib.hid (by rw [List.length_append, HM.out, HL5.out]), by rw [vals_append]; exact HO2.out, HB2.out⟩
          case measure => simp [intOf]; omega
        · have hLz2 : Hid (L2 = L ++ texts ss) := (by
            rw [HL.out]
            show L ++ texts (ss.take k) = L ++ texts ss
            rw [List.take_of_length_le (by rw [HS.out.1]; omega)])
          have hm7 : m ≤ 7000 := by
            have h1 := HM.out
            rw [hLz2.out, List.length_append] at h1
            have h2 := texts_len ss
            rw [HS.out.1] at h2
            omega
          have hL256 : ∀ c ∈ L2, c < 256 := by
            intro c hc
            rw [hLz2.out, hLz.out] at hc
            rcases List.mem_append.1 hc with h | h
            · exact codes_lt zs c h
            · exact texts_lt ss c h
          obtain ⟨ab, capb, rfl, HY, HA⟩ := bytes_of_own' HO.out hL256 HM.out hm7
          clear HL HO hL256
          have HLL : Hid (L2 = codes zs ++ texts ss) := Lib.hid (by rw [hLz2.out, hLz.out])
          clear hLz2 hLz HA hL300 HB0
          obtain ⟨wb, rfl⟩ : ∃ wb : World, wb = wr := ⟨_, rfl⟩
          by_cases hm0 : m = 0
          · subst hm0
            go_wp2_with (go_at_call 8; refine (wires_any _).mono ?_; rintro e3 w3 ⟨rfl, hb⟩; have HB := Lib.hid (Below.step hb HB.out); clear hb)
            go_ret
            exact ⟨rfl, HB.out⟩
          · have hm0b : ((m : Int) == 0) = false := by rw [beq_eq_false_iff_ne]; omega
            obtain ⟨q, hqm, hq⟩ := mod_cut cut m (by omega) hm7
            clear hm0
            go_wp2_with (go_at_call 8; refine (wires_any _).mono ?_; rintro e3 w3 ⟨rfl, hb⟩; have HB := Lib.hid (Below.step hb HB.out); have HY := Lib.hid (HY.out.below hb); clear hb)
            have HQ := Lib.hid hqm
            rw [hq]
            clear hq hm0b HM hk g
            go_loopw [11] (fun r wr => ∃ rr : Nat, r = .int .i64 rr ∧ rr ≤ 2 ∧ Bytes wr ab m capb L2 ∧ Below w.heap.size w wr) (fun r _ => 2 - (intOf r).toNat)
            case atStart => exact ⟨0, rfl, by omega, HY.out, HB.out⟩
            case round =>
              obtain ⟨rr, rfl, hrr, hy, hbel⟩ := hrel
              have HY2 := Lib.hid hy
              have HB2 := Lib.hid hbel
              clear hy hbel HY HB
              rcases (show rr = 0 ∨ rr = 1 ∨ rr = 2 by omega) with rfl | rfl | rfl
              · go_wp2_with (go_at_call 20; refine (open_any ab m capb L2 _ HY2.out (by omega)).mono ?_; rintro e4 w4 ⟨p, rfl, hi4, hp4, hb4⟩; have HI4 := Lib.hid hi4; have HP4 := Lib.hid hp4; have HB4 := Lib.hid hb4; clear hi4 hp4 hb4)
                obtain ⟨wo, rfl⟩ : ∃ wo : World, wo = wr := ⟨_, rfl⟩
                go_loopw [13] (fun i wr => ∃ k : Nat, i = .int .i64 k ∧ k ≤ K ∧ InAt wr p (codes (zs.drop k) ++ texts ss) 0 ∧ Below wo.heap.size wo wr) (fun i _ => K - (intOf i).toNat)
                case atStart => exact ⟨0, rfl, Nat.zero_le _, (by have h := HI4.out; rw [HLL.out] at h; exact h), HB4.out⟩
                case round =>
                  obtain ⟨k, rfl, hk, hi, hbel⟩ := hrel
                  have HI5 := Lib.hid hi
                  have HB5 := Lib.hid hbel
                  clear hi hbel HI4 HB4
                  by_cases g : k < K
                  · obtain ⟨p', hp', hcl, hix⟩ := HI.out.at_ g
                    obtain ⟨hz1', hz2'⟩ := HI.out.bound g
                    have HT := Lib.hid (codes_drop zs k (by rw [HI.out.1]; exact g))
                    have hix1 := hix cap
                    have HCL := Lib.hid hcl
                    clear hix hcl
                    generalize zs.getD k 0 = z at *
                    go_wp2_with (go_at_call 15; refine (inNum_code p z (codes (zs.drop (k + 1)) ++ texts ss) hz1' hz2' _ (by rw [← List.append_assoc, ← HT.out]; exact HI5.out)).mono ?_; rintro e6 w6 ⟨rfl, hi6, hb6⟩; have HI6 := Lib.hid hi6; have HB6 := Lib.hid (HB5.out.trans (hb6 _ HP4.out)); have hcell6 := (HB2.out.cell hp').trans HCL.out; have hcell7 := (HB6.out.cell (Nat.lt_of_lt_of_le hp' HB2.out.size)).trans hcell6; clear hi6 hb6 hcell6)
                    go_roundw
                    case rel => exact ⟨k + 1, by go_num, by omega, HI6.out, HB6.out⟩
                    case measure => simp [intOf]; omega
                  · go_wp2_with fail
                    have HI7 : Hid (InAt wr p (texts ss) 0) := Lib.hid (by have h := HI5.out; rw [List.drop_of_length_le (by rw [HI.out.1]; omega)] at h; exact h)
                    clear HI5 hk g
                    go_loopw [15] (fun i wr => ∃ k : Nat, i = .int .i64 k ∧ k ≤ K2 ∧ InAt wr p (texts (ss.drop k)) 0 ∧ Below wo.heap.size wo wr) (fun i _ => K2 - (intOf i).toNat)
                    case atStart => exact ⟨0, rfl, Nat.zero_le _, HI7.out, HB5.out⟩
                    case round =>
                      obtain ⟨k, rfl, hk, hi, hbel⟩ := hrel
                      have HI8 := Lib.hid hi
                      have HB8 := Lib.hid hbel
                      clear hi hbel HI7 HB5
                      by_cases g : k < K2
                      · obtain ⟨p', hp', hcl, hix⟩ := HS.out.at_ g
                        have hz1' := HS.out.bound g
                        have HT := Lib.hid (texts_drop ss k (by rw [HS.out.1]; exact g))
                        have hix1 := hix cap2
                        have HCL := Lib.hid hcl
                        clear hix hcl
                        generalize ss.getD k ⟨#[]⟩ = s at *
                        obtain ⟨S, hS, hmin, hsl⟩ := str_cut s hz1'
                        have h200 := cut200_size s
                        generalize cut200 s = t at *
                        go_wp2_with (go_at_call 19; refine (inStr_text p t (texts (ss.drop (k + 1))) h200 _ (by rw [← HT.out]; exact HI8.out)).mono ?_; rintro e6 w6 ⟨rfl, hi6, hb6⟩; have HI9 := Lib.hid hi6; have HB9 := Lib.hid (HB8.out.trans (hb6 _ HP4.out)); have hcell6 := (HB2.out.cell hp').trans HCL.out; have hcell7 := (HB9.out.cell (Nat.lt_of_lt_of_le hp' HB2.out.size)).trans hcell6; clear hi6 hb6 hcell6)
                        go_quiet (fail)
                        go_wp2
                        go_roundw
                        case rel => exact ⟨k + 1, by go_num, by omega, InAt.drewK HI9.out _, Below.drewK HB9.out _⟩
                        case measure => simp [intOf]; omega
                      · have HI9 : Hid (InAt wr p [] 0) := Lib.hid (by have h := HI8.out; rw [List.drop_of_length_le (by rw [HS.out.1]; omega)] at h; exact h)
                        go_wp2_with (go_at_call 17; refine (end_any p [] 0 _ HI9.out).mono ?_; rintro e6 w6 ⟨rfl, hi6, hb6⟩; have HB9 := Lib.hid (HB8.out.trans (hb6 _ HP4.out)); clear hi6 hb6)
                        go_roundw
                        case rel => exact ⟨1, by go_num, by omega, HY2.out.below HB9.out, Below.step HB9.out HB2.out⟩
                        case measure => simp [intOf]
              · have hst := fun W => slice_to ab m capb q (Nat.le_trans (Nat.le_of_lt HQ.out) HY2.out.2.1) W
                go_wp2_with fail
                refine (open_any ab m capb L2 _ HY2.out (by omega)).mono ?_
                rintro e4 w4 ⟨p0, rfl, hi4, hp4, hb4⟩
                have HB4 := Lib.hid hb4
                have HQ4 := Lib.hid (cut_bytes q HQ.out (HY2.out.below hb4))
                have HCUT : Hid (Cut (codes zs ++ texts ss) (L2.take q) 0) := Lib.hid (.inr ⟨rfl, q, by have h1 := HY2.out.1.1; have h2 := HQ.out; rw [← HLL.out]; omega, by rw [HLL.out]⟩)
                clear hi4 hp4 hb4
                go_wp2_with fail
                refine (open_any ab q capb (L2.take q) _ HQ4.out (by have := HQ.out; omega)).mono ?_
                rintro e5 w5 ⟨p, rfl, hi4, hp4, hb4⟩
                have HI4 := Lib.hid hi4
                have HP4 := Lib.hid (Nat.le_trans HB4.out.size hp4)
                have HB4' := Lib.hid (Below.step hb4 HB4.out)
                clear hi4 hp4 hb4 HB4 HQ4 hst
                go_wp2_with fail
                obtain ⟨wo, rfl⟩ : ∃ wo : World, wo = wr := ⟨_, rfl⟩
                go_loopw [13] (fun i wr => ∃ k : Nat, i = .int .i64 k ∧ k ≤ K ∧ Hid (∃ l e, InAt wr p l e ∧ Cut (codes (zs.drop k) ++ texts ss) l e) ∧ Below wo.heap.size wo wr) (fun i _ => K - (intOf i).toNat)
                case atStart => exact ⟨0, rfl, Nat.zero_le _, Lib.hid ⟨_, _, HI4.out, HCUT.out⟩, HB4'.out⟩
                case round =>
                  obtain ⟨k, rfl, hk, HI5, hbel⟩ := hrel
                  have HB5 := Lib.hid hbel
                  clear hbel HI4 HB4' HCUT
                  by_cases g : k < K
                  · obtain ⟨p', hp', hcl, hix⟩ := HI.out.at_ g
                    obtain ⟨hz1', hz2'⟩ := HI.out.bound g
                    have HT := Lib.hid (codes_drop zs k (by rw [HI.out.1]; exact g))
                    clear hix hcl
                    generalize zs.getD k 0 = z at *
                    obtain ⟨l, e, hi, hcut⟩ := HI5.out
                    have HI5' := Lib.hid hi
                    have HC5 : Hid (Cut (code z ++ (codes (zs.drop (k + 1)) ++ texts ss)) l e) := Lib.hid (by rw [← List.append_assoc, ← HT.out]; exact hcut)
                    clear hi hcut HI5
                    go_wp2_with (go_at_call 15; refine (inNum_cut p z (codes (zs.drop (k + 1)) ++ texts ss) l e hz1' hz2' _ HI5'.out HC5.out).mono ?_; rintro e6 w6 ⟨x, rfl, hi6, hb6⟩; have HI6 := Lib.hid hi6; have HB6 := Lib.hid (HB5.out.trans (hb6 _ HP4.out)); clear hi6 hb6)
                    go_roundw
                    case rel => exact ⟨k + 1, by go_num, by omega, HI6, HB6.out⟩
                    case measure => simp [intOf]; omega
                  · go_wp2_with fail
                    have HI7 : Hid (∃ l e, InAt wr p l e ∧ Cut (texts ss) l e) := Lib.hid (by have h := HI5.out; rw [List.drop_of_length_le (by rw [HI.out.1]; omega)] at h; exact h)
                    clear HI5 hk g
                    go_loopw [15] (fun i wr => ∃ k : Nat, i = .int .i64 k ∧ k ≤ K2 ∧ Hid (∃ l e, InAt wr p l e ∧ Cut (texts (ss.drop k)) l e) ∧ Below wo.heap.size wo wr) (fun i _ => K2 - (intOf i).toNat)
                    case atStart => exact ⟨0, rfl, Nat.zero_le _, HI7, HB5.out⟩
                    case round =>
                      obtain ⟨k, rfl, hk, HI8, hbel⟩ := hrel
                      have HB8 := Lib.hid hbel
                      clear hbel HI7 HB5
                      by_cases g : k < K2
                      · have HT := Lib.hid (texts_drop ss k (by rw [HS.out.1]; exact g))
                        have h200 := cut200_size (ss.getD k ⟨#[]⟩)
                        generalize cut200 (ss.getD k ⟨#[]⟩) = t at *
                        obtain ⟨l, e, hi, hcut⟩ := HI8.out
                        have HI5' := Lib.hid hi
                        have HC5 : Hid (Cut (text (bytesOf t) ++ texts (ss.drop (k + 1))) l e) := Lib.hid (by rw [← HT.out]; exact hcut)
                        clear hi hcut HI8
                        go_wp2_with (go_at_call 19; refine (inStr_cut p t (texts (ss.drop (k + 1))) l e h200 _ HI5'.out HC5.out).mono ?_; rintro e6 w6 ⟨x, rfl, hi6, hb6⟩; have HI9 := Lib.hid hi6; have HB9 := Lib.hid (HB8.out.trans (hb6 _ HP4.out)); clear hi6 hb6)
                        go_quiet (fail)
                        go_wp2
                        go_roundw
                        case rel => exact ⟨k + 1, by go_num, by omega, HI9, Below.drewK HB9.out _⟩
                        case measure => simp [intOf]; omega
                      · obtain ⟨l, e, hi, hcut⟩ := HI8.out
                        have HI9 := Lib.hid hi
                        have hend : endE l e = 3 := Cut.done (by rw [List.drop_of_length_le (by rw [HS.out.1]; omega)] at hcut; exact hcut)
                        clear hi hcut
                        go_wp2_with (go_at_call 17; refine (end_any p l e _ HI9.out).mono ?_; rintro e6 w6 ⟨rfl, hi6, hb6⟩; have HB9 := Lib.hid (HB8.out.trans (hb6 _ HP4.out)); clear hi6 hb6)
                        go_roundw
                        case rel => exact ⟨2, by go_num, by omega, HY2.out.below HB9.out, Below.step HB9.out HB2.out⟩
                        case measure => simp [intOf]
              · go_wp2_with fail
                go_ret
                exact ⟨rfl, HB2.out⟩
/-- the row of a slice of texts that came in, with its spare room -/
def IsStrs (w : World) (a : Option Addr) (len cap : Nat) (ss : List ByteArray) : Prop :=
  (a = none ∧ len = 0 ∧ cap = 0 ∧ ss = []) ∨
  ∃ x, a = some x ∧ len ≤ cap ∧ cap ≤ maxLen ∧ ss.length = cap ∧ (∀ i, i < ss.length → w.cell? (x.add i) = some (.string (ss.getD i ⟨#[]⟩))) ∧ ∀ s ∈ ss, s.size ≤ maxLen
theorem intRow_of {w : World} {a : Option Addr} {len cap : Nat} {zs : List Int} (h : IsRow .i64 w a len cap zs) (K : Nat) (hK : K ≤ len) : IntRow w a K (zs.take K) ∧ len ≤ cap := by
  rcases h with ⟨rfl, rfl, rfl, rfl⟩ | ⟨x, rfl, h1, h2, h3, h4, h5⟩
  · obtain rfl : K = 0 := by omega
    exact ⟨⟨rfl, Nat.zero_le _, (by intro z hz; cases hz), (by intro h; omega)⟩, Nat.le_refl _⟩
  · refine ⟨⟨by rw [List.length_take]; omega, by omega, fun z hz => ?_, fun h0 => ?_⟩, h1⟩
    · have := h5 z (List.mem_of_mem_take hz)
      simpa [Lit.wf, IntKind.min, IntKind.max, IntKind.signed, IntKind.bits] using this
    · obtain ⟨b, off, spot⟩ := x
      have hc0 := h4 0 (by omega)
      have hspot : spot = none := by simpa [Addr.add] using World.cell?_spot hc0
      subst hspot
      refine ⟨b, off, rfl, fun i hi => ?_⟩
      have hci := h4 i (by omega)
      have e1 : (⟨b, off, none⟩ : Addr).add i = ⟨b, off + i, none⟩ := by simp [Addr.add]
      rw [e1] at hci
      rw [hci]
      simp [List.getD, hi]
theorem strRow_of {w : World} {a : Option Addr} {len cap : Nat} {ss : List ByteArray} (h : IsStrs w a len cap ss) (K : Nat) (hK : K ≤ len) : StrRow w a K (ss.take K) ∧ len ≤ cap := by
  rcases h with ⟨rfl, rfl, rfl, rfl⟩ | ⟨x, rfl, h1, h2, h3, h4, h5⟩
  · obtain rfl : K = 0 := by omega
    exact ⟨⟨rfl, Nat.zero_le _, (by intro z hz; cases hz), (by intro h; omega)⟩, Nat.le_refl _⟩
  · refine ⟨⟨by rw [List.length_take]; omega, by omega, fun z hz => h5 z (List.mem_of_mem_take hz), fun h0 => ?_⟩, h1⟩
    obtain ⟨b, off, spot⟩ := x
    have hc0 := h4 0 (by omega)
    have hspot : spot = none := by simpa [Addr.add] using World.cell?_spot hc0
    subst hspot
    refine ⟨b, off, rfl, fun i hi => ?_⟩
    have hci := h4 i (by omega)
    have e1 : (⟨b, off, none⟩ : Addr).add i = ⟨b, off + i, none⟩ := by simp [Addr.add]
    rw [e1] at hci
    rw [hci]
    simp [List.getD, hi]
theorem wireBack_law (a : Option Addr) (n cap : Nat) (zs : List Int) (a2 : Option Addr) (n2 cap2 : Nat) (ss : List ByteArray) (cut : Int) (w : World) (h1 : IsRow .i64 w a n cap zs) (h2 : IsStrs w a2 n2 cap2 ss) (h3 : (Lit.int .i64 cut).wf = true) :
    Calls Try.prog 5 #[.slice a n cap, .slice a2 n2 cap2, .int .i64 cut] w fun e w' => e = .returned (.bool true) ∧ Below w.heap.size w w' := by
  obtain ⟨r1, c1⟩ := intRow_of h1 (min n 30) (by omega)
  obtain ⟨r2, c2⟩ := strRow_of h2 (min n2 30) (by omega)
  exact back_walk a a2 n cap n2 cap2 cut (min n 30) (min n2 30) _ _ w (by split <;> omega) (by split <;> omega) c1 c2 r1 r2

end Go.Proofs.Ytlknmnodchfkkaa
