/-
  The document's own answer: children, walked.
-/
import Derived.Test.YtddcilmeignlmaaDoorXKidM
namespace Go.Proofs.YtddcilmeignlmaaDoor
open Go.RowKit Go.Maps Go.Lib

/-- How many bits children's numbers want. -/
def Wide (n K : Nat) : Prop := n < 2 ^ K ∧ (K = 0 ∨ 2 ^ (K - 1) ≤ n)
def strLen : Value → Nat
  | .string s => s.size
  | _ => 0
set_option maxHeartbeats 8000000 in
set_option maxRecDepth 100000 in
theorem rkids_ok (w : World) (ad : Option Addr) (m c : Nat) (l : List UInt8) (pp : List (List Bool)) (L : Lab l pp) (hl : l.length = m) (hb : BytesAt w ad l) (n K : Nat) (hn : n ≤ 300) (hK : Wide n K) :
    Calls Tryd.prog 9 #[.slice ad m c, .int .i64 (n : Int)] w fun e w' => (∃ v xs, e = .returned (.tuple #[v, .int .i64 0]) ∧ KTo w w' v n xs pp K) ∨ (∃ i, i < n ∧ e = .returned (.tuple #[.slice none 0 0, .int .i64 140]) ∧ 1024 < (enc (pp ++ [kidS K (i + 1)])).length ∧ Fr [] w w') := by
  have cS := Lib.hid (rsteps_yes w ad m c l hl hb pp L)
  have HL := Lib.hid L
  have HK := Lib.hid hK
  have hn0 : (0 : Int) ≤ (n : Int) := by omega
  have hn1 : (n : Int) ≤ 300 := by omega
  have hn2 : ¬ (n : Int) < 0 := by omega
  have hn3 : ¬ (16384 : Int) < (n : Int) := by omega
  have hK9 : K ≤ 9 := by
    rcases hK.2 with e | e
    · omega
    · rcases Nat.lt_or_ge 8 (K - 1) with h' | h'
      · have : 2 ^ 9 ≤ 2 ^ (K - 1) := Nat.pow_le_pow_right (by omega) h'
        omega
      · omega
  clear L hl hb hK
  go_enter Tryd.func9, Tryd.ntmps9
  go_wp2_with (first
    | (go_at_call 27; refine cS.out.mono ?_; rintro e w1 ⟨v6, rfl, hS6, f1⟩)
    | go_in)
  have HS := Lib.hid hS6
  have F1 := Lib.hid f1
  clear hS6 f1
  go_loopw [8] (fun i wk => wk = w1 ∧ ∃ k : Nat, k ≤ K ∧ i = .int .i64 k) (fun i _ => K - (RowKit.intOf i).toNat)
  case atStart => exact ⟨by trivial, 0, by omega, rfl⟩
  case round =>
    obtain ⟨rfl, k, hk, rfl⟩ := hrel
    have hk0 : (0 : Int) ≤ (k : Int) := by omega
    have hk9 : (k : Int) ≤ 9 := by omega
    by_cases hlt : k < K
    · have hlt' : (2 : Int) ^ k ≤ (n : Int) := by
        have h1 : 2 ^ (K - 1) ≤ n := by
          rcases HK.out.2 with e | e
          · omega
          · exact e
        have h2 : 2 ^ k ≤ 2 ^ (K - 1) := Nat.pow_le_pow_right (by omega) (by omega)
        exact_mod_cast Nat.le_trans h2 h1
      have hp9 : (2 : Int) ^ k ≤ 300 := by omega
      have hp0 : (0 : Int) < (2 : Int) ^ k := Int.pow_pos (by omega)
      go_wp2
      exact ⟨⟨by trivial, k + 1, by omega, by go_num⟩, by simp [RowKit.intOf]; omega⟩
    obtain rfl : k = K := by omega
    have hlt' : ¬ (2 : Int) ^ k ≤ (n : Int) := by
      have h1 := HK.out.1
      intro h
      have : 2 ^ k ≤ n := by exact_mod_cast h
      omega
    have hp9 : (2 : Int) ^ k ≤ 512 := by
      have : 2 ^ k ≤ 2 ^ 9 := Nat.pow_le_pow_right (by omega) (by omega)
      exact_mod_cast this
    have hp0 : (0 : Int) < (2 : Int) ^ k := Int.pow_pos (by omega)
    go_wp2_with go_in
    clear hlt' hp9 hp0 hk0 hlt
    have K0 : KTo wr wr (.slice none 0 0) 0 [] pp k := ⟨World.ownsRow_nil _ _ _ _, fun g hg => by simp [Value.ownBlock] at hg, Fr.refl _ _, (fun i hi => by omega), fun i j x y g h _ hx => by simp at hx⟩
    have HK0 := Lib.hid K0
    clear K0
    go_loopw [9, 10] (fun v9 v10 wk => ∃ (i I : Nat) (a9 : Option Addr) (c9 : Nat) (xs : List Value), i ≤ n ∧ i + 1 = I ∧ v10 = .int .i64 (I : Nat) ∧ v9 = .slice a9 i c9 ∧ Hid (KTo wr wk (.slice a9 i c9) i xs pp k)) (fun _ v10 _ => n + 1 - (RowKit.intOf v10).toNat)
    case atStart => exact ⟨0, 1, none, 0, [], by omega, rfl, rfl, rfl, HK0⟩
    case round =>
      obtain ⟨i, I, a9, c9, xs, hin, hI, rfl, rfl, Ki⟩ := hrel
      have HI := Lib.hid hI
      have hI0 : (0 : Int) ≤ (I : Int) := by omega
      have hI1 : (I : Int) ≤ 301 := by omega
      have hI2 : 0 < I := by omega
      by_cases hlt : i < n
      · have hlt' : (I : Int) ≤ (n : Int) := by omega
        have hIp := Lib.hid (show I < 2 ^ k from by have := HK.out.1; omega)
        clear hI
        go_wp2_with go_in
        go_loopw [11, 12] (fun s11 s12 wk => ∃ j : Nat, j ≤ k ∧ s12 = .int .i64 ((j : Int) - 1) ∧ s11 = .string (sT ((lowB I k).take (k - j))) ∧ Hid (Fr [] wr wk)) (fun _ v12 _ => (RowKit.intOf v12 + 1).toNat)
        case atStart => exact ⟨k, by omega, by first | rfl | (congr 1; omega), by rw [Nat.sub_self]; rfl, Lib.hid (Fr.refl _ _)⟩
        case round =>
          obtain ⟨j, hj, rfl, rfl, hF⟩ := hrel
          cases j with
          | succ j =>
            have ej : (((j + 1 : Nat) : Int)) - 1 = (j : Int) := by omega
            rw [ej]
            have hj0 : (0 : Int) ≤ (j : Int) := by omega
            have hj9 : (j : Int) ≤ 9 := by omega
            have hbv0 := bit_int I j
            have hst := lowB_step I k j (by omega)
            have hlen : (sT ((lowB I k).take (k - (j + 1)))).size ≤ 9 := by rw [sT_size, List.length_take]; omega
            have hlen2 : ((lowB I k).take (k - (j + 1))).length ≤ 9 := by rw [List.length_take]; omega
            have hsz : (sT ((lowB I k).take (k - (j + 1)))).size = ((lowB I k).take (k - (j + 1))).length := sT_size _
            generalize (lowB I k).take (k - (j + 1)) = A at hst hlen hlen2 hsz
            generalize decide (I / 2 ^ j % 2 = 1) = b at hbv0 hst
            have HST := Lib.hid hst
            clear hst ej
            cases b with
            | true =>
              have hbv : ((I : Int) / 2 ^ j).tmod 2 = 1 := hbv0
              have d1 : ¬ 9223372036854775807 < (sT A).size + (mkS [49]).size := by rw [show (mkS [49]).size = 1 from rfl]; omega
              have d2 : ¬ 9223372036854775807 < A.length + (mkS [49]).size := by rw [show (mkS [49]).size = 1 from rfl]; omega
              clear hbv0 hlen hsz
              go_wp2_with (refine wp_conv rfl _ rfl [49] _ 1 _ rfl rfl (oneByte 49 (by omega) (by omega) _) (fun h => absurd h (by omega)) ?_)
              exact ⟨⟨j, by omega, by go_num, by rw [HST.out, sT_snoc]; rfl, Lib.hid (hF.out.alloc _)⟩, by simp [RowKit.intOf] <;> omega⟩
            | false =>
              have hbv : ((I : Int) / 2 ^ j).tmod 2 = 0 := hbv0
              have d1 : ¬ 9223372036854775807 < (sT A).size + (mkS [48]).size := by rw [show (mkS [48]).size = 1 from rfl]; omega
              have d2 : ¬ 9223372036854775807 < A.length + (mkS [48]).size := by rw [show (mkS [48]).size = 1 from rfl]; omega
              clear hbv0 hlen hsz
              go_wp2_with (refine wp_conv rfl _ rfl [48] _ 1 _ rfl rfl (oneByte 48 (by omega) (by omega) _) (fun h => absurd h (by omega)) ?_)
              exact ⟨⟨j, by omega, by go_num, by rw [HST.out, sT_snoc]; rfl, Lib.hid (hF.out.alloc _)⟩, by simp [RowKit.intOf] <;> omega⟩
          | zero =>
            rw [show (((0 : Nat) : Int)) - 1 = -1 by omega, Nat.sub_zero, List.take_of_length_le (by rw [lowB_len]; omega)]
            have hT0 := Lib.hid (show trimS (lowB I k) = kidS k I ∧ true ∈ lowB I k from ⟨rfl, low_true I k (by omega) hIp.out⟩)
            have hl0 : (lowB I k).length ≤ k := by rw [lowB_len]; omega
            generalize lowB I k = S0 at hT0 hl0
            go_wp2_with go_in
            go_loopw [11] (fun s11 wk => wk = wr ∧ ∃ s : List Bool, s11 = .string (sT s) ∧ s.length ≤ k ∧ Hid (trimS s = kidS k I ∧ true ∈ s)) (fun v _ => strLen v)
            case atStart => exact ⟨by trivial, S0, rfl, hl0, hT0⟩
            case round =>
              obtain ⟨rfl, s, rfl, hsl, hT⟩ := hrel
              have hne := Lib.hid (show s ≠ [] from by rintro rfl; exact absurd hT.out.2 (by simp))
              have hs0 : 0 < s.length := List.length_pos_iff.2 hne.out
              have hs0' : (0 : Int) < (s.length : Int) := by omega
              have hs9 : (s.length : Int) ≤ 9 := by omega
              have hss : ((sT s).size : Int) = (s.length : Int) := by rw [sT_size]
              have q1 := run_sT s ((s.length : Int) - 1) (s.length - 1) (by omega) (by omega)
              clear hT0 hl0
              by_cases hla : s.getD (s.length - 1) false = true
              · rw [hla, show (((chr true).toNat : Nat) : Int) = 49 from rfl] at q1
                have hts := trim_last s hla
                have hkid : s = kidS k I := by rw [← hts]; exact hT.out.1
                have HKID := Lib.hid hkid
                have HOK := Lib.hid (show okS s from by unfold okS; rw [last_get s hne.out, hla])
                clear hla hts hkid
                have HR := Lib.hid (HS.out.kept0 (Ki.out.fr.trans hF.out))
                have HKW := Lib.hid (Ki.out.keep hF.out)
                have hpl := Lib.hid (show (enc (pp ++ [s])).length ≤ 3000 from by have := HL.out.most; rw [enc_append, enc_one, List.length_append, wr_length]; omega)
                have hpp := Lib.hid (show pp.length ≤ 1024 from by have := HL.out.most; have := len_le_enc pp; omega)
                have HOKS := Lib.hid (show ∀ t ∈ pp ++ [s], okS t from fun t ht => by
                  rcases List.mem_append.1 ht with h | h
                  · exact HL.out.ok t h
                  · rw [List.mem_singleton.1 h]; exact HOK.out)
                clear hT hne hs0 hs0' HOK
                go_wp2_with (first
                  | (refine wp_appSs rfl _ _ rfl wr _ [] rfl (strs_empty (Fr.refl [] wr)) ((Fr.refl [] wr).alloc _) w _ (pp.map sT) rfl (HR.out.kept0 ((Fr.refl [] wr).alloc _)) (by rw [List.length_map]; have := hpp.out; simp; omega) ?_; intro v5 w5 o5 f5; have O5 := Lib.hid o5; have F5 := Lib.hid f5; clear o5 f5)
                  | (refine wp_appS rfl _ _ rfl wr _ ([] ++ pp.map sT) rfl (O5.out.kept0 ((Fr.refl [] w5).alloc _)) (F5.out.alloc _).size w5.heap.size 1 (sT s) rfl (strs_lit _ _) (by simp; have := hpp.out; omega) (F5.out.alloc _) ?_; intro v7 w7 o7 f7; obtain ⟨ad7, cap7, rfl, hS7⟩ := o7.row; have F7 := Lib.hid f7; have HS7 := Lib.hid (show StrAt w7 ad7 ((pp ++ [s]).map sT) from by simpa using hS7); clear o7 f7 hS7)
                  | (go_at_call 28; refine (rlabel_any _ ad7 _ cap7 (pp ++ [s]) (by simp) HS7.out hpl.out HOKS.out).mono ?_; rintro e w8 ⟨hd8, f8⟩; have F8 := Lib.hid (F7.out.trans f8); rcases hd8 with ⟨hle8, v8, l8, rfl, hL8, ad8, cap8, rfl, ow8⟩ | ⟨hgt8, rfl⟩)
                  | (refine wp_appL rfl _ _ rfl (.slice a9 i c9) i xs rfl (HKW.out.keep (F8.out.alloc _)).own w8.heap.size 1 (.slice ad8 l8.length cap8) rfl (lit_cell _ _) rfl (by omega) ?_; intro g9 c9' w9 o9 f9 at9 lt9))
                · have hO8 : Out w7 w8 (.slice ad8 l8.length cap8) l8 := ⟨ad8, cap8, rfl, ow8⟩
                  have hO9 := (hO8.from F7.out).from HKW.out.fr
                  have hRI : ∀ (i' : Nat) (y : Value) (a b : Nat), xs[i']? = some y → y.ownBlock = some a → (Value.slice ad8 l8.length cap8).ownBlock = some b → a < b := fun i' y a b h1 h2 h3 => by
                    have hi' : i' < xs.length := (List.getElem?_eq_some_iff.1 h1).1
                    have hxl : xs.length = i := by have := HKW.out.own.1; omega
                    obtain ⟨y', l', e1, _, e3⟩ := HKW.out.kids i' (by omega)
                    rw [h1] at e1
                    obtain rfl := Option.some.inj e1
                    have q1 := (e3.at a h2).2
                    have q2 := (hO8.at b h3).1
                    have q3 := F7.out.size
                    omega
                  have hL9 : Lab l8 (pp ++ [kidS k (i + 1)]) := by rw [HI.out, ← HKID.out]; exact hL8
                  have K9 := (HKW.out.keep (F8.out.alloc _)).app o9 f9 at9 hL9 (hO9.kept ((Fr.refl [] w8).alloc _)) hRI
                  exact ⟨⟨i + 1, I + 1, _, c9', _, by omega, by have := HI.out; omega, by go_num, rfl, Lib.hid K9⟩, by simp [RowKit.intOf]; omega⟩
                · go_ret2
                  exact Or.inr ⟨i, hlt, rfl, by rw [HI.out, ← HKID.out]; exact hgt8, F1.out.trans (HKW.out.fr.trans F8.out)⟩
              · have hlf : s.getD (s.length - 1) false = false := by simpa using hla
                rw [hlf, show (((chr false).toNat : Nat) : Int) = 48 from rfl] at q1
                have q2 := run_head (sT s) ((s.length : Int) - 1) (s.length - 1) (by omega) (by rw [sT_size]; omega)
                rw [show mkS ((bl (sT s)).take (s.length - 1)) = sT (s.take (s.length - 1)) from by unfold sT; rw [bl_mkS]; simp [txt]] at q2
                have hd := Lib.hid (trim_drop s hne.out hlf)
                clear hla hlf
                go_wp2
                refine ⟨⟨by trivial, s.take (s.length - 1), by rfl, by rw [List.length_take]; omega, Lib.hid ⟨hd.out.1.trans hT.out.1, hd.out.2 hT.out.2⟩⟩, ?_⟩
                show (sT (s.take (s.length - 1))).size < (sT s).size
                rw [sT_size, sT_size, List.length_take]
                omega
      · have hlt' : ¬ (I : Int) ≤ (n : Int) := by omega
        obtain rfl : i = n := by omega
        go_wp2_with fail
        go_ret2
        exact Or.inl ⟨_, rfl, xs, Ki.out.from F1.out⟩
end Go.Proofs.YtddcilmeignlmaaDoor
