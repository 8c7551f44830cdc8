/-
  A log's block as it is to be written, from whatever place: a row of 512 bytes, whatever they are.
-/
import Derived.Test.YtopaeomjndblkaaGreatQDev
import Derived.Deep.RegionHeld3
import Derived.Deep.CutRange
namespace Go.Proofs.YtopaeomjndblkaaGreat
open Go.RowKit Go.Maps

set_option maxHeartbeats 4000000 in
set_option maxRecDepth 100000 in
theorem laid_weak (w : World) (p d bs bo : Nat) (nb a : Int) (S O : Dv.Tab) (hd : Dv.Dev w d bs bo nb a false S O) (first count oldest safe : Int) (T F E P : Nat) (gb cb n : Nat) (ls : Value) (lb : List UInt8)
    (hx : LBox w p ⟨.pointer (some ⟨d, 0, none⟩), first, count, (T : Int), oldest, safe, (E : Int) + 1, .slice (some ⟨gb, 0, none⟩) n cb, (F : Int) + 1, ls⟩) (hl : lb.length = n) (hcb : n ≤ cb) (hb : BytesAt w (some ⟨gb, 0, none⟩) lb) (hn : F + n = E) (hP0 : F ≤ P) (hP1 : P < E) (hE : E < 4611686018427380000) (hT : T < 2147483648)
    (f0 : 0 ≤ first) (f1 : first + count ≤ nb) (f2 : first ≤ 65536) (c0 : 4 ≤ count) (c1 : count ≤ 65536) :
    Calls Tryz.prog 184 #[.pointer (some ⟨p, 0, none⟩), .int .i64 ((P : Int) + 1)] w fun e w' => ∃ g l, e = .returned (.tuple #[.slice (some ⟨g, 0, none⟩) 512 512, .int .i64 0]) ∧ RowB w' g 512 l ∧ l.length = 512 ∧ w.heap.size ≤ g ∧ Fr [] w w' := by
  have HL : Hid (lb.length = n) := hl
  have HX := hidI hx
  have HD := hidI hd
  have HB := hidI hb
  have HC : Hid (∀ w', Fr [] w w' → w'.cell? ⟨p, 6, none⟩ = some (.int .i64 ((E : Int) + 1)) ∧ w'.cell? ⟨p, 7, none⟩ = some (.slice (some ⟨gb, 0, none⟩) n cb) ∧ w'.cell? ⟨p, 8, none⟩ = some (.int .i64 ((F : Int) + 1)) ∧ w'.cell? ⟨p, 3, none⟩ = some (.int .i64 (T : Int))) := hidI (fun w' f => by
    have k := HX.out.kept f (by simp)
    exact ⟨k.c6, k.c7, k.c8, k.c3⟩)
  have HA : Hid (∀ w', Fr [] w w' → w'.cell? ⟨p, 0, none⟩ = some (.pointer (some ⟨d, 0, none⟩)) ∧ w'.cell? ⟨p, 1, none⟩ = some (.int .i64 first) ∧ w'.cell? ⟨p, 2, none⟩ = some (.int .i64 count)) := hidI (fun w' f => by
    have k := HX.out.kept f (by simp)
    exact ⟨k.c0, k.c1, k.c2⟩)
  have HDK : Hid (∀ w', Fr [] w w' → Dv.Dev w' d bs bo nb a false S O) := hidI (fun w' f => dev_kept HD.out f (by simp) (by simp) (by simp))
  have hm408 : P % 408 < 408 := Nat.mod_lt _ (by omega)
  obtain ⟨M, HM⟩ : ∃ M, Hid (P % 408 = M) := ⟨_, rfl⟩
  rw [HM.out] at hm408
  have HIB : Hid (∀ w', Calls Tryz.prog 183 #[.int .i64 ((P : Int) + 1)] w' fun e w'' => e = .returned (.int .i64 (M : Int)) ∧ w'' = w') := hidI (fun w' => by
    have := inBlock_any w' P (by omega)
    rw [HM.out] at this
    exact this)
  have hbl0 : 0 ≤ (P : Int) / 408 % count := Int.emod_nonneg _ (by omega)
  have hbl1 : (P : Int) / 408 % count < count := Int.emod_lt_of_pos _ (by omega)
  have hM0 : (0 : Int) ≤ (M : Int) := by omega
  have hM1 : (M : Int) < 408 := by omega
  clear hl hx hd hb
  go_enter Tryz.func184, Tryz.ntmps184
  go_upto_if 16 with (first
    | (refine wp_make rfl _ _ rfl 512 rfl rfl (by omega) ?_; intro w1 g hg1 b1 f1)
    | (go_at_call 183; refine (HIB.out _).mono ?_; rintro e wz ⟨rfl, hz⟩; rw [hz]; clear hz))
  go_cut [6] from 13 (fun s6 wx => ∃ g l, s6 = .slice (some ⟨g, 0, none⟩) 512 512 ∧ RowB wx g 512 l ∧ l.length = 512 ∧ w.heap.size ≤ g ∧ Fr [] w wx)
  case first =>
    by_cases hM : M = 0
    · have q : ¬ (0 : Int) < (M : Int) := by omega
      have q' : (M : Int) ≤ 0 := by omega
      clear hM
      go_wp2_with fail
      go_meet
      case rel => exact ⟨g, zs 512, rfl, b1.row, zs_length _, hg1, f1⟩
    · have q : (0 : Int) < (M : Int) := by omega
      clear hM
      go_wp2_with fail
      obtain ⟨W0, HW0⟩ : ∃ W0, Hid (W0 = w1) := ⟨_, rfl⟩
      have gg : Fr [] w w1.drew := f1.drew
      have kt := HA.out _ gg
      go_region_held3 (fun w' => w'.cell? ⟨p, 0, none⟩ = some (.pointer (some ⟨d, 0, none⟩)) ∧ w'.cell? ⟨p, 1, none⟩ = some (.int .i64 first) ∧ w'.cell? ⟨p, 2, none⟩ = some (.int .i64 count)) (first | exact HA.out _ gg)
        ((first
          | (go_at_call 185; refine (block_any _ _ first count P (by omega) f0 f2 c0 c1).mono ?_; rintro e w7 ⟨rfl, f7⟩; replace gg := gg.trans f7)
          | (go_at_call 83; refine (dread (HDK.out _ gg) _ (by omega) (by omega)).mono ?_; rintro e w8 ⟨g8, rfl, b8, hg8, f8⟩; have hgs := Nat.le_trans gg.size hg8; replace gg := gg.trans f8)))
      all_goals
        have r8 := b8.row
        rw [latest_len HD.out] at r8
        go_wp2_with fail
        go_meet
        case rel => exact ⟨g8, _, rfl, r8, latest_len HD.out _, hgs, gg⟩
  case rest =>
    obtain ⟨g, l, rfl, rb, hlen, hg, fc⟩ := hcut
    obtain ⟨BE, HBE⟩ : ∃ BE, Hid (P + (408 - M) = BE) := ⟨_, rfl⟩
    have hBE : P < BE := by rw [← HBE.out]; omega
    have hBM : Hid (BE % 51 = 0) := hidI (by rw [← HBE.out, ← HM.out]; omega)
    have hBi : (408 : Int) - (M : Int) = (BE : Int) - (P : Int) := by rw [← HBE.out]; omega
    have hw9 : IntKind.i64.wrap ((408 : Int) - (M : Int)) = (BE : Int) - (P : Int) := by rw [hBi]; exact wrapI _ (by omega) (by omega)
    have hBs : BE < P + 409 := by rw [← HBE.out]; omega
    clear hBi
    go_wp2_with (go_at_call 183; refine (HIB.out _).mono ?_; rintro e wz ⟨rfl, hz⟩; rw [hz]; clear hz)
    go_loopw [1, 9] (fun pl lf wr => ∃ (q : Nat) (l' : List UInt8), P ≤ q ∧ q ≤ BE ∧ pl = .int .i64 ((q : Int) + 1) ∧ lf = .int .i64 ((BE : Int) - (q : Int)) ∧ RowB wr g 512 l' ∧ l'.length = 512 ∧ Fr [g] wc wr) (fun _ lf _ => (intOf lf).toNat)
    case atStart => exact ⟨P, l, Nat.le_refl _, by omega, rfl, rfl, rb, hlen, Fr.refl _ _⟩
    case round =>
      obtain ⟨q, l', hq0, hq1, rfl, rfl, rb', hlen', fr⟩ := hrel
      have fw : Fr [] w wr := fc.then fr (fun i hi hm => by simp at hm; omega)
      obtain ⟨k6, k7, k8, k3⟩ := HC.out wr fw
      by_cases hlt : q < BE
      · have hpos : (0 : Int) < (BE : Int) - (q : Int) := by omega
        obtain ⟨A, HAq⟩ : ∃ A, Hid (q % 51 = A) := ⟨_, rfl⟩
        have hA : A < 51 := by rw [← HAq.out]; exact Nat.mod_lt _ (by omega)
        obtain ⟨o, HOq⟩ : ∃ o, Hid (q / 51 % 8 * 64 = o) := ⟨_, rfl⟩
        have ho : o + 64 ≤ 512 := by have := HOq.out; omega
        have hnx : q + (51 - A) ≤ BE := by have h1 := HAq.out; have h2 := hBM.out; omega
        have hs := sectorOf_any wr g 512 q (by omega) (by omega)
        rw [HOq.out] at hs
        have hi := inSector_any wr q (by omega)
        rw [HAq.out] at hi
        have HSO := hidI hs
        have HIS := hidI hi
        have hw51 : IntKind.i64.wrap (51 - (A : Int)) = 51 - (A : Int) := wrapI _ (by omega) (by omega)
        have hwq : IntKind.i64.wrap ((q : Int) + 1 + (51 - (A : Int))) = (q : Int) + 1 + (51 - (A : Int)) := wrapI _ (by omega) (by omega)
        have hwl : IntKind.i64.wrap ((BE : Int) - (q : Int) - (51 - (A : Int))) = (BE : Int) - (q : Int) - (51 - (A : Int)) := wrapI _ (by omega) (by omega)
        clear hs hi
        by_cases hqE : E < q
        · have hgt : ((E : Int) + 1) < ((q : Int) + 1) := by omega
          go_wp2_with (first
            | (go_at_call 225; refine HSO.out.mono ?_; rintro e wz ⟨rfl, hz⟩; rw [hz]; clear hz)
            | (go_at_call 224; refine HIS.out.mono ?_; rintro e wz ⟨rfl, hz⟩; rw [hz]; clear hz)
            | (refine wp_clearB rfl _ rfl _ g o 64 _ 512 _ rfl rb' (fun _ => rfl) (by omega) ?_; intro w6 r6 f6))
          refine ⟨⟨q + (51 - A), _, by omega, hnx, by go_num, by go_num, r6, by rw [over_length _ _ _ (by rw [zs_length]; omega)]; exact hlen', fr.trans f6⟩, by simp [intOf]; omega⟩
        · have hgt : ¬ ((E : Int) + 1) < ((q : Int) + 1) := by omega
          have hgt' : ((q : Int) + 1) ≤ ((E : Int) + 1) := by omega
          obtain ⟨X, HXa⟩ : ∃ X, Hid (13 + A = X) := ⟨_, rfl⟩
          obtain ⟨Y, HYa⟩ : ∃ Y, Hid (q - F = Y) := ⟨_, rfl⟩
          have hwX : IntKind.i64.wrap (13 + (A : Int)) = (X : Int) := by rw [← HXa.out]; exact wrapI _ (by omega) (by omega)
          have hwY : IntKind.i64.wrap ((q : Int) + 1 - ((F : Int) + 1)) = (Y : Int) := by rw [← HYa.out, show (q : Int) + 1 - ((F : Int) + 1) = ((q - F : Nat) : Int) by omega]; exact wrapI _ (by omega) (by omega)
          have hX1 : (X : Int) ≤ 64 := by rw [← HXa.out]; omega
          have hY1 : (Y : Int) ≤ (n : Int) := by rw [← HYa.out]; omega
          have hY2 : (Y : Int) ≤ (cb : Int) := by omega
          go_wp2_with (first
            | (go_at_call 225; refine HSO.out.mono ?_; rintro e wz ⟨rfl, hz⟩; rw [hz]; clear hz)
            | (go_at_call 224; refine HIS.out.mono ?_; rintro e wz ⟨rfl, hz⟩; rw [hz]; clear hz))
          obtain ⟨oY, HOY, hdpY⟩ : ∃ oY, Hid (cb = Y ∨ oY = Y) ∧ (if cb = Y then some (⟨gb, 0, none⟩ : Addr) else some ⟨gb, Y, none⟩) = some ⟨gb, oY, none⟩ := by
            by_cases e : cb = Y
            · exact ⟨0, Or.inl e, by rw [if_pos e]⟩
            · exact ⟨Y, Or.inr rfl, by rw [if_neg e]⟩
          have hXn : ¬ 512 - o = X := by rw [← HXa.out]; omega
          have hX0 : (0 : Int) ≤ (X : Int) := by omega
          have hY0 : (0 : Int) ≤ (Y : Int) := by omega
          have hXc : X ≤ 512 - o := by rw [← HXa.out]; omega
          have hXs : X ≤ 63 := by rw [← HXa.out]; omega
          have hYn : Y ≤ n := by omega
          obtain ⟨SL, HSL⟩ : ∃ SL, Hid ((lb.drop Y).take (Nat.min (n - Y) (64 - X)) = SL) := ⟨_, rfl⟩
          have HSN : Hid (SL.length = Nat.min (n - Y) (64 - X)) := hidI (by
            rw [← HSL.out, List.length_take, List.length_drop, HL.out]
            exact Nat.min_eq_left (Nat.min_le_left _ _))
          have hSU : A + SL.length ≤ 51 := by
            have h1 : SL.length = min (n - Y) (64 - X) := HSN.out
            have h3 := HXa.out
            omega
          have HSB : Hid (∀ w', Fr [] w w' → BytesAt w' (some ⟨gb, oY, none⟩) SL) := hidI (fun w' f => by
            rw [← HSL.out]
            rcases HOY.out with e | rfl
            · have h0 : n - Y = 0 := by omega
              rw [h0, show Nat.min 0 (64 - X) = 0 from Nat.zero_min _]
              simpa using BytesAt.nil w' (some ⟨gb, oY, none⟩)
            · have := (HB.out.kept f (by simp)).sub oY (Nat.min (n - oY) (64 - X))
              rw [Nat.zero_add] at this
              exact this)
          have hwA : IntKind.i64.wrap ((q : Int) + 1 - (A : Int)) = ((q + 1 - A : Nat) : Int) := by
            have h1 := HAq.out
            rw [show (q : Int) + 1 - (A : Int) = ((q + 1 - A : Nat) : Int) by omega]
            exact wrapI _ (by omega) (by omega)
          have hwU : IntKind.i64.wrap ((A : Int) + (SL.length : Int)) = ((A + SL.length : Nat) : Int) := by
            rw [Int.natCast_add]
            exact wrapI _ (by omega) (by omega)
          have RB := hidI rb'
          go_region_law ((refine step_copyB (by rfl) _ _ (by rfl) g (o + X) _ (64 - X) _ (some ⟨gb, oY, none⟩) (n - Y) _ 512 l' SL rfl rfl RB.out HSN.out (fun _ => rfl) (HSB.out _ fw.drew) (by have h1 : SL.length = min (n - Y) (64 - X) := HSN.out; omega) ?_; intro w5 r5 f5))
          all_goals
            have fw5 : Fr [] w w5 := fw.then ((Fr.refl [g] wr).drew.trans f5) (fun i hi hm => by simp at hm; omega)
            have c35 := (HC.out w5 fw5).2.2.2
            have R5 := hidI r5
            clear k6 k7 k8 k3
            go_wp2_with fail
            refine (seal_any w5 g 512 o (512 - o) _ R5.out (q + 1 - A) T (A + SL.length) (by omega) (by omega) hSU (by rw [over_length _ _ _ (by have h1 : SL.length = min (n - Y) (64 - X) := HSN.out; omega)]; omega) (by omega)).mono ?_
            rintro e w6 ⟨rfl, r6, f6⟩
            go_wp2_with fail
            refine ⟨⟨q + (51 - A), _, by omega, hnx, by go_num, by go_num, r6, ?_, fr.trans (((Fr.refl [g] wr).drew.trans f5).trans f6)⟩, by simp [intOf]; omega⟩
            have e1 : (over l' (o + X) SL).length = 512 := by
              rw [over_length _ _ _ (by have h1 : SL.length = min (n - Y) (64 - X) := HSN.out; omega)]
              exact hlen'
            have e2 : (over (over l' (o + X) SL) o (stampL (q + 1 - A) T (A + SL.length))).length = 512 := by
              rw [over_length _ _ _ (by rw [e1, stampL_length]; omega)]
              exact e1
            rw [over_length _ _ _ (by rw [e2, zs_length]; omega)]
            exact e2
      · obtain rfl : q = BE := by omega
        have hz0 : ¬ (0 : Int) < (q : Int) - (q : Int) := by omega
        go_wp2_with fail
        go_ret2
        exact ⟨g, rfl, l', rb', hlen', hg, fw⟩

end Go.Proofs.YtopaeomjndblkaaGreat
