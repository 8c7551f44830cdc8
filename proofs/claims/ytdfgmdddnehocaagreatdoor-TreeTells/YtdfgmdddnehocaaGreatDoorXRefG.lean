/-
  The document's own answer: Place; rows of numbers beside each other.
-/
import Derived.Test.YtdfgmdddnehocaaGreatDoorTParts
import Derived.Test.YtdfgmdddnehocaaGreatDoorTRef5
namespace Go.Proofs.YtdfgmdddnehocaaGreatDoor
open Go.RowKit Go.Maps Go.Lib

set_option maxHeartbeats 4000000 in
theorem Go_ancself (w : World) (b off c : Nat) (t : List Nd) (k : Nat) (A : At w b off c t k) :
    Calls Tryz.prog 22 #[.slice (some ⟨b, off, none⟩) t.length c, .int .i64 (k : Int), .int .u8 12] w fun e w' => (∃ v, e = .returned v ∧ Ints w w' v (k :: anc t k)) ∧ Fr [] w w' := by
  have hal := anc_len t k
  have hal2 : (anc t k).length ≤ 16384 := by have := A.lt; have := A.len; omega
  have HA := Hid.mk A
  clear A
  go_enter Tryz.func22, Tryz.ntmps22
  go_wp2_with (first
    | (go_at_call 25; refine (HA.out.has _ (Fr.refl _ _)).mono ?_; rintro e w5 ⟨rfl, f5⟩)
    | fail)
  refine (ancestors_any _ b off c t (HA.out.nodes.kept (f5.alloc _) (by simp)) HA.out.len k HA.out.lt (fun j hj => (HA.out.good j (by have := HA.out.lt; omega)).1)).mono ?_
  rintro e w7 ⟨⟨v, rfl, hv⟩, f7⟩
  obtain ⟨adv, capv, rfl, _⟩ := hv.shape
  have h1 := (ints_one f5 k).kept0 f7
  obtain ⟨lz, hlz⟩ : ∃ lz, (anc t k).length = lz := ⟨_, rfl⟩
  have HLZ := Hid.mk hlz
  rw [hlz] at hv hal2 ⊢
  have HV := Hid.mk hv
  have HO := Hid.mk h1
  clear hv h1 hlz
  go_wp2_with (first
    | (refine wp_appIs rfl _ _ rfl w (.slice (some ⟨w5.heap.size, 0, none⟩) 1 1) [k] rfl HO.out ((f5.alloc _).trans f7) _ (.slice adv lz capv) (anc t k) rfl HV.out (by rw [HLZ.out]; simp; omega) ?_; intro v8 w8 h8 fr8 f8)
    | fail)
  go_ret
  exact ⟨⟨v8, rfl, h8⟩, fr8⟩
set_option maxHeartbeats 4000000 in
theorem Go_descself (w : World) (b off c : Nat) (t : List Nd) (k : Nat) (A : At w b off c t k) :
    Calls Tryz.prog 22 #[.slice (some ⟨b, off, none⟩) t.length c, .int .i64 (k : Int), .int .u8 11] w fun e w' => (∃ v, e = .returned v ∧ Ints w w' v (k :: str t (k + 1) (endOf t k))) ∧ Fr [] w w' := by
  have hEl := end_len t k A.lt
  have hEg := (endOf_is (t := t) (k := (k : Int)) (by omega) (by have := A.lt; omega)).gt
  obtain ⟨E, hE⟩ : ∃ E, endOf t k = E := ⟨_, rfl⟩
  rw [hE] at hEl hEg ⊢
  have hal2 : (str t (k + 1) E).length ≤ 16384 := by
    have h1 : (str t (k + 1) E).length ≤ (List.range' (k + 1) (E - (k + 1))).length := List.length_filter_le _ _
    rw [List.length_range'] at h1
    have := A.len
    omega
  have HE := Hid.mk hE
  have hk2 : (k : Int) ≤ 16384 := by have h1 := A.lt; have h2 := A.len; omega
  have HA := Hid.mk A
  clear A hE
  go_enter Tryz.func22, Tryz.ntmps22
  go_wp2_with (first
    | (go_at_call 25; refine (HA.out.has _ (Fr.refl _ _)).mono ?_; rintro e w5 ⟨rfl, f5⟩)
    | fail)
  refine (end_any _ b off c t (HA.out.nodes.kept (f5.alloc _) (by simp)) HA.out.len k HA.out.lt).mono ?_
  rw [HE.out]
  rintro e w6 ⟨rfl, f6⟩
  go_wp2_with fail
  refine (stretch_any _ b off c t (HA.out.nodes.kept ((f5.alloc _).trans f6) (by simp)) HA.out.len (k + 1) E hEl (by omega)).mono ?_
  rintro e w7 ⟨⟨v, rfl, hv⟩, f7⟩
  obtain ⟨adv, capv, rfl, _⟩ := hv.shape
  have h1 := ((ints_one f5 k).kept0 f6).kept0 f7
  obtain ⟨lz, hlz⟩ : ∃ lz, (str t (k + 1) E).length = lz := ⟨_, rfl⟩
  have HLZ := Hid.mk hlz
  rw [hlz] at hv hal2 ⊢
  have HV := Hid.mk hv
  have HO := Hid.mk h1
  clear hv h1 hlz
  go_wp2_with (first
    | (refine wp_appIs rfl _ _ rfl w (.slice (some ⟨w5.heap.size, 0, none⟩) 1 1) [k] rfl HO.out (((f5.alloc _).trans f6).trans f7) _ (.slice adv lz capv) (str t (k + 1) E) rfl HV.out (by rw [HLZ.out]; simp; omega) ?_; intro v8 w8 h8 fr8 f8)
    | fail)
  go_ret
  exact ⟨⟨v8, rfl, h8⟩, fr8⟩
theorem Go_no (w : World) (L : LaidW w) (ad : Option Addr) (n c : Nat) (t : List Nd) (hn : t.length = n) (hN : NodesAt w ad t) (hS : Sane t) (k : Int) (ax : Int) (hh : hasB t k = false) :
    Calls Tryz.prog 22 #[.slice ad n c, .int .i64 k, .int .u8 ax] w fun e w' => (∃ v, e = .returned v ∧ Ints w w' v []) ∧ Fr [] w w' := by
  have cH := has_any w L ad c n t hn hN hS k
  rw [hh] at cH
  have CH := Hid.mk cH
  clear cH hn hN hS L hh
  go_enter Tryz.func22, Tryz.ntmps22
  go_wp2_with (go_at_call 25; refine CH.out.mono ?_; rintro e w5 ⟨rfl, f5⟩)
  go_ret
  exact ⟨⟨_, rfl, Ints.nil _ _⟩, f5⟩
set_option maxHeartbeats 4000000 in
theorem Go_other (w : World) (b off c : Nat) (t : List Nd) (k : Nat) (A : At w b off c t k) (ax : Int) (h : ∀ i : Nat, 1 ≤ i → i ≤ 12 → ax ≠ (i : Int)) :
    Calls Tryz.prog 22 #[.slice (some ⟨b, off, none⟩) t.length c, .int .i64 (k : Int), .int .u8 ax] w fun e w' => (∃ v, e = .returned v ∧ Ints w w' v []) ∧ Fr [] w w' := by
  have b1 : (ax == 1) = false := by rw [beq_eq_false_iff_ne]; exact h 1 (by omega) (by omega)
  have b2 : (ax == 2) = false := by rw [beq_eq_false_iff_ne]; exact h 2 (by omega) (by omega)
  have b3 : (ax == 3) = false := by rw [beq_eq_false_iff_ne]; exact h 3 (by omega) (by omega)
  have b4 : (ax == 4) = false := by rw [beq_eq_false_iff_ne]; exact h 4 (by omega) (by omega)
  have b5 : (ax == 5) = false := by rw [beq_eq_false_iff_ne]; exact h 5 (by omega) (by omega)
  have b6 : (ax == 6) = false := by rw [beq_eq_false_iff_ne]; exact h 6 (by omega) (by omega)
  have b7 : (ax == 7) = false := by rw [beq_eq_false_iff_ne]; exact h 7 (by omega) (by omega)
  have b8 : (ax == 8) = false := by rw [beq_eq_false_iff_ne]; exact h 8 (by omega) (by omega)
  have b9 : (ax == 9) = false := by rw [beq_eq_false_iff_ne]; exact h 9 (by omega) (by omega)
  have b10 : (ax == 10) = false := by rw [beq_eq_false_iff_ne]; exact h 10 (by omega) (by omega)
  have b11 : (ax == 11) = false := by rw [beq_eq_false_iff_ne]; exact h 11 (by omega) (by omega)
  have b12 : (ax == 12) = false := by rw [beq_eq_false_iff_ne]; exact h 12 (by omega) (by omega)
  have HA := Hid.mk A
  clear A h
  go_enter Tryz.func22, Tryz.ntmps22
  go_wp2_with (go_at_call 25; refine (HA.out.has _ (Fr.refl _ _)).mono ?_; rintro e w5 ⟨rfl, f5⟩)
  go_ret
  exact ⟨⟨_, rfl, Ints.nil _ _⟩, f5⟩

/-- Where an axis goes. -/
def goA (t : List Nd) (k : Nat) : Nat → List Nat
  | 1 => kidsL t k
  | 2 => str t (k + 1) (endOf t k)
  | 3 => (anc t k).take 1
  | 4 => anc t k
  | 5 => sibBehind t k
  | 6 => (sibAhead t k).reverse
  | 7 => str t (endOf t k) t.length
  | 8 => prec t k
  | 9 => attrsL k (attrEnds t k)
  | 10 => [k]
  | 11 => k :: str t (k + 1) (endOf t k)
  | 12 => k :: anc t k
  | _ => []
def goL (t : List Nd) (k : Int) (ax : Nat) : List Nat := if hasB t k = true then goA t k.toNat ax else []
theorem Go_any (w : World) (L : LaidW w) (ad : Option Addr) (n c : Nat) (t : List Nd) (hn : t.length = n) (hN : NodesAt w ad t) (hS : Sane t) (k : Int) (ax : Nat) :
    Calls Tryz.prog 22 #[.slice ad n c, .int .i64 k, .int .u8 (ax : Int)] w fun e w' => (∃ v, e = .returned v ∧ Ints w w' v (goL t k ax)) ∧ Fr [] w w' := by
  unfold goL
  cases hh : hasB t k with
  | false =>
    rw [if_neg (by decide)]
    exact Go_no w L ad n c t hn hN hS k ax hh
  | true =>
    rw [if_pos rfl]
    have h := hh
    unfold hasB at h
    rw [Bool.and_eq_true, decide_eq_true_eq] at h
    obtain ⟨m, rfl⟩ : ∃ m : Nat, k = (m : Int) := ⟨k.toNat, by omega⟩
    rw [Int.toNat_natCast]
    obtain ⟨b, off, rfl, hI⟩ := hN.in (by omega)
    subst hn
    have A : At w b off c t m := At.mk' L hI hS hh
    by_cases hx : 1 ≤ ax ∧ ax ≤ 12
    · rcases (by omega : ax = 1 ∨ ax = 2 ∨ ax = 3 ∨ ax = 4 ∨ ax = 5 ∨ ax = 6 ∨ ax = 7 ∨ ax = 8 ∨ ax = 9 ∨ ax = 10 ∨ ax = 11 ∨ ax = 12) with rfl | rfl | rfl | rfl | rfl | rfl | rfl | rfl | rfl | rfl | rfl | rfl
      · exact Go_child w b off c t m A
      · exact Go_desc w b off c t m A
      · exact Go_parent w b off c t m A
      · exact Go_anc w b off c t m A
      · exact Go_fsib w b off c t m A
      · exact Go_psib w b off c t m A
      · exact Go_foll' w b off c t m A
      · exact Go_prec w b off c t m A
      · exact Go_attr w b off c t m A
      · exact Go_self w b off c t m A
      · exact Go_descself w b off c t m A
      · exact Go_ancself w b off c t m A
    · have e : goA t m ax = [] := by
        unfold goA
        split <;> first | rfl | omega
      rw [e]
      exact Go_other w b off c t m A ax (fun i h1 h2 he => hx (by omega))
end Go.Proofs.YtdfgmdddnehocaaGreatDoor

namespace Go.Proofs.YtdfgmdddnehocaaGreatDoor
open Go.RowKit Go.Maps Go.Lib

theorem below_anc {t : List Nd} (i k : Nat) : belowB t i k = decide (k ∈ ancI t (i : Int)) := by
  unfold belowB
  rw [ancI_nat]
  by_cases h : i = k
  · subst h; simp
  · have h' : ¬ k = i := fun e => h e.symm
    simp [h, h']
set_option maxHeartbeats 4000000 in
set_option maxRecDepth 100000 in
theorem refBelow_any (w : World) (b off c : Nat) (t : List Nd) (hN : NodesIn w b off t) (O : Ords t) (i k : Nat) (hi : i < t.length) :
    Calls Tryz.prog 49 #[.slice (some ⟨b, off, none⟩) t.length c, .int .i64 (i : Int), .int .i64 (k : Int)] w fun e w' => e = .returned (.bool (belowB t i k)) ∧ w' = w := by
  have HN := Hid.mk hN
  have HO := Hid.mk O
  have hi' : (i : Int) < (t.length : Int) := by omega
  have H0 : Hid (belowB t i k = decide (k ∈ ancI t (i : Int))) := below_anc i k
  obtain ⟨B, hB⟩ : ∃ B, belowB t i k = B := ⟨_, rfl⟩
  rw [hB] at H0 ⊢
  clear hN O hB
  go_enter Tryz.func49, Tryz.ntmps49
  go_wp2
  go_loopw [7] (fun s5 wr => ∃ u : Int, s5 = .int .i64 u ∧ -1 ≤ u ∧ u < (t.length : Int) ∧ w = wr ∧ Hid (B = decide (k ∈ ancI t u))) (fun s5 _ => (RowKit.intOf s5 + 1).toNat)
  case atStart => exact ⟨(i : Int), rfl, by omega, hi', rfl, H0⟩
  case round =>
    obtain ⟨u, rfl, hu0, hul, rfl, hR⟩ := hrel
    by_cases h0 : u < 0
    · have h0' : ¬ (0 : Int) ≤ u := by omega
      have e : B = false := by rw [hR.out, ancI_neg t u h0]; rfl
      have HE := Hid.mk e
      clear e
      go_wp2
      go_ret
      exact ⟨by rw [HE.out]; rfl, rfl⟩
    · have h0' : (0 : Int) ≤ u := by omega
      obtain ⟨m, rfl⟩ : ∃ m : Nat, u = (m : Int) := ⟨u.toNat, by omega⟩
      obtain ⟨c0, c1, c2, c3⟩ := HN.out m (by omega)
      have om := HO.out m (by omega)
      by_cases hmk : m = k
      · have hb : ((m : Int) == (k : Int)) = true := by rw [beq_iff_eq]; omega
        have HE : Hid (B = true) := by show B = true; rw [hR.out, ancI_nat, hmk]; simp
        clear hmk c0 c1 c2 c3 om
        go_wp2
        go_ret
        exact ⟨by rw [HE.out]; rfl, rfl⟩
      · have hb : ((m : Int) == (k : Int)) = false := by rw [beq_eq_false_iff_ne]; omega
        have HE : Hid (B = decide (k ∈ ancI t (par t m))) := by
          show _ = _
          rw [hR.out, ancI_nat, anc_eq om.2.1]
          have h' : ¬ k = m := fun e => hmk e.symm
          simp [h']
        have hp0 := om.1
        have hp1 := om.2.1
        generalize par t m = p at c3 HE hp0 hp1
        clear hmk c0 c1 c2 om hR
        go_wp2
        exact ⟨⟨p, rfl, hp0, by omega, trivial, HE⟩, by simp [RowKit.intOf]; omega⟩

theorem withTo_step (t : List Nd) (k : Int) (att : Bool) (b : Nat) : withTo t k att (b + 1) = withTo t k att b ++ (if par t b = k ∧ (decide (knd t b = 3) == att) = true then [b] else []) := by
  unfold withTo
  rw [List.range_succ, List.filter_append]
  congr 1
  by_cases h1 : par t b = k
  · cases h2 : (decide (knd t b = 3) == att) <;> simp [h1, h2]
  · simp [h1]
theorem withTo_len (t : List Nd) (k : Int) (att : Bool) (b : Nat) : (withTo t k att b).length ≤ b := by
  unfold withTo
  refine Nat.le_trans (List.length_filter_le _ _) ?_
  simp
set_option maxHeartbeats 4000000 in
set_option maxRecDepth 100000 in
theorem refWith_any (w : World) (b off c : Nat) (t : List Nd) (hN : NodesIn w b off t) (hl : t.length ≤ 16384) (k : Int) (att : Bool) :
    Calls Tryz.prog 29 #[.slice (some ⟨b, off, none⟩) t.length c, .int .i64 k, .bool att] w fun e w' => (∃ v, e = .returned v ∧ Ints w w' v (withTo t k att t.length)) ∧ Fr [] w w' := by
  have HN := Hid.mk hN
  clear hN
  go_enter Tryz.func29, Tryz.ntmps29
  go_wp2
  go_loopw [7, 8] (fun s6 s7 wr => ∃ i : Nat, s7 = .int .i64 (i : Int) ∧ i ≤ t.length ∧ Hid (Ints w wr s6 (withTo t k att i)) ∧ Hid (Fr [] w wr)) (fun _ s7 _ => t.length - (RowKit.intOf s7).toNat)
  case atStart => exact ⟨0, rfl, Nat.zero_le _, Ints.nil _ _, Fr.refl _ _⟩
  case round =>
    obtain ⟨i, rfl, hi, hI, frh⟩ := hrel
    have hi0 : (0 : Int) ≤ (i : Int) := by omega
    by_cases hlt : i < t.length
    · have hlt' : (i : Int) < (t.length : Int) := by omega
      obtain ⟨c0, c1, c2, c3⟩ := (HN.out.kept frh.out (by simp)) i hlt
      have hst := withTo_step t k att i
      have hlen := withTo_len t k att i
      obtain ⟨ad, cap, rfl, _⟩ := hI.out.shape
      obtain ⟨m, hm⟩ : ∃ m, (withTo t k att i).length = m := ⟨_, rfl⟩
      have HM := Hid.mk hm
      rw [hm] at hI hlen ⊢
      have hcb : ((((knd t i : Nat)) : Int) == 3) = decide (knd t i = 3) := by
        by_cases e : knd t i = 3
        · simp [e]
        · rw [decide_eq_false e, beq_eq_false_iff_ne]; omega
      generalize hK : knd t i = K at c0 hst hcb
      generalize hD : decide (K = 3) = D at hst hcb
      clear c1 c2 hK hD hm
      by_cases hp : par t i = k
      · have hpb : (par t i == k) = true := by rw [beq_iff_eq]; exact hp
        by_cases ha : (D == att) = true
        · rw [if_pos ⟨hp, ha⟩] at hst
          have HS := Hid.mk hst
          generalize par t i = p at c3 hpb
          clear hst hp
          go_wp2_with (first
            | (refine wp_appI rfl _ _ rfl w (.slice ad m cap) (withTo t k att i) rfl (hI.out.kept0 ((Fr.refl _ _).alloc _)) (by have := frh.out.size; simp; omega) wr.heap.size 1 i rfl (cell_new1 _ _ _) (by rw [HM.out]; omega) ?_ (frh.out.alloc _); intro v' w' hI' _ f')
            | go_in)
          exact ⟨⟨i + 1, by go_num, by omega, by show Ints _ _ _ (withTo t k att (i + 1)); rw [HS.out]; exact hI', f'⟩, by simp [RowKit.intOf]; omega⟩
        · have ha' : (D == att) = false := by cases hx : (D == att) with | true => exact absurd hx ha | false => rfl
          rw [if_neg (fun x => ha x.2), List.append_nil] at hst
          have HS := Hid.mk hst
          generalize par t i = p at c3 hpb
          clear hst hp ha
          go_wp2
          exact ⟨⟨i + 1, by go_num, by omega, by show Ints _ _ _ (withTo t k att (i + 1)); rw [HS.out]; exact hI.out, frh⟩, by simp [RowKit.intOf]; omega⟩
      · have hpb : (par t i == k) = false := by rw [beq_eq_false_iff_ne]; exact hp
        rw [if_neg (fun x => hp x.1), List.append_nil] at hst
        have HS := Hid.mk hst
        generalize par t i = p at c3 hpb
        clear hst hp
        go_wp2
        exact ⟨⟨i + 1, by go_num, by omega, by show Ints _ _ _ (withTo t k att (i + 1)); rw [HS.out]; exact hI.out, frh⟩, by simp [RowKit.intOf]; omega⟩
    · obtain rfl : i = t.length := by omega
      go_wp2
      go_ret
      exact ⟨⟨_, rfl, hI.out⟩, frh.out⟩
end Go.Proofs.YtdfgmdddnehocaaGreatDoor

namespace Go.Proofs.YtdfgmdddnehocaaGreatDoor
open Go.RowKit Go.Maps Go.Lib

theorem Two.symm {v u : Value} (h : Two v u) : Two u v := fun g hg e => h g e hg
/-- Rows of numbers, each in memory of its own. -/
structure Rws (w0 w : World) (ps : List (Value × List Nat)) : Prop where
  each : ∀ p ∈ ps, Ints w0 w p.1 p.2
  two : ps.Pairwise fun p q => Two p.1 q.1
theorem Rws.kept {w0 w w' : World} {ps : List (Value × List Nat)} (h : Rws w0 w ps) (f : Fr [] w w') : Rws w0 w' ps := ⟨fun p hp => (h.each p hp).kept0 f, h.two⟩
theorem Rws.app {w0 w w' : World} {xs ys : List (Value × List Nat)} {v : Value} {l l' : List Nat} {g m cap : Nat} {ob : Obj} (h : Rws w0 w (xs ++ (v, l) :: ys)) (hI : Ints w0 w' (.slice (some ⟨g, 0, none⟩) m cap) l') (f : Fr v.ownBlock.toList (w.alloc ob) w') (at9 : v.ownBlock = some g ∨ g = (w.alloc ob).heap.size) :
    Rws w0 w' (xs ++ (.slice (some ⟨g, 0, none⟩) m cap, l') :: ys) := by
  obtain ⟨hx, hc, hxy⟩ := List.pairwise_append.1 h.two
  obtain ⟨hvy, hy⟩ := List.pairwise_cons.1 hc
  have key : ∀ p ∈ xs ++ ys, Two p.1 v := fun p hp => by
    rcases List.mem_append.1 hp with hp | hp
    · exact hxy p hp (v, l) (by simp)
    · exact (hvy p hp).symm
  have hIn : ∀ p ∈ xs ++ ys, Ints w0 w p.1 p.2 := fun p hp => h.each p (by
    rcases List.mem_append.1 hp with hp | hp
    · exact List.mem_append_left _ hp
    · exact List.mem_append_right _ (List.mem_cons_of_mem _ hp))
  have new : ∀ p ∈ xs ++ ys, Two p.1 (.slice (some ⟨g, 0, none⟩) m cap) := fun p hp j hj e => by
    have e' : g = j := by simpa [Value.ownBlock] using e
    subst e'
    rcases at9 with q | q
    · exact key p hp g hj q
    · have := ((hIn p hp).lt g hj).2
      simp at q
      omega
  have kept : ∀ p ∈ xs ++ ys, Ints w0 w' p.1 p.2 := fun p hp => ((hIn p hp).kept0 ((Fr.refl _ _).alloc _)).kept f (fun j hj hm => by
    have hm' : v.ownBlock = some j := by simpa using hm
    exact key p hp j hj hm')
  refine ⟨fun p hp => ?_, List.pairwise_append.2 ⟨hx, List.pairwise_cons.2 ⟨fun p hp => (new p (List.mem_append_right _ hp)).symm, hy⟩, fun p hp q hq => ?_⟩⟩
  · rcases List.mem_append.1 hp with hp | hp
    · exact kept p (List.mem_append_left _ hp)
    · rcases List.mem_cons.1 hp with rfl | hp
      · exact hI
      · exact kept p (List.mem_append_right _ hp)
  · rcases List.mem_cons.1 hq with rfl | hq
    · exact new p (List.mem_append_left _ hp)
    · exact hxy p hp q (List.mem_cons_of_mem _ hq)

theorem ok_either (t : List Nd) : okT t = (decide (judged t (oneB t) = 0) || decide (judged t (noB t) = 0)) := by
  unfold okT
  by_cases h : knd t 0 = 1
  · rw [if_pos h]
    have hn : noB t = false := by unfold noB; simp [h]
    have : judged t (noB t) ≠ 0 := by
      unfold judged
      rw [hn, Bool.and_false]
      split
      · decide
      · rw [if_pos rfl]; decide
    rw [decide_eq_false this, Bool.or_false]
  · rw [if_neg h]
    have hn : oneB t = false := by unfold oneB; simp [h]
    have : judged t (oneB t) ≠ 0 := by
      unfold judged
      rw [hn, Bool.and_false]
      split
      · decide
      · rw [if_pos rfl]; decide
    rw [decide_eq_false this, Bool.false_or]
set_option maxHeartbeats 4000000 in
set_option maxRecDepth 100000 in
theorem refPlace_any (w : World) (ad : Option Addr) (c n : Nat) (t : List Nd) (hn : t.length = n) (hN : NodesAt w ad t) (hl : n ≤ 300) (hZ : Short t) (k : Int) :
    Calls Tryz.prog 28 #[.slice ad n c, .int .i64 k] w fun e w' => e = .returned (.bool (hasB t k)) ∧ Fr [] w w' := by
  unfold hasB
  rw [ok_either]
  have c1 := Hid.mk (fun w' (f : Fr [] w w') => refCheck_any w' ad c n t hn (hN.kept f) hl hZ)
  have c2 := Hid.mk (fun w' (f : Fr [] w w') => refFragment_any w' ad c n t hn (hN.kept f) hl hZ)
  obtain ⟨J1, h1⟩ : ∃ J1, judged t (oneB t) = J1 := ⟨_, rfl⟩
  obtain ⟨J2, h2⟩ : ∃ J2, judged t (noB t) = J2 := ⟨_, rfl⟩
  rw [h1, h2]
  rw [h1] at c1
  rw [h2] at c2
  rw [show (t.length : Int) = (n : Int) by rw [hn]]
  clear h1 h2 hN hZ hn
  by_cases h0 : k < 0
  · rw [decide_eq_false (by omega), Bool.false_and]
    have h0' : decide (0 ≤ k) = false := decide_eq_false (by omega)
    go_enter Tryz.func28, Tryz.ntmps28
    go_wp2
    go_ret
    exact ⟨rfl, Fr.refl _ _⟩
  · have h0' : decide (0 ≤ k) = true := decide_eq_true (by omega)
    by_cases h1 : (n : Int) ≤ k
    · rw [decide_eq_false (by omega), Bool.false_and]
      have h1' : decide (k < (n : Int)) = false := decide_eq_false (by omega)
      go_enter Tryz.func28, Tryz.ntmps28
      go_wp2
      go_ret
      exact ⟨rfl, Fr.refl _ _⟩
    · have h1' : decide (k < (n : Int)) = true := decide_eq_true (by omega)
      rw [decide_eq_true (by omega), Bool.true_and]
      by_cases hj : J1 = 0
      · subst hj
        rw [decide_eq_true rfl, Bool.true_or]
        go_enter Tryz.func28, Tryz.ntmps28
        go_wp2_with (first
          | (go_at_call 46; refine (c1.out _ (Fr.refl _ _)).mono ?_; rintro e w5 ⟨rfl, f5⟩))
        go_ret
        exact ⟨rfl, f5⟩
      · rw [decide_eq_false hj, Bool.false_or]
        have hjb : ((J1 : Int) == 0) = false := by rw [beq_eq_false_iff_ne]; omega
        have hjc : ((J2 : Int) == 0) = decide (J2 = 0) := by
          by_cases e : J2 = 0
          · simp [e]
          · rw [decide_eq_false e, beq_eq_false_iff_ne]; omega
        generalize decide (J2 = 0) = D at hjc
        clear hj
        go_enter Tryz.func28, Tryz.ntmps28
        go_wp2_with (first
          | (go_at_call 46; refine (c1.out _ (Fr.refl _ _)).mono ?_; rintro e w5 ⟨rfl, f5⟩)
          | (go_at_call 47; refine (c2.out _ f5).mono ?_; rintro e w6 ⟨rfl, f6⟩))
        go_ret
        exact ⟨by first | rfl | (rw [← hjc]; rfl), f5.trans f6⟩
end Go.Proofs.YtdfgmdddnehocaaGreatDoor

