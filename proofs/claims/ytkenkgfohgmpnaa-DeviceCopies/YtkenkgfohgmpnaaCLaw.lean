/-
  DeviceCopies: the walk.
-/
import Derived.Test.YtkenkgfohgmpnaaCTwo
namespace Go.Proofs.Ytkenkgfohgmpnaa.C
open Go.RowKit Go.Maps

theorem fates_none (w : World) : FatesAt w none [] := fun i f hf => by simp at hf

set_option maxHeartbeats 2000000 in
set_option maxRecDepth 100000 in
theorem copies_bad_short (w : World) (k : Int) (hk : k < 1 ∨ 65536 < k) (ad : Option Addr) (len cap : Nat) (h : len ≤ 80) (x : Int) :
    Calls Try.prog 4 #[.int .i64 k, .slice ad len cap, .int .i64 x] w fun e w' => e = .returned (.bool true) ∧ Fr [] w w' := by
  have h1 : ¬ (80 : Int) < (len : Int) := by omega
  go_enter Try.func4, Try.ntmps4
  go_wp2_with (first
    | (go_at_call 9; refine (new_no k _ hk).mono ?_; rintro e w1 ⟨rfl, hw1⟩; obtain rfl := hw1)
    | (go_at_call 10; refine (rnew_no k _ hk).mono ?_; rintro e w1 ⟨rfl, rfl⟩)
    | (go_at_call 11; refine (awake_law _).mono ?_; rintro e w2 ⟨rfl, f2⟩))
  go_ret
  exact ⟨rfl, f2⟩

set_option maxHeartbeats 2000000 in
set_option maxRecDepth 100000 in
theorem copies_bad_long (w : World) (k : Int) (hk : k < 1 ∨ 65536 < k) (ad : Option Addr) (len cap : Nat) (hcap : len ≤ cap) (h : 80 < len) (x : Int) :
    Calls Try.prog 4 #[.int .i64 k, .slice ad len cap, .int .i64 x] w fun e w' => e = .returned (.bool true) ∧ Fr [] w w' := by
  have h1 : (80 : Int) < (len : Int) := by omega
  have hcap' : (80 : Int) ≤ (cap : Int) := by omega
  go_enter Try.func4, Try.ntmps4
  go_wp2_with (first
    | (go_at_call 9; refine (new_no k _ hk).mono ?_; rintro e w1 ⟨rfl, hw1⟩; obtain rfl := hw1)
    | (go_at_call 10; refine (rnew_no k _ hk).mono ?_; rintro e w1 ⟨rfl, rfl⟩)
    | (go_at_call 11; refine (awake_law _).mono ?_; rintro e w2 ⟨rfl, f2⟩))
  go_ret
  exact ⟨rfl, f2⟩

set_option maxHeartbeats 8000000 in
set_option maxRecDepth 100000 in
theorem copies_short (w : World) (k : Int) (hk1 : 1 ≤ k) (hk2 : k ≤ 65536) (ad : Option Addr) (L : List DoV) (len cap : Nat) (hlen : L.length = len) (h : len ≤ 80) (hD : DosAt w ad L) (x : Int) (hx : (Lit.int .i64 x).wf = true) :
    Calls Try.prog 4 #[.int .i64 k, .slice ad len cap, .int .i64 x] w fun e w' => e = .returned (.bool true) ∧ Fr [] w w' := by
  have h1 : ¬ (80 : Int) < (len : Int) := by omega
  have hm' : (len : Int) ≤ 80 := by omega
  have HL : Hid (L.length = len) := hlen
  clear hlen
  obtain ⟨A, hA, hAm⟩ : ∃ A : Nat, x % ((len : Int) + 1) = (A : Int) ∧ A ≤ len := by
    have h0 := Int.emod_nonneg x (show ((len : Int) + 1 : Int) ≠ 0 by omega)
    have h2 := Int.emod_lt_of_pos x (show (0 : Int) < (len : Int) + 1 by omega)
    exact ⟨(x % ((len : Int) + 1)).toNat, by omega, by omega⟩
  have HA : Hid (x % ((len : Int) + 1) = (A : Int)) := hA
  clear hA
  have hA0 : (0 : Int) ≤ (A : Int) := by omega
  have hAm' : (A : Int) ≤ (len : Int) := by omega
  go_enter Try.func4, Try.ntmps4
  go_wp2_with (first
    | (go_at_call 9; refine (new_dev k _ hk1 hk2).mono ?_; rintro e w1 ⟨rfl, d1, f1⟩)
    | (go_at_call 10; refine (rnew_dev k _ hk1 hk2).mono ?_; rintro e w2 ⟨rfl, r2, f2⟩; have P0 := Pair.start d1 f1 r2 f2)
    | (go_at_call 18; refine (pick_any _ x _ hx (by omega) (by omega)).mono ?_; rw [HA.out]; rintro e w3 ⟨rfl, hw3⟩; obtain rfl := hw3))
  generalize w.heap.size + 2 = p at P0
  generalize w.heap.size + 1 = bo at P0
  generalize hbs : w.heap.size = bs at P0
  generalize w1.heap.size = r at P0
  clear d1 f1 r2 f2 hbs
  go_loopw [9] (fun i wr => ∃ j : Nat, j ≤ len ∧ i = .int .i64 j ∧ PairX w [] [] w wr p bs bo r k ∧ ∀ q, q < j → ∀ dv, L[q]? = some dv → dv.fl ≤ 1000) (fun i _ => len - (intOf i).toNat)
  case atStart => exact ⟨0, by omega, rfl, P0.x, fun q hq => by omega⟩
  case round =>
    obtain ⟨j, hj, rfl, ⟨lv, a, dn, S, O, E, Pj⟩, hall⟩ := hrel
    clear P0
    by_cases hlt : j < len
    · have hlt' : (j : Int) < (len : Int) := by omega
      have hj0 : (0 : Int) ≤ (j : Int) := by omega
      obtain ⟨dv, hdv⟩ : ∃ dv, L[j]? = some dv := ⟨_, List.getElem?_eq_getElem (by rw [HL.out]; exact hlt)⟩
      obtain ⟨_, b, off, had, c0, c1, c2, c3, c4⟩ := (hD.kept Pj.fr) j dv hdv
      have HALL : Hid (∀ q, q < j → ∀ dv, L[q]? = some dv → dv.fl ≤ 1000) := hall
      clear hall
      subst had
      by_cases hf : dv.fl ≤ 1000
      · have hf' : ¬ (1000 : Int) < (dv.fl : Int) := by omega
        go_wp2_with fail
        refine ⟨⟨j + 1, by omega, by go_num, Pj.x, ?_⟩, by simp [intOf]; omega⟩
        intro q hq dv' hdv'
        by_cases e : q = j
        · subst e
          rw [hdv] at hdv'
          cases hdv'
          exact hf
        · exact HALL.out q (by omega) dv' hdv'
      · have hf' : (1000 : Int) < (dv.fl : Int) := by omega
        go_wp2_with (go_at_call 11; refine (awake_law _).mono ?_; rintro e w3 ⟨rfl, f3⟩)
        go_ret
        exact ⟨rfl, Pj.fr.trans f3⟩
    · obtain rfl : len = j := by omega
      have HALL : Hid (∀ q, q < len → ∀ dv, L[q]? = some dv → dv.fl ≤ 1000) := hall
      clear hall
      go_wp2_with fail
      go_loopw [10] (fun i wr => ∃ j : Nat, j ≤ A ∧ i = .int .i64 j ∧ PairX w [] [] w wr p bs bo r k) (fun i _ => A - (intOf i).toNat)
      case atStart => exact ⟨0, by omega, rfl, Pj.x⟩
      case round =>
        clear Pj E O S dn a lv
        obtain ⟨j, hj, rfl, lv, a, dn, S, O, E, Pj⟩ := hrel
        by_cases hlt : j < A
        · have hlt' : (j : Int) < (A : Int) := by omega
          have hlt2 : (j : Int) < (len : Int) := by omega
          have hj0 : (0 : Int) ≤ (j : Int) := by omega
          obtain ⟨dv, hdv⟩ : ∃ dv, L[j]? = some dv := ⟨_, List.getElem?_eq_getElem (by rw [HL.out]; omega)⟩
          obtain ⟨ok, _⟩ := hD j dv hdv
          obtain ⟨_, b, off, had, c0, c1, c2, c3, c4⟩ := (hD.kept Pj.fr) j dv hdv
          have hf := HALL.out j (by omega) dv hdv
          subst had
          go_wp2_with (go_at_call 12; refine (step_any Pj dv ok hf).mono ?_; rintro e w3 ⟨rfl, P3⟩)
          exact ⟨⟨j + 1, by omega, by go_num, P3⟩, by simp [intOf]; omega⟩
        · obtain rfl : A = j := by omega
          obtain ⟨wb, rfl⟩ : ∃ wb, wb = wr := ⟨wr, rfl⟩
          have HD1 : Hid (∀ x ∈ [p, bs, bo], x < wb.heap.size) := (fun x hx => by have := Pj.d.lt; simp at hx; omega : ∀ x ∈ [p, bs, bo], x < wb.heap.size)
          have HD2 : Hid (∀ x ∈ rblocks r lv E, x < wb.heap.size) := Pj.rr.lts
          go_wp2_with (first
            | (go_at_call 19; refine (copy_dev Pj.d).mono ?_; rintro e w6 ⟨bs', bo', rfl, hb1, hb2, d6, f6⟩)
            | (go_at_call 20; refine (rcopy_dev (Pj.keep f6 (by simp)).rr).mono ?_; rintro e w7 ⟨lv', rfl, hl', r7, f7⟩; obtain ⟨P1, P2, T⟩ := Pj.twin hb1 hb2 d6 f6 hl' r7 f7))
          clear hl' hb1 hb2 d6 f6 r7 f7
          generalize w6.heap.size = q2 at P2 T
          generalize hq : wb.heap.size = q at P2 T
          clear hq
          have TT : Hid (Twin w wb w7 p bs bo r lv E q bs' bo' q2 lv') := T
          clear T Pj
          go_loopw [13] (fun i wr => ∃ j : Nat, A ≤ j ∧ j ≤ len ∧ i = .int .i64 j ∧ PairX w7 (mine p bs bo r lv) (rblocks r lv E) w wr p bs bo r k) (fun i _ => len - (intOf i).toNat)
          case atStart => exact ⟨A, by omega, by omega, rfl, P1.x⟩
          case round =>
            clear P1
            obtain ⟨j, hjA, hj, rfl, lv3, a3, dn3, S3, O3, E3, P3⟩ := hrel
            by_cases hlt : j < len
            · have hlt2 : (j : Int) < (len : Int) := by omega
              have hj0 : (0 : Int) ≤ (j : Int) := by omega
              obtain ⟨dv, hdv⟩ : ∃ dv, L[j]? = some dv := ⟨_, List.getElem?_eq_getElem (by rw [HL.out]; omega)⟩
              obtain ⟨ok, _⟩ := hD j dv hdv
              obtain ⟨_, b, off, had, c0, c1, c2, c3, c4⟩ := (hD.kept P3.fr) j dv hdv
              have hf := HALL.out j (by omega) dv hdv
              subst had
              go_wp2_with (go_at_call 12; refine (step_any P3 dv ok hf).mono ?_; rintro e w8 ⟨rfl, P4⟩)
              exact ⟨⟨j + 1, by omega, by omega, by go_num, P4⟩, by simp [intOf]; omega⟩
            · obtain rfl : len = j := by omega
              obtain ⟨w8, rfl⟩ : ∃ w8, w8 = wr := ⟨wr, rfl⟩
              have P2b := P2.beside P3.fr2 P3.fr TT.out.far TT.out.far2
              clear P2
              go_wp2_with fail
              go_loopw [14] (fun i wr => ∃ j : Int, (A : Int) - 1 ≤ j ∧ j ≤ (len : Int) - 1 ∧ i = .int .i64 j ∧ PairX w8 (mine q bs' bo' q2 lv') (rblocks q2 lv' E) w wr q bs' bo' q2 k) (fun i _ => (intOf i + 1).toNat)
              case atStart => exact ⟨(len : Int) - 1, by omega, by omega, rfl, P2b.x⟩
              case round =>
                clear P2b
                obtain ⟨j, hjA, hj, rfl, lv4, a4, dn4, S4, O4, E4, P4⟩ := hrel
                by_cases hge : (A : Int) ≤ j
                · obtain ⟨J, rfl⟩ : ∃ J : Nat, j = J := ⟨j.toNat, by omega⟩
                  have hlt2 : (J : Int) < (len : Int) := by omega
                  have hj0 : (0 : Int) ≤ (J : Int) := by omega
                  obtain ⟨dv, hdv⟩ : ∃ dv, L[J]? = some dv := ⟨_, List.getElem?_eq_getElem (by rw [HL.out]; omega)⟩
                  obtain ⟨ok, _⟩ := hD J dv hdv
                  obtain ⟨_, b, off, had, c0, c1, c2, c3, c4⟩ := (hD.kept P4.fr) J dv hdv
                  have hf := HALL.out J (by omega) dv hdv
                  subst had
                  go_wp2_with (go_at_call 12; refine (step_any P4 dv ok hf).mono ?_; rintro e w9 ⟨rfl, P5⟩)
                  exact ⟨⟨(J : Int) - 1, by omega, by omega, by go_num, P5⟩, by first | (simp [intOf]; done) | (simp [intOf]; omega)⟩
                · have hlt3 : j < (A : Int) := by omega
                  obtain ⟨w9, rfl⟩ : ∃ w9, w9 = wr := ⟨wr, rfl⟩
                  have Q1 := P3.beside P4.fr2 P4.fr (fun x hx hm => by have := HD1.out x hx; have := TT.out.new x hm; omega) (fun x hx hm => by have h5 := TT.out.new x hm; rcases P3.all x hx with h6 | h6; (have := HD2.out x h6; omega); omega)
                  go_wp2_with (first
                    | (go_at_call_of 15 (#[Value.pointer (some ⟨p, 0, none⟩), Value.pointer (some ⟨r, 0, none⟩), Value.slice ad len cap]); refine (like_any Q1 ad _ _ L HL.out hD (by omega) _ (Fr.refl _ _)).mono ?_; rintro e w10 ⟨rfl, Q2, f10⟩; have R1 := P4.keep f10 (by simp))
                    | (go_at_call_of 15 (#[Value.pointer (some ⟨q, 0, none⟩), Value.pointer (some ⟨q2, 0, none⟩), Value.slice ad len cap]); refine (like_any R1 ad _ _ L HL.out hD (by omega) _ (Fr.refl _ _)).mono ?_; rintro e w11 ⟨rfl, R2, f11⟩; have Q3 := Q2.keep f11 (by simp))
                    | (go_at_call 16; refine (wake_dev Q3.d [] none 0 (fates_none _) (by simp)).mono ?_; rintro e w12 ⟨rfl, d12, f12⟩; have g12 := Q3.frd f12))
                  clear Q1 Q2 Q3 R1 R2 P3 P4 f10 f11 f12
                  have hX := latest_length d12 0
                  have hW := g12.size
                  have hd12 := d12.lt
                  refine (read_dev d12 0 (by omega) (by omega)).mono ?_
                  rintro e w13 ⟨ga, rfl, ba, hga, f13⟩
                  have d13 := d12.kept f13 (by simp) (by simp) (by simp)
                  have g13 := g12.trans f13
                  clear f13 d12 g12
                  go_wp2_with fail
                  refine (read_dev d13 0 (by omega) (by omega)).mono ?_
                  rintro e w14 ⟨gb, rfl, bb, hgb, f14⟩
                  have lta : ga < w13.heap.size := (Array.getElem?_eq_some_iff.1 ba).1
                  have ba14 := f14.same (by simp) ba
                  have d14 := d13.kept f14 (by simp) (by simp) (by simp)
                  have g14 := g13.trans f14
                  clear f14 d13 g13
                  go_wp2_with fail
                  refine (turn_any _ ga 512 _ hX ba14).mono ?_
                  rintro e w15 ⟨rfl, ⟨cur, hcur, hcs⟩, f15⟩
                  have ltb : gb < w14.heap.size := (Array.getElem?_eq_some_iff.1 bb).1
                  have bb15 := f15.same (by simp; omega) bb
                  have d15 := d14.kept f15 (by simp; omega) (by simp; omega) (by simp; omega)
                  have hs15 := f15.size
                  have g15 : Fr [] w w15 := g14.then f15 (fun i hi hm => by simp at hm; omega)
                  clear f15 d14 g14
                  go_wp2_with fail
                  refine (read_dev d15 0 (by omega) (by omega)).mono ?_
                  rintro e w16 ⟨gc, rfl, bc, hgc, f16⟩
                  have ha16 := f16.same (by simp) hcur
                  have hb16 := f16.same (by simp) bb15
                  have g16 := g15.trans f16
                  clear f16 d15 g15
                  go_wp2_with fail
                  refine (same_any _ _ _ _ _ 512 512 512 (Blk.bytes (t := 5) hb16) bc.bytes hX hX (by omega)).mono ?_
                  rw [beq_self_eq_true]
                  rintro e w17 ⟨rfl, f17⟩
                  have ha17 := f17.same (by simp) ha16
                  have hb17 := f17.same (by simp) hb16
                  have hc17 := f17.same (by simp) bc
                  have g17 := g16.trans f17
                  have ltc : gc < w17.heap.size := (Array.getElem?_eq_some_iff.1 hc17).1
                  have LL := three_lists ha17 hb17 hc17 hcs (by rw [arr_size, hX]) (by rw [arr_size, hX]) (by omega) (by omega)
                  clear g16 f17
                  go_wp2_with fail
                  refine (Ab.apartBytes_any _ [ga, gb, gc] 3 _ _ _ _ _ LL (by omega) (by intro g hg; simp at hg ⊢; omega)).mono ?_
                  rintro e w18 ⟨rfl, f18a⟩
                  have f18 := fr_ab f18a
                  have g18 : Fr [] w w18 := (g17.alloc _).then f18 (fun i hi hm => by simp at hm; omega)
                  go_wp2_with fail
                  refine (awake_law _).mono ?_
                  rintro e w19 ⟨rfl, f19⟩
                  go_wp2_with fail
                  go_ret
                  exact ⟨rfl, g18.trans f19⟩

set_option maxHeartbeats 8000000 in
set_option maxRecDepth 100000 in
theorem copies_long (w : World) (k : Int) (hk1 : 1 ≤ k) (hk2 : k ≤ 65536) (ad : Option Addr) (L : List DoV) (len cap : Nat) (hlen : L.length = len) (hcap : len ≤ cap) (h : 80 < len) (hD : DosAt w ad L) (x : Int) (hx : (Lit.int .i64 x).wf = true) :
    Calls Try.prog 4 #[.int .i64 k, .slice ad len cap, .int .i64 x] w fun e w' => e = .returned (.bool true) ∧ Fr [] w w' := by
  have h1 : (80 : Int) < (len : Int) := by omega
  have hcap' : (80 : Int) ≤ (cap : Int) := by omega
  have hD2 : DosAt w ad (L.take 80) := hD.take 80
  have HL : Hid ((L.take 80).length = 80) := (by rw [List.length_take, hlen]; omega : (L.take 80).length = 80)
  clear hlen hD
  have hD := hD2
  clear hD2
  generalize L.take 80 = L at hD HL
  obtain ⟨A, hA, hAm⟩ : ∃ A : Nat, x % (81) = (A : Int) ∧ A ≤ 80 := by
    have h0 := Int.emod_nonneg x (show (81 : Int) ≠ 0 by omega)
    have h2 := Int.emod_lt_of_pos x (show (0 : Int) < 81 by omega)
    exact ⟨(x % (81)).toNat, by omega, by omega⟩
  have HA : Hid (x % (81) = (A : Int)) := hA
  clear hA
  have hA0 : (0 : Int) ≤ (A : Int) := by omega
  have hAm' : (A : Int) ≤ 80 := by omega
  go_enter Try.func4, Try.ntmps4
  go_wp2_with (first
    | (go_at_call 9; refine (new_dev k _ hk1 hk2).mono ?_; rintro e w1 ⟨rfl, d1, f1⟩)
    | (go_at_call 10; refine (rnew_dev k _ hk1 hk2).mono ?_; rintro e w2 ⟨rfl, r2, f2⟩; have P0 := Pair.start d1 f1 r2 f2)
    | (go_at_call 18; refine (pick_any _ x _ hx (by omega) (by omega)).mono ?_; rw [HA.out]; rintro e w3 ⟨rfl, hw3⟩; obtain rfl := hw3))
  generalize w.heap.size + 2 = p at P0
  generalize w.heap.size + 1 = bo at P0
  generalize hbs : w.heap.size = bs at P0
  generalize w1.heap.size = r at P0
  clear d1 f1 r2 f2 hbs
  go_loopw [9] (fun i wr => ∃ j : Nat, j ≤ 80 ∧ i = .int .i64 j ∧ PairX w [] [] w wr p bs bo r k ∧ ∀ q, q < j → ∀ dv, L[q]? = some dv → dv.fl ≤ 1000) (fun i _ => 80 - (intOf i).toNat)
  case atStart => exact ⟨0, by omega, rfl, P0.x, fun q hq => by omega⟩
  case round =>
    obtain ⟨j, hj, rfl, ⟨lv, a, dn, S, O, E, Pj⟩, hall⟩ := hrel
    clear P0
    by_cases hlt : j < 80
    · have hlt' : (j : Int) < 80 := by omega
      have hj0 : (0 : Int) ≤ (j : Int) := by omega
      obtain ⟨dv, hdv⟩ : ∃ dv, L[j]? = some dv := ⟨_, List.getElem?_eq_getElem (by rw [HL.out]; exact hlt)⟩
      obtain ⟨_, b, off, had, c0, c1, c2, c3, c4⟩ := (hD.kept Pj.fr) j dv hdv
      have HALL : Hid (∀ q, q < j → ∀ dv, L[q]? = some dv → dv.fl ≤ 1000) := hall
      clear hall
      subst had
      by_cases hf : dv.fl ≤ 1000
      · have hf' : ¬ (1000 : Int) < (dv.fl : Int) := by omega
        go_wp2_with fail
        refine ⟨⟨j + 1, by omega, by go_num, Pj.x, ?_⟩, by simp [intOf]; omega⟩
        intro q hq dv' hdv'
        by_cases e : q = j
        · subst e
          rw [hdv] at hdv'
          cases hdv'
          exact hf
        · exact HALL.out q (by omega) dv' hdv'
      · have hf' : (1000 : Int) < (dv.fl : Int) := by omega
        go_wp2_with (go_at_call 11; refine (awake_law _).mono ?_; rintro e w3 ⟨rfl, f3⟩)
        go_ret
        exact ⟨rfl, Pj.fr.trans f3⟩
    · obtain rfl : 80 = j := by omega
      rw [show (((80 : Nat) : Nat) : Int) = (80 : Int) from rfl]
      have HALL : Hid (∀ q, q < 80 → ∀ dv, L[q]? = some dv → dv.fl ≤ 1000) := hall
      clear hall
      go_wp2_with fail
      go_loopw [10] (fun i wr => ∃ j : Nat, j ≤ A ∧ i = .int .i64 j ∧ PairX w [] [] w wr p bs bo r k) (fun i _ => A - (intOf i).toNat)
      case atStart => exact ⟨0, by omega, rfl, Pj.x⟩
      case round =>
        clear Pj E O S dn a lv
        obtain ⟨j, hj, rfl, lv, a, dn, S, O, E, Pj⟩ := hrel
        by_cases hlt : j < A
        · have hlt' : (j : Int) < (A : Int) := by omega
          have hlt2 : (j : Int) < 80 := by omega
          have hj0 : (0 : Int) ≤ (j : Int) := by omega
          obtain ⟨dv, hdv⟩ : ∃ dv, L[j]? = some dv := ⟨_, List.getElem?_eq_getElem (by rw [HL.out]; omega)⟩
          obtain ⟨ok, _⟩ := hD j dv hdv
          obtain ⟨_, b, off, had, c0, c1, c2, c3, c4⟩ := (hD.kept Pj.fr) j dv hdv
          have hf := HALL.out j (by omega) dv hdv
          subst had
          go_wp2_with (go_at_call 12; refine (step_any Pj dv ok hf).mono ?_; rintro e w3 ⟨rfl, P3⟩)
          exact ⟨⟨j + 1, by omega, by go_num, P3⟩, by simp [intOf]; omega⟩
        · obtain rfl : A = j := by omega
          obtain ⟨wb, rfl⟩ : ∃ wb, wb = wr := ⟨wr, rfl⟩
          have HD1 : Hid (∀ x ∈ [p, bs, bo], x < wb.heap.size) := (fun x hx => by have := Pj.d.lt; simp at hx; omega : ∀ x ∈ [p, bs, bo], x < wb.heap.size)
          have HD2 : Hid (∀ x ∈ rblocks r lv E, x < wb.heap.size) := Pj.rr.lts
          go_wp2_with (first
            | (go_at_call 19; refine (copy_dev Pj.d).mono ?_; rintro e w6 ⟨bs', bo', rfl, hb1, hb2, d6, f6⟩)
            | (go_at_call 20; refine (rcopy_dev (Pj.keep f6 (by simp)).rr).mono ?_; rintro e w7 ⟨lv', rfl, hl', r7, f7⟩; obtain ⟨P1, P2, T⟩ := Pj.twin hb1 hb2 d6 f6 hl' r7 f7))
          clear hl' hb1 hb2 d6 f6 r7 f7
          generalize w6.heap.size = q2 at P2 T
          generalize hq : wb.heap.size = q at P2 T
          clear hq
          have TT : Hid (Twin w wb w7 p bs bo r lv E q bs' bo' q2 lv') := T
          clear T Pj
          go_loopw [13] (fun i wr => ∃ j : Nat, A ≤ j ∧ j ≤ 80 ∧ i = .int .i64 j ∧ PairX w7 (mine p bs bo r lv) (rblocks r lv E) w wr p bs bo r k) (fun i _ => 80 - (intOf i).toNat)
          case atStart => exact ⟨A, by omega, by omega, rfl, P1.x⟩
          case round =>
            clear P1
            obtain ⟨j, hjA, hj, rfl, lv3, a3, dn3, S3, O3, E3, P3⟩ := hrel
            by_cases hlt : j < 80
            · have hlt2 : (j : Int) < 80 := by omega
              have hj0 : (0 : Int) ≤ (j : Int) := by omega
              obtain ⟨dv, hdv⟩ : ∃ dv, L[j]? = some dv := ⟨_, List.getElem?_eq_getElem (by rw [HL.out]; omega)⟩
              obtain ⟨ok, _⟩ := hD j dv hdv
              obtain ⟨_, b, off, had, c0, c1, c2, c3, c4⟩ := (hD.kept P3.fr) j dv hdv
              have hf := HALL.out j (by omega) dv hdv
              subst had
              go_wp2_with (go_at_call 12; refine (step_any P3 dv ok hf).mono ?_; rintro e w8 ⟨rfl, P4⟩)
              exact ⟨⟨j + 1, by omega, by omega, by go_num, P4⟩, by simp [intOf]; omega⟩
            · obtain rfl : 80 = j := by omega
              rw [show (((80 : Nat) : Nat) : Int) = (80 : Int) from rfl]
              obtain ⟨w8, rfl⟩ : ∃ w8, w8 = wr := ⟨wr, rfl⟩
              have P2b := P2.beside P3.fr2 P3.fr TT.out.far TT.out.far2
              clear P2
              go_wp2_with fail
              go_loopw [14] (fun i wr => ∃ j : Int, (A : Int) - 1 ≤ j ∧ j ≤ 80 - 1 ∧ i = .int .i64 j ∧ PairX w8 (mine q bs' bo' q2 lv') (rblocks q2 lv' E) w wr q bs' bo' q2 k) (fun i _ => (intOf i + 1).toNat)
              case atStart => exact ⟨80 - 1, by omega, by omega, rfl, P2b.x⟩
              case round =>
                clear P2b
                obtain ⟨j, hjA, hj, rfl, lv4, a4, dn4, S4, O4, E4, P4⟩ := hrel
                by_cases hge : (A : Int) ≤ j
                · obtain ⟨J, rfl⟩ : ∃ J : Nat, j = J := ⟨j.toNat, by omega⟩
                  have hlt2 : (J : Int) < 80 := by omega
                  have hj0 : (0 : Int) ≤ (J : Int) := by omega
                  obtain ⟨dv, hdv⟩ : ∃ dv, L[J]? = some dv := ⟨_, List.getElem?_eq_getElem (by rw [HL.out]; omega)⟩
                  obtain ⟨ok, _⟩ := hD J dv hdv
                  obtain ⟨_, b, off, had, c0, c1, c2, c3, c4⟩ := (hD.kept P4.fr) J dv hdv
                  have hf := HALL.out J (by omega) dv hdv
                  subst had
                  go_wp2_with (go_at_call 12; refine (step_any P4 dv ok hf).mono ?_; rintro e w9 ⟨rfl, P5⟩)
                  exact ⟨⟨(J : Int) - 1, by omega, by omega, by go_num, P5⟩, by first | (simp [intOf]; done) | (simp [intOf]; omega)⟩
                · have hlt3 : j < (A : Int) := by omega
                  obtain ⟨w9, rfl⟩ : ∃ w9, w9 = wr := ⟨wr, rfl⟩
                  have Q1 := P3.beside P4.fr2 P4.fr (fun x hx hm => by have := HD1.out x hx; have := TT.out.new x hm; omega) (fun x hx hm => by have h5 := TT.out.new x hm; rcases P3.all x hx with h6 | h6; (have := HD2.out x h6; omega); omega)
                  go_wp2_with (first
                    | (go_at_call_of 15 (#[Value.pointer (some ⟨p, 0, none⟩), Value.pointer (some ⟨r, 0, none⟩), Value.slice ad 80 cap]); refine (like_any Q1 ad _ _ L HL.out hD (by omega) _ (Fr.refl _ _)).mono ?_; rintro e w10 ⟨rfl, Q2, f10⟩; have R1 := P4.keep f10 (by simp))
                    | (go_at_call_of 15 (#[Value.pointer (some ⟨q, 0, none⟩), Value.pointer (some ⟨q2, 0, none⟩), Value.slice ad 80 cap]); refine (like_any R1 ad _ _ L HL.out hD (by omega) _ (Fr.refl _ _)).mono ?_; rintro e w11 ⟨rfl, R2, f11⟩; have Q3 := Q2.keep f11 (by simp))
                    | (go_at_call 16; refine (wake_dev Q3.d [] none 0 (fates_none _) (by simp)).mono ?_; rintro e w12 ⟨rfl, d12, f12⟩; have g12 := Q3.frd f12))
                  clear Q1 Q2 Q3 R1 R2 P3 P4 f10 f11 f12
                  have hX := latest_length d12 0
                  have hW := g12.size
                  have hd12 := d12.lt
                  refine (read_dev d12 0 (by omega) (by omega)).mono ?_
                  rintro e w13 ⟨ga, rfl, ba, hga, f13⟩
                  have d13 := d12.kept f13 (by simp) (by simp) (by simp)
                  have g13 := g12.trans f13
                  clear f13 d12 g12
                  go_wp2_with fail
                  refine (read_dev d13 0 (by omega) (by omega)).mono ?_
                  rintro e w14 ⟨gb, rfl, bb, hgb, f14⟩
                  have lta : ga < w13.heap.size := (Array.getElem?_eq_some_iff.1 ba).1
                  have ba14 := f14.same (by simp) ba
                  have d14 := d13.kept f14 (by simp) (by simp) (by simp)
                  have g14 := g13.trans f14
                  clear f14 d13 g13
                  go_wp2_with fail
                  refine (turn_any _ ga 512 _ hX ba14).mono ?_
                  rintro e w15 ⟨rfl, ⟨cur, hcur, hcs⟩, f15⟩
                  have ltb : gb < w14.heap.size := (Array.getElem?_eq_some_iff.1 bb).1
                  have bb15 := f15.same (by simp; omega) bb
                  have d15 := d14.kept f15 (by simp; omega) (by simp; omega) (by simp; omega)
                  have hs15 := f15.size
                  have g15 : Fr [] w w15 := g14.then f15 (fun i hi hm => by simp at hm; omega)
                  clear f15 d14 g14
                  go_wp2_with fail
                  refine (read_dev d15 0 (by omega) (by omega)).mono ?_
                  rintro e w16 ⟨gc, rfl, bc, hgc, f16⟩
                  have ha16 := f16.same (by simp) hcur
                  have hb16 := f16.same (by simp) bb15
                  have g16 := g15.trans f16
                  clear f16 d15 g15
                  go_wp2_with fail
                  refine (same_any _ _ _ _ _ 512 512 512 (Blk.bytes (t := 5) hb16) bc.bytes hX hX (by omega)).mono ?_
                  rw [beq_self_eq_true]
                  rintro e w17 ⟨rfl, f17⟩
                  have ha17 := f17.same (by simp) ha16
                  have hb17 := f17.same (by simp) hb16
                  have hc17 := f17.same (by simp) bc
                  have g17 := g16.trans f17
                  have ltc : gc < w17.heap.size := (Array.getElem?_eq_some_iff.1 hc17).1
                  have LL := three_lists ha17 hb17 hc17 hcs (by rw [arr_size, hX]) (by rw [arr_size, hX]) (by omega) (by omega)
                  clear g16 f17
                  go_wp2_with fail
                  refine (Ab.apartBytes_any _ [ga, gb, gc] 3 _ _ _ _ _ LL (by omega) (by intro g hg; simp at hg ⊢; omega)).mono ?_
                  rintro e w18 ⟨rfl, f18a⟩
                  have f18 := fr_ab f18a
                  have g18 : Fr [] w w18 := (g17.alloc _).then f18 (fun i hi hm => by simp at hm; omega)
                  go_wp2_with fail
                  refine (awake_law _).mono ?_
                  rintro e w19 ⟨rfl, f19⟩
                  go_wp2_with fail
                  go_ret
                  exact ⟨rfl, g18.trans f19⟩

end Go.Proofs.Ytkenkgfohgmpnaa.C
