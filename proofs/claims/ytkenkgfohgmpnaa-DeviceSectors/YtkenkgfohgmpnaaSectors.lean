/-
  The walk of DeviceSectors.
-/
import Derived.Test.YtkenkgfohgmpnaaSect
namespace Go.Proofs.Ytkenkgfohgmpnaa
open Go.RowKit Go.Maps

set_option maxHeartbeats 400000 in
set_option maxRecDepth 100000 in
theorem sec_long (w : World) (ad fa : Option Addr) (len cap fl fc : Nat) (h : 80 < len) :
    Calls Try.prog 7 #[.slice ad len cap, .slice fa fl fc] w fun e w' => e = .returned (.bool true) ∧ Fr [] w w' := by
  have h' : (80 : Int) < (len : Int) := by omega
  go_enter Try.func7, Try.ntmps7
  go_wp2_with fail
  refine (awake_law _).mono ?_
  rintro e w1 ⟨rfl, f1⟩
  go_wp2_with fail
  go_ret
  exact ⟨rfl, f1⟩

set_option maxHeartbeats 400000 in
set_option maxRecDepth 100000 in
theorem sec_many (w : World) (ad fa : Option Addr) (len cap fl fc : Nat) (h : len ≤ 80) (hf : 1000 < fl) :
    Calls Try.prog 7 #[.slice ad len cap, .slice fa fl fc] w fun e w' => e = .returned (.bool true) ∧ Fr [] w w' := by
  have h' : ¬ (80 : Int) < (len : Int) := by omega
  have hd : decide ((80 : Int) < (len : Int)) = false := by simp; omega
  have h2 : (1000 : Int) < (fl : Int) := by omega
  go_enter Try.func7, Try.ntmps7
  go_wp2_with fail
  refine (awake_law _).mono ?_
  rintro e w1 ⟨rfl, f1⟩
  go_wp2_with fail
  go_ret
  exact ⟨rfl, f1⟩

set_option maxHeartbeats 4000000 in
set_option maxRecDepth 100000 in
theorem sec_main (w : World) (ad fa : Option Addr) (L : List DoV) (F : Fs) (len cap fl fc : Nat) (hlen : L.length = len) (hfl : F.length = fl) (h : len ≤ 80) (hf : fl ≤ 1000) (hD : DosAt w ad L) (hF : FatesAt w fa F) :
    Calls Try.prog 7 #[.slice ad len cap, .slice fa fl fc] w fun e w' => e = .returned (.bool true) ∧ Fr [] w w' := by
  have h' : ¬ (80 : Int) < (len : Int) := by omega
  have hd : decide ((80 : Int) < (len : Int)) = false := by simp; omega
  have h2 : ¬ (1000 : Int) < (fl : Int) := by omega
  have hd2 : decide ((1000 : Int) < (fl : Int)) = false := by simp; omega
  have HLen : Hid (L.length = len) := hlen
  have HFl : Hid (F.length = fl) := hfl
  clear hlen hfl
  go_enter Try.func7, Try.ntmps7
  go_wp2_with fail
  refine (awake_law _).mono ?_
  rintro e w1 ⟨rfl, f1⟩
  go_wp2_with fail
  refine (new_dev 6 _ (by omega) (by omega)).mono ?_
  rintro e w2 ⟨rfl, d2, f2⟩
  go_wp2_with fail
  have hA : w1.heap.size + 2 < w2.heap.size := d2.lt.1
  have hB := f1.size
  have f12 := f1.trans f2
  have r1 : Row6 (((w2.alloc (.cells #[.int .u8 0, .int .u8 0, .int .u8 0, .int .u8 0, .int .u8 0, .int .u8 0] 59)).alloc (.cells #[.int .u8 0, .int .u8 0, .int .u8 0, .int .u8 0, .int .u8 0, .int .u8 0] 59)).alloc (.cells #[.bool false, .bool false, .bool false, .bool false, .bool false, .bool false] 60)) w2.heap.size 59 (fun _ => .int .u8 0) :=
    (((Fr.refl [] _).alloc _).alloc _).same (by simp) (heap_alloc_new w2 _)
  have r2 : Row6 (((w2.alloc (.cells #[.int .u8 0, .int .u8 0, .int .u8 0, .int .u8 0, .int .u8 0, .int .u8 0] 59)).alloc (.cells #[.int .u8 0, .int .u8 0, .int .u8 0, .int .u8 0, .int .u8 0, .int .u8 0] 59)).alloc (.cells #[.bool false, .bool false, .bool false, .bool false, .bool false, .bool false] 60)) (w2.heap.size + 1) 59 (fun _ => .int .u8 0) :=
    ((Fr.refl [] _).alloc _).same (by simp) (heap_alloc2_new w2 _ _)
  have r3 : Row6 (((w2.alloc (.cells #[.int .u8 0, .int .u8 0, .int .u8 0, .int .u8 0, .int .u8 0, .int .u8 0] 59)).alloc (.cells #[.int .u8 0, .int .u8 0, .int .u8 0, .int .u8 0, .int .u8 0, .int .u8 0] 59)).alloc (.cells #[.bool false, .bool false, .bool false, .bool false, .bool false, .bool false] 60)) (w2.heap.size + 1 + 1) 60 (fun _ => .bool false) := by
    have := heap_alloc2_new (w2.alloc (.cells #[.int .u8 0, .int .u8 0, .int .u8 0, .int .u8 0, .int .u8 0, .int .u8 0] 59)) (.cells #[.int .u8 0, .int .u8 0, .int .u8 0, .int .u8 0, .int .u8 0, .int .u8 0] 59) (.cells #[.bool false, .bool false, .bool false, .bool false, .bool false, .bool false] 60)
    rw [show (w2.alloc (.cells #[.int .u8 0, .int .u8 0, .int .u8 0, .int .u8 0, .int .u8 0, .int .u8 0] 59)).heap.size = w2.heap.size + 1 from by simp] at this
    exact this
  have d3 := ((d2.alloc (.cells #[.int .u8 0, .int .u8 0, .int .u8 0, .int .u8 0, .int .u8 0, .int .u8 0] 59)).alloc (.cells #[.int .u8 0, .int .u8 0, .int .u8 0, .int .u8 0, .int .u8 0, .int .u8 0] 59)).alloc (.cells #[.bool false, .bool false, .bool false, .bool false, .bool false, .bool false] 60)
  have f3 := ((f12.alloc (.cells #[.int .u8 0, .int .u8 0, .int .u8 0, .int .u8 0, .int .u8 0, .int .u8 0] 59)).alloc (.cells #[.int .u8 0, .int .u8 0, .int .u8 0, .int .u8 0, .int .u8 0, .int .u8 0] 59)).alloc (.cells #[.bool false, .bool false, .bool false, .bool false, .bool false, .bool false] 60)
  generalize ((w2.alloc (.cells #[.int .u8 0, .int .u8 0, .int .u8 0, .int .u8 0, .int .u8 0, .int .u8 0] 59)).alloc (.cells #[.int .u8 0, .int .u8 0, .int .u8 0, .int .u8 0, .int .u8 0, .int .u8 0] 59)).alloc (.cells #[.bool false, .bool false, .bool false, .bool false, .bool false, .bool false] 60) = w3 at r1 r2 r3 d3 f3 ⊢
  clear d2 f12 f1 f2
  generalize w2.heap.size = A at r1 r2 r3 hA ⊢
  generalize w1.heap.size = B at hA hB d3 ⊢
  go_loopw [9] (fun i wr => ∃ j : Nat, j ≤ len ∧ i = .int .i64 j ∧ (∃ La Sa Op S O, Dev wr (B + 2) B (B + 1) 6 0 false S O ∧ Agr La Sa Op S O ∧ Row6 wr A 59 (fun k => .int .u8 (La k)) ∧ Row6 wr (A + 1) 59 (fun k => .int .u8 (Sa k)) ∧ Row6 wr (A + 1 + 1) 60 (fun k => .bool (Op k))) ∧ Fr [] w wr) (fun i _ => len - (intOf i).toNat)
  case atStart => exact ⟨0, by omega, rfl, ⟨_, _, _, _, _, d3, Agr.start, r1, r2, r3⟩, f3⟩
  case round =>
    obtain ⟨j, hj, rfl, ⟨La, Sa, Op, S, O, d, ag, q1, q2, q3⟩, fr⟩ := hrel
    clear r1 r2 r3 d3 f3
    by_cases hlt : j < len
    · have hlt' : (j : Int) < (len : Int) := by omega
      have hj0 : (0 : Int) ≤ (j : Int) := by omega
      obtain ⟨dv, hdv⟩ : ∃ dv, L[j]? = some dv := ⟨_, List.getElem?_eq_getElem (by rw [HLen.out]; exact hlt)⟩
      obtain ⟨ok, b, off, had, c0, c1, c2, c3, c4⟩ := (hD.kept fr) j dv hdv
      subst had
      have hb0 : b < w.heap.size := by
        obtain ⟨_, b', off', e', t0, _⟩ := hD j dv hdv
        simp only [Option.some.injEq, Addr.mk.injEq] at e'
        have := block_lt_of_cell t0
        simp only [← e'.1] at this
        exact this
      clear hdv
      have k0 := Int.emod_nonneg dv.block (show (6 : Int) ≠ 0 by omega)
      have k1 := Int.emod_lt_of_pos dv.block (show (0 : Int) < 6 by omega)
      obtain ⟨o0, o1⟩ := or_one_u8 dv.byte ok.b0 ok.b1
      go_wp2_with fail
      refine (pick_same _ dv.block 6 ok.block (by omega) (by omega)).mono ?_
      rintro e w5 ⟨rfl, rfl⟩
      go_wp2_with fail
      refine (pick_same _ dv.op 4 ok.op (by omega) (by omega)).mono ?_
      rintro e w5 ⟨rfl, rfl⟩
      generalize bits BinOp.or IntKind.u8 dv.byte 1 = bb at o0 o1 ⊢
      generalize dv.block % 6 = kb at k0 k1 ⊢
      obtain ⟨kk, rfl⟩ := Int.eq_ofNat_of_zero_le k0
      have kk6 : kk < 6 := by omega
      have l1 := q1.lt; have l2 := q2.lt; have l3 := q3.lt
      cases hop : (dv.op % 4 == 0)
      · go_wp2_with fail
        refine (full_any _ bb (by omega) o1).mono ?_
        rintro e w5 ⟨rfl, b5, f5⟩
        have d5 := d.kept f5 (by simp) (by simp) (by simp)
        go_wp2_with fail
        refine (write_dev d5 kk k0 k1 _ 0 _ (fullL bb) (fullL_length bb) b5.src).mono ?_
        rw [show told (crash 0) = 0 from rfl, show left 0 = 0 from rfl, show crash 0 = false from rfl]
        rintro e w6 ⟨rfl, d6, f6⟩
        have p1 := (q1.kept f5 (by simp)).kept f6 (by simp; omega)
        have p2 := (q2.kept f5 (by simp)).kept f6 (by simp; omega)
        have p3 := (q3.kept f5 (by simp)).kept f6 (by simp; omega)
        have fr6 : Fr [] w w6 := (fr.trans f5).then f6 (fun i hi hm => by simp at hm; omega)
        have ag6 := ag.write kk bb o0 o1
        clear d5 b5 f5 f6 q1 q2 q3 d ag
        have x1 := p1.cell kk kk6; have x3 := p3.cell kk kk6; have z1 := p1.frozen kk; have z3 := p3.frozen kk
        have n1 := p1.set_u8 kk bb
        have p3' : Row6 (w6.setCell ⟨A, kk, none⟩ (.int .u8 bb)) (A + 1 + 1) 60 (fun k => .bool (Op k)) := p3.kept ((Fr.refl [A] w6).setCell _ _ (by simp)) (by simp; omega)
        have n3 := p3'.set_bool kk true
        have g1 : Fr [A, A + 1 + 1] w6 ((w6.setCell ⟨A, kk, none⟩ (.int .u8 bb)).setCell ⟨A + 1 + 1, kk, none⟩ (.bool true)) := ((Fr.refl _ _).setCell _ _ (by simp)).setCell _ _ (by simp)
        go_wp2_with fail
        refine ⟨⟨j + 1, by omega, by go_num, ⟨_, Sa, _, _, _, d6.kept g1 (by simp; omega) (by simp; omega) (by simp; omega), ag6, ?_, p2.kept g1 (by simp), n3⟩, fr6.then g1 (fun i hi hm => by simp at hm; omega)⟩, by simp [intOf]; omega⟩
        exact n1.kept ((Fr.refl [A + 1 + 1] _).setCell _ _ (by simp)) (by simp; omega)
      · go_wp2_with fail
        refine (sync_dev d rfl).mono ?_
        rw [show left 0 = 0 from rfl]
        rintro e w6 ⟨rfl, d6, f6⟩
        have p1 := q1.kept f6 (by simp; omega)
        have p2 := q2.kept f6 (by simp; omega)
        have p3 := q3.kept f6 (by simp; omega)
        have fr6 : Fr [] w w6 := fr.then f6 (fun i hi hm => by simp at hm; omega)
        have ag6 := ag.sync
        clear f6 q1 q2 q3 d ag
        go_wp2_with (first
          | (refine wp_load59 rfl _ rfl A _ rfl p1 ?_)
          | (refine wp_store59 rfl _ _ rfl (A + 1) _ La rfl rfl p2 ?_; intro w7 p7 f7)
          | (refine wp_store60 rfl _ _ rfl (A + 1 + 1) _ rfl rfl (p3.kept f7 (by simp)) ?_; intro w8 p8 f8)
          | go_in)
        exact ⟨⟨j + 1, by omega, by go_num, ⟨La, La, fun _ => false, _, _, (d6.kept f7 (by simp; omega) (by simp; omega) (by simp; omega)).kept f8 (by simp; omega) (by simp; omega) (by simp; omega), ag6, (p1.kept f7 (by simp)).kept f8 (by simp; omega), p7.kept f8 (by simp), p8⟩, (fr6.then f7 (fun i hi hm => by simp at hm; omega)).then f8 (fun i hi hm => by simp at hm; omega)⟩, by simp [intOf]; omega⟩
    · obtain rfl : j = len := by omega
      clear hD
      have l1 := q1.lt; have l2 := q2.lt; have l3 := q3.lt
      have hFr := hF.kept fr (by simp)
      have hfl := HFl.out
      go_wp2_with fail
      refine (wake_len d F fa fl fc hFr hfl (by omega)).mono ?_
      rintro e w5 ⟨rfl, d5, f5⟩
      have p1 := q1.kept f5 (by simp; omega)
      have p2 := q2.kept f5 (by simp; omega)
      have p3 := q3.kept f5 (by simp; omega)
      have fr5 : Fr [] w w5 := fr.then f5 (fun i hi hm => by simp at hm; omega)
      clear d q1 q2 q3 f5 hFr fr l1 l2 l3 hfl HLen
      go_wp2_with fail
      go_loopw [12] (fun i wr => ∃ k : Nat, k ≤ 6 ∧ i = .int .i64 k ∧ Dev wr (B + 2) B (B + 1) 6 0 false (wokenAt S O F) Tab.none ∧ Row6 wr A 59 (fun k => .int .u8 (La k)) ∧ Row6 wr (A + 1) 59 (fun k => .int .u8 (Sa k)) ∧ Row6 wr (A + 1 + 1) 60 (fun k => .bool (Op k)) ∧ Fr [] w wr) (fun i _ => 6 - (intOf i).toNat)
      case atStart => exact ⟨0, by omega, rfl, d5, p1, p2, p3, fr5⟩
      case round =>
        obtain ⟨k, hk, rfl, d, q1, q2, q3, fr⟩ := hrel
        clear d5 p1 p2 p3 fr5
        by_cases hk6 : k < 6
        · have hk6' : (k : Int) < 6 := by omega
          have hk0 : (0 : Int) ≤ (k : Int) := by omega
          have hFr := hF.kept fr (by simp)
          go_wp2_with fail
          go_loop [13, 14] (fun kp i => ∃ j : Nat, j ≤ fl ∧ i = .int .i64 j ∧ kp = .int .u8 (keepOf (F.take j) k)) (fun _ i => fl - (intOf i).toNat)
          case atStart => exact ⟨0, by omega, rfl, rfl⟩
          case round =>
            obtain ⟨j, hj, rfl, rfl⟩ := hrel
            by_cases hjl : j < fl
            · have hjl' : (j : Int) < (fl : Int) := by omega
              have hj0 : (0 : Int) ≤ (j : Int) := by omega
              have hjF : j < F.length := by rw [HFl.out]; exact hjl
              obtain ⟨b, off, had, c1, c2, wf1, k0, k1⟩ := hFr j F[j] (List.getElem?_eq_getElem hjF)
              subst had
              have HK : Hid (keepOf (F.take (j + 1)) k = if F[j].1 = k then F[j].2 else keepOf (F.take j) k) := by
                show keepOf (F.take (j + 1)) k = _
                rw [List.take_succ_eq_append_getElem hjF, keepOf_snoc]
              generalize F[j] = fj at c1 c2 HK
              generalize keepOf (F.take j) k = kj at HK ⊢
              cases hc : (fj.1 == (k : Int))
              · have hne : ¬ fj.1 = (k : Int) := by simpa using hc
                have HK' : Hid (keepOf (F.take (j + 1)) k = kj) := by show keepOf (F.take (j + 1)) k = _; rw [HK.out, if_neg hne]
                clear HK hne
                go_wp2_with fail
                exact ⟨⟨j + 1, by omega, by go_num, by rw [HK'.out]⟩, by simp [intOf]; omega⟩
              · have hne : fj.1 = (k : Int) := by simpa using hc
                have HK' : Hid (keepOf (F.take (j + 1)) k = fj.2) := by show keepOf (F.take (j + 1)) k = _; rw [HK.out, if_pos hne]
                clear HK hne
                go_wp2_with fail
                exact ⟨⟨j + 1, by omega, by go_num, by rw [HK'.out]⟩, by simp [intOf]; omega⟩
            · obtain rfl : j = fl := by omega
              have hkf : F.take j = F := List.take_of_length_le (by rw [HFl.out]; omega)
              rw [hkf]
              clear hkf
              obtain ⟨kp0, kp1⟩ := hFr.range k
              have hrd := ag.read F k hk6
              go_wp2_with fail
              refine (read_dev d k hk0 hk6').mono ?_
              rw [hrd]
              rintro e w8 ⟨g, rfl, b8, hg, f8⟩
              have t1 := (q1.kept f8 (by simp)).cell k hk6
              have t2 := (q2.kept f8 (by simp)).cell k hk6
              have t3 := (q3.kept f8 (by simp)).cell k hk6
              have u1 := q1.kept f8 (by simp); have u2 := q2.kept f8 (by simp); have u3 := q3.kept f8 (by simp)
              have d8 := d.kept f8 (by simp) (by simp) (by simp)
              have fr8 := fr.trans f8
              clear hrd d q1 q2 q3 fr f8 hg hFr
              go_wp2_with fail
              obtain ⟨sa0, sa1⟩ := ag.sa k hk6
              obtain ⟨la0, la1⟩ := ag.la k hk6
              have nz := ag.nz k hk6
              generalize hlk : La k = la at t1 la0 la1 nz b8
              generalize hsk : Sa k = sa at t2 sa0 sa1 b8
              generalize hok : Op k = op at t3 nz b8
              generalize hkk : keepOf F k = kp at kp0 kp1 b8 ⊢
              clear hlk hsk hok hkk
              go_loop [17] (fun i => ∃ i' : Nat, i' ≤ 512 ∧ i = .int .i64 i') (fun i => 512 - (intOf i).toNat)
              case atStart => exact ⟨0, by omega, rfl⟩
              case round =>
                obtain ⟨i, hi, rfl⟩ := hrel
                by_cases hil : i < 512
                · have hil' : (i : Int) < 512 := by omega
                  have hi0 : (0 : Int) ≤ (i : Int) := by omega
                  have hand := and_one_u8 (kp / 2 ^ (i / 64)) (Int.ediv_nonneg kp0 (by exact Int.le_of_lt (Int.pow_pos (by omega)))) (by have := Int.ediv_le_self (2 ^ (i / 64) : Int) kp0; omega)
                  cases op
                  · have hc := base_cell sa0 sa1 i hil b8 rfl
                    clear hand
                    by_cases hz : sa = 0
                    · subst hz
                      rw [if_pos rfl] at hc
                      go_wp2_with fail
                      exact ⟨⟨i + 1, by omega, by go_num⟩, by simp [intOf]; omega⟩
                    · have hzb : (sa == 0) = false := by simpa using hz
                      rw [if_neg hz] at hc
                      go_wp2_with fail
                      exact ⟨⟨i + 1, by omega, by go_num⟩, by simp [intOf]; omega⟩
                  · rw [if_pos rfl] at b8
                    have hat := tornb_at sa la kp la0 la1 i hil
                    cases hbit : bitOf kp (i / 64)
                    · rw [hbit] at hat
                      have hc := base_cell sa0 sa1 i hil b8 hat
                      have hb : (kp / 2 ^ (i / 64) % 2 == 1) = false := hbit
                      clear hat hbit
                      by_cases hz : sa = 0
                      · subst hz
                        rw [if_pos rfl] at hc
                        go_wp2_with fail
                        exact ⟨⟨i + 1, by omega, by go_num⟩, by simp [intOf]; omega⟩
                      · have hzb : (sa == 0) = false := by simpa using hz
                        rw [if_neg hz] at hc
                        go_wp2_with fail
                        exact ⟨⟨i + 1, by omega, by go_num⟩, by simp [intOf]; omega⟩
                    · rw [hbit] at hat
                      have hc := torn_cell i b8 hat
                      have hb : (kp / 2 ^ (i / 64) % 2 == 1) = true := hbit
                      have hzb : (la == 0) = false := by simpa using nz rfl
                      clear hat hbit nz
                      go_wp2_with fail
                      exact ⟨⟨i + 1, by omega, by go_num⟩, by simp [intOf]; omega⟩
                · obtain rfl : i = 512 := by omega
                  go_wp2_with fail
                  exact ⟨⟨k + 1, by omega, by go_num, d8, u1, u2, u3, fr8⟩, by simp [intOf]; omega⟩
        · obtain rfl : k = 6 := by omega
          go_wp2_with fail
          go_ret
          exact ⟨rfl, fr⟩

end Go.Proofs.Ytkenkgfohgmpnaa
