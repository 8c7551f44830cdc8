/-
  LabelGoesOn: the walk.
-/
import Derived.Test.YtddcilmeignlmaaDoorLApp
namespace Go.Proofs.YtddcilmeignlmaaDoor
open Go.RowKit Go.Maps Go.Lib

/-- The plan: numbers in memory. -/
def PlanAt (w : World) (ad : Option Addr) (P : List Int) : Prop := ∀ (j : Nat) (x : Int), P[j]? = some x → ∃ b off, ad = some ⟨b, off, none⟩ ∧ w.cell? ⟨b, off + j, none⟩ = some (.int .i64 x)
theorem PlanAt.kept {w w' : World} {ad : Option Addr} {P : List Int} (h : PlanAt w ad P) (f : Fr [] w w') : PlanAt w' ad P := fun j x hx => by
  obtain ⟨b, off, e, hc⟩ := h j x hx
  exact ⟨b, off, e, (World.cell?_of_block (f.block b (block_lt_of_cell hc) (by simp))).trans hc⟩

theorem frA (w : World) (o : Obj) : Fr [] w (w.alloc o) := (Fr.refl _ _).alloc _
theorem ownL_lit1 {w0 w : World} (f : Fr [] w0 w) (o : Obj) : OwnL w0 ((w.alloc o).alloc (.cells #[] 22)) (.slice (some ⟨w.heap.size + 1, 0, none⟩) 0 0) 0 [] := by
  have h := ownL_lit (f.alloc o)
  rw [show (w.alloc o).heap.size = w.heap.size + 1 by simp] at h
  exact h
theorem lit_cell1 (w : World) (o : Obj) (x : Value) : ((w.alloc o).alloc (.cells #[x] 22)).cell? ⟨w.heap.size + 1, 0, none⟩ = some x := by
  have h := lit_cell (w.alloc o) x
  rw [show (w.alloc o).heap.size = w.heap.size + 1 by simp] at h
  exact h
theorem len_enc (pp : List (List Bool)) : pp.length ≤ (enc pp).length := by
  induction pp with
  | nil => simp
  | cons s r ih => rw [enc_cons, List.length_append, wr_length, List.length_cons]; omega
theorem n_zero {l : List UInt8} {pp : List (List Bool)} (L : Lab l pp) : l.length = 0 ↔ pp = [] := by
  constructor
  · intro h
    cases pp with
    | nil => rfl
    | cons s r =>
      have := lab_bytes L
      rw [enc_cons, List.length_append, wr_length] at this
      omega
  · rintro rfl
    rw [lab_bytes L]
    simp [enc]

/-- A label put into a row. -/
theorem row_done {w3 wr wb u : World} {pp : List (List Bool)} {v v' : Value} {R : List Ent} {k m : Nat} {e : Ent} {xs : List Value} (ra : RowAt w3 pp wr v R) (hb : Fr [] wr wb) (o : OwnL wb u v' m xs) (hk : k ≤ R.length) (hm : m = R.length + 1) (hx : xs = (R.map Ent.val).take k ++ [e.val] ++ (R.map Ent.val).drop k)
    (E : EntAt pp u e) (h1 : ∀ a, 0 < k → R[k - 1]? = some a → sless a.s e.s) (h2 : ∀ b, R[k]? = some b → sless e.s b.s) : RowAt w3 pp u v' (ins R k e) := by
  have hu := hb.trans o.2
  refine ⟨?_, ?_, ra.rise.ins k e hk h1 h2, ra.fr.trans hu⟩
  · rw [ins_length R k e hk, ins_map, ← hx, ← hm]
    exact o.weak
  · intro x hx
    unfold ins at hx
    simp only [List.mem_append, List.mem_singleton] at hx
    rcases hx with (hx | rfl) | hx
    · exact (ra.ents x (List.mem_of_mem_take hx)).kept hu
    · exact E
    · exact (ra.ents x (List.mem_of_mem_drop hx)).kept hu

set_option linter.unusedSimpArgs false in
set_option maxHeartbeats 60000000 in
set_option maxRecDepth 100000 in
theorem goesOn_law (w : World) (hL : Laid w) (ad : Option Addr) (n c : Nat) (l0 : List UInt8) (pp : List (List Bool)) (L : Lab l0 pp) (hl : l0.length = n) (hb : BytesAt w ad l0) (hp : Plain ad) (hc : ad = none → c = 0) (hn : n ≤ 200)
    (pa : Option Addr) (pn pc : Nat) (P : List Int) (hpl : P.length = pn) (hpn : pn ≤ 300) (hP : PlanAt w pa P) (hwf : ∀ x ∈ P, (Lit.int .i64 x).wf = true) :
    Calls Tryd.prog 4 #[.slice ad n c, .slice pa pn pc] w fun e w' => e = .returned (.bool true) ∧ Fr [] w w' := by
  have hn' : (n : Int) ≤ 200 := by omega
  have hpn' : (pn : Int) ≤ 300 := by omega
  have HL := Lib.hid L
  have HLn := Lib.hid hl
  have HPl := Lib.hid hpl
  have HW := Lib.hid hwf
  have HC := Lib.hid hc
  clear L hl hpl hwf hc
  have hcopy : ∀ w0, Fr [] w w0 → Calls Tryd.prog 13 #[.slice ad n c] w0 fun e w' => ∃ ad cap, e = .returned (.slice ad n cap) ∧ BytesAt w' ad l0 ∧ Plain ad ∧ Fr [] w0 w' := fun w0 f => by
    cases ad with
    | some a => exact copy_some w0 a n c l0 HLn.out (by omega) (hb.kept f (by simp))
    | none =>
      obtain rfl : l0 = [] := by
        cases l0 with
        | nil => rfl
        | cons x r =>
          obtain ⟨b, off, e, _⟩ := hb.at 0 (by simp)
          cases e
      have h1 := HC.out rfl
      have h2 := HLn.out
      subst h1
      subst h2
      exact copy_nil w0
  have HCo := Lib.hid hcopy
  clear hcopy
  go_enter Tryd.func4, Tryd.ntmps4
  go_wp2_with fail
  refine (awake_any _ hL).mono ?_
  rintro e w1 ⟨rfl, f1⟩
  go_wp2_with fail
  refine (right_yes _ ad n c l0 pp HL.out HLn.out (hb.kept f1 (by simp)) hp).mono ?_
  rintro e w2 ⟨rfl, f2⟩
  replace f2 := f1.trans f2
  go_wp2_with fail
  refine (HCo.out _ f2).mono ?_
  rintro e w3 ⟨ad3, cap3, rfl, b3, p3, f3⟩
  replace f3 := f2.trans f3
  clear f1 f2 HCo
  go_wp2_with fail
  have hD0 := Lib.hid (len_enc pp)
  obtain ⟨D, hD⟩ : ∃ D : Int, (pp.length : Int) = D := ⟨_, rfl⟩
  have HD := Lib.hid hD
  have hDb : 0 ≤ D ∧ D ≤ 2000 := by
    have h1 := HL.out.most
    have h2 := hD0.out
    omega
  obtain ⟨hDb0, hDb1⟩ := hDb
  clear hD
  go_loopw [6, 7] (fun v i wr => ∃ (j : Nat) (R : List Ent), j ≤ pn ∧ i = .int .i64 j ∧ R.length = j ∧ RowAt w3 pp wr v R ∧ (j = 0 → v = .slice none 0 0)) (fun _ i _ => pn - (RowKit.intOf i).toNat)
  case atStart => exact ⟨0, [], by omega, rfl, rfl, ⟨World.ownsRow_nil _ _ _ _, (fun e he => by cases he), (fun i a b ha => by rw [List.getElem?_nil] at ha; cases ha), Fr.refl _ _⟩, fun _ => rfl⟩
  case round =>
    obtain ⟨j, R, hj, rfl, hR, ra, hv0⟩ := hrel
    have HV0 := Lib.hid hv0
    clear hv0
    have HR := Lib.hid hR
    clear hR
    by_cases hlt : j < pn
    · have hlt' : (j : Int) < (pn : Int) := by omega
      have hj0 : (0 : Int) ≤ (j : Int) := by omega
      have hj3 : (j : Int) < 300 := by omega
      have gP : j < P.length := by rw [HPl.out]; exact hlt
      obtain ⟨pb, po, epa, qx⟩ := (hP.kept (f3.trans ra.fr)) j P[j] (List.getElem?_eq_getElem gP)
      subst epa
      have HWx := Lib.hid (HW.out P[j] (List.getElem_mem gP))
      obtain ⟨x, hx⟩ : ∃ x, P[j] = x := ⟨_, rfl⟩
      rw [hx] at qx HWx
      clear hx
      obtain ⟨k, hk, hkj⟩ : ∃ k : Nat, x % ((j : Int) + 1) = (k : Int) ∧ k ≤ j := by
        have h1 := Int.emod_nonneg x (show (j : Int) + 1 ≠ 0 by omega)
        have h2 := Int.emod_lt_of_pos x (show (0 : Int) < (j : Int) + 1 by omega)
        exact ⟨(x % ((j : Int) + 1)).toNat, by omega, by omega⟩
      have HKe := Lib.hid hk
      clear hk
      by_cases hjz : j = 0
      · have hv := HV0.out hjz
        subst hv
        have HR0 := Lib.hid (show R = [] from List.eq_nil_of_length_eq_zero (by rw [HR.out]; exact hjz))
        have HJZ := Lib.hid hjz
        have hj9 : (j : Int) ≤ 0 := by omega
        have HKe : Hid (x % 1 = 0) := by show x % 1 = 0; omega
        clear hjz
        as_aux_lemma =>
          go_wp2_with fail
          refine (pick_any _ x (1) HWx.out (by omega) (by omega)).mono ?_
          rw [HKe.out]
          rintro e wz ⟨rfl, hwz⟩
          have hwz2 := hwz.symm
          subst hwz2
          clear hwz
          have b3w := b3.kept ra.fr (by simp)
          have NA := Lib.hid (show Nb pp 0 [] [] from Or.inl ⟨rfl, rfl⟩)
          have NB := Lib.hid (show Nb pp 0 [] [] from Or.inl ⟨rfl, rfl⟩)
          obtain ⟨kk, hkk, hpt⟩ := parts_ex ([] : List Bool) ([] : List Bool)
          have HNO := Lib.hid (parts_nought hpt (Or.inl rfl))
          have hk19 : kk ≤ 1900 := by
            have h := hkk
            try simp only [List.length_nil] at h
            omega
          have HKK := Lib.hid hkk
          have HPT := Lib.hid hpt
          clear hkk hpt
          go_wp2_with fail
          refine (between_ok _ ad3 none none n 0 0 cap3 0 0 l0 [] [] HLn.out rfl rfl b3w (BytesAt.nil _ _) (BytesAt.nil _ _) p3 (Or.inl rfl) (Or.inl rfl) pp HL.out [] [] NA.out NB.out (fun h _ => absurd rfl h) kk HPT.out hk19).mono ?_
          rintro e w4 ⟨v4, en, rfl, hen, f4⟩
          rcases hen with ⟨rfl, l, Ll, o4⟩ | ⟨rfl, rfl, herr⟩
          rotate_left
          · have HER := Lib.hid (go_err (l1 := []) (l2 := []) (n1 := 0) (n2 := 0) HL.out HLn.out rfl rfl NA.out NB.out HKK.out herr)
            clear herr
            go_wp2_with fail
            all_goals
              go_ret
              refine ⟨?_, (f3.trans ra.fr).trans f4⟩
              have her := HER.out
              first | rfl | (congr 2; simp; omega)
          obtain ⟨ad4, cap4, rfl, b4, p4⟩ := o4.use
          have hpos := lab_pos Ll
          obtain ⟨nl, hnl⟩ : ∃ m, l.length = m := ⟨_, rfl⟩
          have HNL := Lib.hid hnl
          rw [hnl] at hpos ⊢
          have HLEN := Lib.hid (go_len (l1 := []) (l2 := []) (n1 := 0) (n2 := 0) HL.out HLn.out rfl rfl NA.out NB.out HKK.out Ll)
          obtain ⟨mid, hmid⟩ : ∃ mid, preS ([] : List Bool) kk ++ [true] = mid := ⟨_, rfl⟩
          rw [hmid] at Ll
          have HLl := Lib.hid Ll
          clear hnl Ll o4 hmid
          go_wp2_with fail
          refine (parent_yes _ ad4 nl cap4 l (pp ++ [mid]) HLl.out HNL.out b4 p4 (by simp)).mono ?_
          rintro e w5 ⟨v5, l5, rfl, L5, o5, f5⟩
          rw [List.dropLast_concat] at L5
          obtain ⟨ad5, cap5, rfl, b5, p5⟩ := o5.use
          rw [lab_same L5 HL.out] at b5 ⊢
          rw [HLn.out]
          clear L5 o5
          have h5 := f4.trans f5
          have q4 := b4.kept f5 (by simp)
          go_wp2_with fail
          refine (same_any _ _ _ l0 l0 n _ _ b5 (b3w.kept h5 (by simp)) HLn.out HLn.out (by omega)).mono ?_
          rw [show (l0 == l0) = true by simp]
          rintro e w6 ⟨rfl, f6⟩
          have h6 := h5.trans f6
          replace q4 := q4.kept f6 (by simp)
          go_wp2_with fail
          refine (right_yes _ ad4 nl cap4 l (pp ++ [mid]) HLl.out HNL.out q4 p4).mono ?_
          rintro e w7 ⟨rfl, f7⟩
          have h7 := h6.trans f7
          replace q4 := q4.kept f7 (by simp)
          go_wp2_with fail
          refine (level_yes _ ad4 nl cap4 l (pp ++ [mid]) HLl.out HNL.out q4 p4).mono ?_
          rw [show (((pp ++ [mid]).length : Nat) : Int) = (pp.length : Int) + 1 by simp, HD.out]
          rintro e w8 ⟨rfl, f8⟩
          have h8 := h7.trans f8
          replace q4 := q4.kept f8 (by simp)
          go_wp2_with fail
          refine (level_yes _ ad3 n cap3 l0 pp HL.out HLn.out (b3w.kept h8 (by simp)) p3).mono ?_
          rw [HD.out]
          rintro e w9 ⟨rfl, f9⟩
          have h9 := h8.trans f9
          replace q4 := q4.kept f9 (by simp)
          have hD1 : ((D + 1) != (D + 1)) = false := by simp
          go_wp2_with fail
          refine (above_yes _ ad3 ad4 n nl cap3 cap4 l0 l pp (pp ++ [mid]) HL.out HLl.out HLn.out HNL.out (b3w.kept h9 (by simp)) q4 p3 p4).mono ?_
          rw [abv_kid]
          rintro e wa ⟨rfl, fa⟩
          have ha := h9.trans fa
          replace q4 := q4.kept fa (by simp)
          clear f4 f5 f6 f7 f8 f9 fa h5 h6 h7 h8 h9 b5 b4 hD1
          have b3a := b3w.kept ha (by simp)
          go_wp2_with fail
          refine (compareL_any _ ad3 ad4 n nl cap3 cap4 l0 l HLn.out HNL.out b3a q4).mono ?_
          rw [parent_less HL.out HLl.out (by simp)]
          rintro e wz ⟨rfl, hz⟩
          subst hz
          by_cases hz : n = 0
          · have hz' : (n : Int) ≤ 0 := by omega
            have hzz : ¬ (0 : Int) < (n : Int) := by omega
            have HZ := Lib.hid hz
            clear hz
            obtain ⟨wb, hwb⟩ : ∃ wb, wb = wa := ⟨_, rfl⟩
            have hb' : Fr [] wr wb := by rw [hwb]; exact ha
            have q4b : BytesAt wb ad4 l := by rw [hwb]; exact q4
            rw [← hwb]
            clear hwb
            obtain ⟨M1, hM1⟩ : ∃ M : Int, (if 0 < 0 then (0 : Int) else (0 : Int)) = M := ⟨_, rfl⟩
            obtain ⟨M2, hM2⟩ : ∃ M : Int, (if M1 < (n : Int) + 1 then (n : Int) + 1 else M1) = M := ⟨_, rfl⟩
            have hM3 : (nl : Int) ≤ M2 + 1 := by
              have h := HLEN.out
              rw [HNL.out] at h
              rw [← hM2, ← hM1]
              split <;> split <;> omega
            have hM4 : ¬ M2 + 1 < (nl : Int) := by omega
            go_wp2_with fail
            all_goals
              have fd : Fr [] wb wb.drew := (Fr.refl _ _).drew
              clear hM1 hM2 hM3 hM4
              go_region_held3 (fun _ => True) (trivial)
                (first
                  | (refine op_appNone _ _ rfl (.slice (some ⟨wb.heap.size, 0, none⟩) 0 0) 0 [] rfl (by first | exact (ownL_lit fd).weak | exact ((ownL_lit fd).kept (frA _ _)).weak | exact (ownL_lit1 fd _).weak) rfl ?_)
                  | (refine op_appNone _ _ rfl (.slice (some ⟨wb.heap.size + 1, 0, none⟩) 0 0) 0 [] rfl (by first | exact (ownL_lit fd).weak | exact ((ownL_lit fd).kept (frA _ _)).weak | exact (ownL_lit1 fd _).weak) rfl ?_)
                  | (refine op_appLF _ _ rfl wb (.slice (some ⟨wb.heap.size, 0, none⟩) 0 0) 0 [] rfl ((ownL_lit fd).kept (frA _ _)) _ 1 _ [.slice ad4 nl cap4] rfl rfl (one_src (lit_cell1 wb.drew _ _)) (by simp [Value.oneCell']) (by omega) ?_; intro v3 u3 o3 x3)
                  | (refine op_appLF _ _ rfl wb (.slice (some ⟨wb.heap.size + 1, 0, none⟩) 0 0) 0 [] rfl (ownL_lit1 fd _) _ 1 _ [.slice ad4 nl cap4] rfl rfl (one_src (cell_fr (lit_cell wb.drew _) (frA _ _) (by simp))) (by simp [Value.oneCell']) (by omega) ?_; intro v3 u3 o3 x3)
                  | (refine op_appNone _ _ rfl v3 (0 + 1) _ rfl o3.weak rfl ?_))
              all_goals
                go_wp2_with fail
                refine ⟨⟨j + 1, ins R 0 ⟨ad4, nl, cap4, l, mid⟩, by omega, by go_num, by rw [ins_length R 0 _ (by rw [HR.out]; omega), HR.out], ?_, fun h => absurd h (by omega)⟩, by simp [RowKit.intOf]; omega⟩
                exact row_done (e := ⟨ad4, nl, cap4, l, mid⟩) ra hb' o3 (by rw [HR.out]; omega) (by rw [HR.out]; omega) (by rw [HR0.out]; simp [Ent.val]) ⟨HNL.out, hpos, q4b.kept o3.2 (by simp), p4, HLl.out⟩ (fun a h _ => absurd h (by omega)) (fun b hb2 => by rw [List.getElem?_eq_none (by rw [HR.out]; omega)] at hb2; cases hb2)
          · have hz' : (0 : Int) < (n : Int) := by omega
            have hpp : pp ≠ [] := fun e => hz (by rw [← HLn.out]; exact (n_zero HL.out).2 e)
            go_wp2_with fail
            refine (after_yes _ ad3 n cap3 l0 pp HL.out HLn.out b3a p3 hpp).mono ?_
            rintro e wb ⟨vb, lb, rfl, Rb, ob, fb⟩
            obtain ⟨adb, capb, rfl, bb, pb'⟩ := ob.use
            obtain ⟨nb, hnb⟩ : ∃ m, lb.length = m := ⟨_, rfl⟩
            have HNB := Lib.hid hnb
            rw [hnb]
            clear hnb ob
            have hb' := ha.trans fb
            have q4b := q4.kept fb (by simp)
            go_wp2_with fail
            refine (compareL_any _ ad4 adb nl nb cap4 capb l lb HNL.out HNB.out q4b bb).mono ?_
            rw [end_less hpp HLl.out Rb]
            rintro e wz ⟨rfl, hz2⟩
            subst hz2
            obtain ⟨M1, hM1⟩ : ∃ M : Int, (if 0 < 0 then (0 : Int) else (0 : Int)) = M := ⟨_, rfl⟩
            obtain ⟨M2, hM2⟩ : ∃ M : Int, (if M1 < (n : Int) + 1 then (n : Int) + 1 else M1) = M := ⟨_, rfl⟩
            have hM3 : (nl : Int) ≤ M2 + 1 := by
              have h := HLEN.out
              rw [HNL.out] at h
              rw [← hM2, ← hM1]
              split <;> split <;> omega
            have hM4 : ¬ M2 + 1 < (nl : Int) := by omega
            go_wp2_with fail
            all_goals
              have fd : Fr [] wb wb.drew := (Fr.refl _ _).drew
              clear hM1 hM2 hM3 hM4
              go_region_held3 (fun _ => True) (trivial)
                (first
                  | (refine op_appNone _ _ rfl (.slice (some ⟨wb.heap.size, 0, none⟩) 0 0) 0 [] rfl (by first | exact (ownL_lit fd).weak | exact ((ownL_lit fd).kept (frA _ _)).weak | exact (ownL_lit1 fd _).weak) rfl ?_)
                  | (refine op_appNone _ _ rfl (.slice (some ⟨wb.heap.size + 1, 0, none⟩) 0 0) 0 [] rfl (by first | exact (ownL_lit fd).weak | exact ((ownL_lit fd).kept (frA _ _)).weak | exact (ownL_lit1 fd _).weak) rfl ?_)
                  | (refine op_appLF _ _ rfl wb (.slice (some ⟨wb.heap.size, 0, none⟩) 0 0) 0 [] rfl ((ownL_lit fd).kept (frA _ _)) _ 1 _ [.slice ad4 nl cap4] rfl rfl (one_src (lit_cell1 wb.drew _ _)) (by simp [Value.oneCell']) (by omega) ?_; intro v3 u3 o3 x3)
                  | (refine op_appLF _ _ rfl wb (.slice (some ⟨wb.heap.size + 1, 0, none⟩) 0 0) 0 [] rfl (ownL_lit1 fd _) _ 1 _ [.slice ad4 nl cap4] rfl rfl (one_src (cell_fr (lit_cell wb.drew _) (frA _ _) (by simp))) (by simp [Value.oneCell']) (by omega) ?_; intro v3 u3 o3 x3)
                  | (refine op_appNone _ _ rfl v3 (0 + 1) _ rfl o3.weak rfl ?_))
              all_goals
                go_wp2_with fail
                refine ⟨⟨j + 1, ins R 0 ⟨ad4, nl, cap4, l, mid⟩, by omega, by go_num, by rw [ins_length R 0 _ (by rw [HR.out]; omega), HR.out], ?_, fun h => absurd h (by omega)⟩, by simp [RowKit.intOf]; omega⟩
                exact row_done (e := ⟨ad4, nl, cap4, l, mid⟩) ra hb' o3 (by rw [HR.out]; omega) (by rw [HR.out]; omega) (by rw [HR0.out]; simp [Ent.val]) ⟨HNL.out, hpos, q4b.kept o3.2 (by simp), p4, HLl.out⟩ (fun a h _ => absurd h (by omega)) (fun b hb2 => by rw [List.getElem?_eq_none (by rw [HR.out]; omega)] at hb2; cases hb2)
      · obtain ⟨g, cap, rfl, hcap, hcells⟩ := ra.open (by rw [HR.out]; omega)
        rw [HR.out] at hcap ⊢
        have HCE := Lib.hid hcells
        clear hcells
        have hcap' : (j : Int) ≤ (cap : Int) := by omega
        have hcz : ¬ cap = 0 := by omega
        have hjp : (0 : Int) < (j : Int) := by omega
        by_cases hk0 : k = 0
        · have HKe : Hid (x % ((j : Int) + 1) = 0) := by show x % ((j : Int) + 1) = 0; have := HKe.out; omega
          obtain ⟨eb, heb⟩ : ∃ e, R[0]? = some e := ⟨R[0]'(by rw [HR.out]; omega), List.getElem?_eq_getElem _⟩
          clear hk0 hkj
          as_aux_lemma =>
            go_wp2_with fail
            refine (pick_any _ x ((j : Int) + 1) HWx.out (by omega) (by omega)).mono ?_
            rw [HKe.out]
            rintro e wz ⟨rfl, hwz⟩
            have hwz2 := hwz.symm
            subst hwz2
            clear hwz
            have b3w := b3.kept ra.fr (by simp)
            have NA := Lib.hid (show Nb pp 0 [] [] from Or.inl ⟨rfl, rfl⟩)
            obtain ⟨a2, n2, c2, l2, up⟩ := eb
            have EB := ra.ents _ (List.mem_of_getElem? heb)
            have qb : World.cell? _ _ = some (.slice a2 n2 c2) := HCE.out _ _ (by rw [List.getElem?_map, heb]; rfl)
            have HEB := Lib.hid heb
            have n2p : (0 : Int) < (n2 : Int) := by have := EB.pos; simp only at this; omega
            have n2q : ¬ n2 = 0 := by have := EB.pos; simp only at this; omega
            have NB := Lib.hid (show Nb pp n2 l2 up from Or.inr ⟨n2q, EB.lab⟩)
            have lB := Lib.hid (show l2.length = n2 from EB.len)
            have m2 : n2 ≤ 128 := by rw [← lB.out]; exact lab_len EB.lab
            clear heb
            obtain ⟨kk, hkk, hpt⟩ := parts_ex ([] : List Bool) up
            have HNO := Lib.hid (parts_nought hpt (Or.inl rfl))
            have hup : up.length ≤ 600 := by have h1 := EB.lab.most; rw [enc_kid] at h1; simp only at h1; omega
            have hk19 : kk ≤ 1900 := by
              have h := hkk
              try simp only [List.length_nil] at h
              omega
            have HKK := Lib.hid hkk
            have HPT := Lib.hid hpt
            clear hkk hpt
            clear hup
            go_wp2_with fail
            refine (between_ok _ ad3 none a2 n 0 n2 cap3 0 c2 l0 [] l2 HLn.out rfl lB.out b3w (BytesAt.nil _ _) EB.bytes p3 (Or.inl rfl) EB.plain pp HL.out [] up NA.out NB.out (fun h _ => absurd rfl h) kk HPT.out hk19).mono ?_
            rintro e w4 ⟨v4, en, rfl, hen, f4⟩
            rcases hen with ⟨rfl, l, Ll, o4⟩ | ⟨rfl, rfl, herr⟩
            rotate_left
            · have HER := Lib.hid (go_err (l1 := []) (l2 := l2) (n1 := 0) (n2 := n2) HL.out HLn.out rfl lB.out NA.out NB.out HKK.out herr)
              clear herr
              go_wp2_with fail
              all_goals
                go_ret
                refine ⟨?_, (f3.trans ra.fr).trans f4⟩
                have her := HER.out
                first | rfl | (congr 2; simp; omega)
            obtain ⟨ad4, cap4, rfl, b4, p4⟩ := o4.use
            have hpos := lab_pos Ll
            obtain ⟨nl, hnl⟩ : ∃ m, l.length = m := ⟨_, rfl⟩
            have HNL := Lib.hid hnl
            rw [hnl] at hpos ⊢
            have HLEN := Lib.hid (go_len (l1 := []) (l2 := l2) (n1 := 0) (n2 := n2) HL.out HLn.out rfl lB.out NA.out NB.out HKK.out Ll)
            obtain ⟨mid, hmid⟩ : ∃ mid, preS ([] : List Bool) kk ++ [true] = mid := ⟨_, rfl⟩
            have HSB := Lib.hid (show sless mid up by rw [← hmid]; exact mid_below HPT.out HNO.out (EB.lab.ok up (by simp)))
            rw [hmid] at Ll
            have HLl := Lib.hid Ll
            clear hnl Ll o4 hmid
            go_wp2_with fail
            refine (parent_yes _ ad4 nl cap4 l (pp ++ [mid]) HLl.out HNL.out b4 p4 (by simp)).mono ?_
            rintro e w5 ⟨v5, l5, rfl, L5, o5, f5⟩
            rw [List.dropLast_concat] at L5
            obtain ⟨ad5, cap5, rfl, b5, p5⟩ := o5.use
            rw [lab_same L5 HL.out] at b5 ⊢
            rw [HLn.out]
            clear L5 o5
            have h5 := f4.trans f5
            have q4 := b4.kept f5 (by simp)
            go_wp2_with fail
            refine (same_any _ _ _ l0 l0 n _ _ b5 (b3w.kept h5 (by simp)) HLn.out HLn.out (by omega)).mono ?_
            rw [show (l0 == l0) = true by simp]
            rintro e w6 ⟨rfl, f6⟩
            have h6 := h5.trans f6
            replace q4 := q4.kept f6 (by simp)
            go_wp2_with fail
            refine (right_yes _ ad4 nl cap4 l (pp ++ [mid]) HLl.out HNL.out q4 p4).mono ?_
            rintro e w7 ⟨rfl, f7⟩
            have h7 := h6.trans f7
            replace q4 := q4.kept f7 (by simp)
            go_wp2_with fail
            refine (level_yes _ ad4 nl cap4 l (pp ++ [mid]) HLl.out HNL.out q4 p4).mono ?_
            rw [show (((pp ++ [mid]).length : Nat) : Int) = (pp.length : Int) + 1 by simp, HD.out]
            rintro e w8 ⟨rfl, f8⟩
            have h8 := h7.trans f8
            replace q4 := q4.kept f8 (by simp)
            go_wp2_with fail
            refine (level_yes _ ad3 n cap3 l0 pp HL.out HLn.out (b3w.kept h8 (by simp)) p3).mono ?_
            rw [HD.out]
            rintro e w9 ⟨rfl, f9⟩
            have h9 := h8.trans f9
            replace q4 := q4.kept f9 (by simp)
            have hD1 : ((D + 1) != (D + 1)) = false := by simp
            go_wp2_with fail
            refine (above_yes _ ad3 ad4 n nl cap3 cap4 l0 l pp (pp ++ [mid]) HL.out HLl.out HLn.out HNL.out (b3w.kept h9 (by simp)) q4 p3 p4).mono ?_
            rw [abv_kid]
            rintro e wa ⟨rfl, fa⟩
            have ha := h9.trans fa
            replace q4 := q4.kept fa (by simp)
            clear f4 f5 f6 f7 f8 f9 fa h5 h6 h7 h8 h9 b5 b4 hD1
            have b3a := b3w.kept ha (by simp)
            go_wp2_with fail
            refine (compareL_any _ ad4 a2 nl n2 cap4 c2 l l2 HNL.out lB.out q4 (EB.bytes.kept ha (by simp))).mono ?_
            rw [kids_less HLl.out EB.lab HSB.out]
            rintro e wz ⟨rfl, hz⟩
            subst hz
            go_wp2_with fail
            refine (compareL_any _ ad3 ad4 n nl cap3 cap4 l0 l HLn.out HNL.out b3a q4).mono ?_
            rw [parent_less HL.out HLl.out (by simp)]
            rintro e wz ⟨rfl, hz⟩
            subst hz
            by_cases hz : n = 0
            · have hz' : (n : Int) ≤ 0 := by omega
              have hzz : ¬ (0 : Int) < (n : Int) := by omega
              have HZ := Lib.hid hz
              clear hz
              obtain ⟨wb, hwb⟩ : ∃ wb, wb = wa := ⟨_, rfl⟩
              have hb' : Fr [] wr wb := by rw [hwb]; exact ha
              have q4b : BytesAt wb ad4 l := by rw [hwb]; exact q4
              rw [← hwb]
              clear hwb
              obtain ⟨M1, hM1⟩ : ∃ M : Int, (if 0 < n2 then (n2 : Int) else (0 : Int)) = M := ⟨_, rfl⟩
              obtain ⟨M2, hM2⟩ : ∃ M : Int, (if M1 < (n : Int) + 1 then (n : Int) + 1 else M1) = M := ⟨_, rfl⟩
              have hM3 : (nl : Int) ≤ M2 + 1 := by
                have h := HLEN.out
                rw [HNL.out] at h
                rw [← hM2, ← hM1]
                split <;> split <;> omega
              have hM4 : ¬ M2 + 1 < (nl : Int) := by omega
              go_wp2_with fail
              all_goals
                have fd : Fr [] wb wb.drew := (Fr.refl _ _).drew
                clear hM1 hM2 hM3 hM4
                have HCW : Hid (∀ w', Fr [] wb w' → ∀ i u, (R.map Ent.val)[i]? = some u → w'.cell? ⟨g, i, none⟩ = some u) := fun w' f i u hu => cell_fr (HCE.out i u hu) (hb'.trans f) (by simp)
                have lk := Lib.hid (show ((R.map Ent.val).take 0).length = 0 by rw [List.length_take, List.length_map, HR.out]; omega)
                have ld := Lib.hid (show ((R.map Ent.val).drop 0).length = j by rw [List.length_drop, List.length_map, HR.out]; omega)
                have od := Lib.hid (fun u (hu : u ∈ (R.map Ent.val).drop 0) => vals_one R u (List.mem_of_mem_drop hu))
                have ot := Lib.hid (fun u (hu : u ∈ (R.map Ent.val).take 0) => vals_one R u (List.mem_of_mem_take hu))
                go_region_held3 (fun _ => True) (trivial)
                  (first
                    | (refine op_appLF _ _ rfl wb (.slice (some ⟨wb.heap.size, 0, none⟩) 0 0) 0 [] rfl (by first | exact ownL_lit fd | exact (ownL_lit fd).kept (frA _ _)) ⟨g, 0, none⟩ 0 _ ((R.map Ent.val).take 0) rfl lk.out (src_head (HCW.out _ (by first | exact fd.alloc _ | exact (fd.alloc _).alloc _))) ot.out (by omega) ?_; intro v1 u1 o1 x1)
                    | (refine op_appLF _ _ rfl wb (.slice (some ⟨wb.heap.size + 1, 0, none⟩) 0 0) 0 [] rfl (ownL_lit1 fd _) ⟨g, 0, none⟩ 0 _ ((R.map Ent.val).take 0) rfl lk.out (src_head (HCW.out _ (by first | exact fd.alloc _ | exact (fd.alloc _).alloc _))) ot.out (by omega) ?_; intro v1 u1 o1 x1)
                    | (refine op_appLF _ _ rfl wb _ (0 + 0) _ rfl (by first | exact o1 | exact o1.kept (frA _ _)) _ 1 _ [.slice ad4 nl cap4] rfl rfl (one_src (by first | exact lit_cell _ _ | exact cell_fr (lit_cell1 wb.drew _ _) x1 (by simp [Value.ownBlock]) | exact cell_fr (cell_fr (lit_cell wb.drew _) (frA _ _) (by simp)) x1 (by simp [Value.ownBlock]))) (by simp [Value.oneCell']) (by omega) ?_; intro v2 u2 o2 x2)
                    | (refine op_appLF _ _ rfl wb _ (0 + 0 + 1) _ rfl o2 ⟨g, 0, none⟩ (j) _ ((R.map Ent.val).drop 0) rfl ld.out (src_tail (HCW.out _ o2.2)) od.out (by omega) ?_; intro v3 u3 o3 x3))
                all_goals
                  go_wp2_with fail
                  refine ⟨⟨j + 1, ins R 0 ⟨ad4, nl, cap4, l, mid⟩, by omega, by go_num, by rw [ins_length R 0 _ (by rw [HR.out]; omega), HR.out], ?_, fun h => absurd h (by omega)⟩, by simp [RowKit.intOf]; omega⟩
                  exact row_done (e := ⟨ad4, nl, cap4, l, mid⟩) ra hb' o3 (by rw [HR.out]; omega) (by rw [HR.out]; omega) (by simp [Ent.val]) ⟨HNL.out, hpos, q4b.kept o3.2 (by simp), p4, HLl.out⟩ (fun a h _ => absurd h (by omega)) (fun b hb2 => by rw [HEB.out] at hb2; cases hb2; exact HSB.out)
            · have hz' : (0 : Int) < (n : Int) := by omega
              have hpp : pp ≠ [] := fun e => hz (by rw [← HLn.out]; exact (n_zero HL.out).2 e)
              go_wp2_with fail
              refine (after_yes _ ad3 n cap3 l0 pp HL.out HLn.out b3a p3 hpp).mono ?_
              rintro e wb ⟨vb, lb, rfl, Rb, ob, fb⟩
              obtain ⟨adb, capb, rfl, bb, pb'⟩ := ob.use
              obtain ⟨nb, hnb⟩ : ∃ m, lb.length = m := ⟨_, rfl⟩
              have HNB := Lib.hid hnb
              rw [hnb]
              clear hnb ob
              have hb' := ha.trans fb
              have q4b := q4.kept fb (by simp)
              go_wp2_with fail
              refine (compareL_any _ ad4 adb nl nb cap4 capb l lb HNL.out HNB.out q4b bb).mono ?_
              rw [end_less hpp HLl.out Rb]
              rintro e wz ⟨rfl, hz2⟩
              subst hz2
              obtain ⟨M1, hM1⟩ : ∃ M : Int, (if 0 < n2 then (n2 : Int) else (0 : Int)) = M := ⟨_, rfl⟩
              obtain ⟨M2, hM2⟩ : ∃ M : Int, (if M1 < (n : Int) + 1 then (n : Int) + 1 else M1) = M := ⟨_, rfl⟩
              have hM3 : (nl : Int) ≤ M2 + 1 := by
                have h := HLEN.out
                rw [HNL.out] at h
                rw [← hM2, ← hM1]
                split <;> split <;> omega
              have hM4 : ¬ M2 + 1 < (nl : Int) := by omega
              go_wp2_with fail
              all_goals
                have fd : Fr [] wb wb.drew := (Fr.refl _ _).drew
                clear hM1 hM2 hM3 hM4
                have HCW : Hid (∀ w', Fr [] wb w' → ∀ i u, (R.map Ent.val)[i]? = some u → w'.cell? ⟨g, i, none⟩ = some u) := fun w' f i u hu => cell_fr (HCE.out i u hu) (hb'.trans f) (by simp)
                have lk := Lib.hid (show ((R.map Ent.val).take 0).length = 0 by rw [List.length_take, List.length_map, HR.out]; omega)
                have ld := Lib.hid (show ((R.map Ent.val).drop 0).length = j by rw [List.length_drop, List.length_map, HR.out]; omega)
                have od := Lib.hid (fun u (hu : u ∈ (R.map Ent.val).drop 0) => vals_one R u (List.mem_of_mem_drop hu))
                have ot := Lib.hid (fun u (hu : u ∈ (R.map Ent.val).take 0) => vals_one R u (List.mem_of_mem_take hu))
                go_region_held3 (fun _ => True) (trivial)
                  (first
                    | (refine op_appLF _ _ rfl wb (.slice (some ⟨wb.heap.size, 0, none⟩) 0 0) 0 [] rfl (by first | exact ownL_lit fd | exact (ownL_lit fd).kept (frA _ _)) ⟨g, 0, none⟩ 0 _ ((R.map Ent.val).take 0) rfl lk.out (src_head (HCW.out _ (by first | exact fd.alloc _ | exact (fd.alloc _).alloc _))) ot.out (by omega) ?_; intro v1 u1 o1 x1)
                    | (refine op_appLF _ _ rfl wb (.slice (some ⟨wb.heap.size + 1, 0, none⟩) 0 0) 0 [] rfl (ownL_lit1 fd _) ⟨g, 0, none⟩ 0 _ ((R.map Ent.val).take 0) rfl lk.out (src_head (HCW.out _ (by first | exact fd.alloc _ | exact (fd.alloc _).alloc _))) ot.out (by omega) ?_; intro v1 u1 o1 x1)
                    | (refine op_appLF _ _ rfl wb _ (0 + 0) _ rfl (by first | exact o1 | exact o1.kept (frA _ _)) _ 1 _ [.slice ad4 nl cap4] rfl rfl (one_src (by first | exact lit_cell _ _ | exact cell_fr (lit_cell1 wb.drew _ _) x1 (by simp [Value.ownBlock]) | exact cell_fr (cell_fr (lit_cell wb.drew _) (frA _ _) (by simp)) x1 (by simp [Value.ownBlock]))) (by simp [Value.oneCell']) (by omega) ?_; intro v2 u2 o2 x2)
                    | (refine op_appLF _ _ rfl wb _ (0 + 0 + 1) _ rfl o2 ⟨g, 0, none⟩ (j) _ ((R.map Ent.val).drop 0) rfl ld.out (src_tail (HCW.out _ o2.2)) od.out (by omega) ?_; intro v3 u3 o3 x3))
                all_goals
                  go_wp2_with fail
                  refine ⟨⟨j + 1, ins R 0 ⟨ad4, nl, cap4, l, mid⟩, by omega, by go_num, by rw [ins_length R 0 _ (by rw [HR.out]; omega), HR.out], ?_, fun h => absurd h (by omega)⟩, by simp [RowKit.intOf]; omega⟩
                  exact row_done (e := ⟨ad4, nl, cap4, l, mid⟩) ra hb' o3 (by rw [HR.out]; omega) (by rw [HR.out]; omega) (by simp [Ent.val]) ⟨HNL.out, hpos, q4b.kept o3.2 (by simp), p4, HLl.out⟩ (fun a h _ => absurd h (by omega)) (fun b hb2 => by rw [HEB.out] at hb2; cases hb2; exact HSB.out)
        · by_cases hkj2 : k = j
          · have HKe : Hid (x % ((j : Int) + 1) = (j : Int)) := by show x % ((j : Int) + 1) = (j : Int); have := HKe.out; omega
            obtain ⟨q, hq⟩ : ∃ q, j = q + 1 := ⟨j - 1, by omega⟩
            obtain ⟨ea, hea⟩ : ∃ e, R[q]? = some e := ⟨R[q]'(by rw [HR.out]; omega), List.getElem?_eq_getElem _⟩
            have k3 : (j : Int) - 1 = (q : Int) := by omega
            have k4 : (0 : Int) ≤ (q : Int) := by omega
            have k5 : (q : Int) < (j : Int) := by omega
            have HQ := Lib.hid hq
            clear hq hk0 hkj2 hkj
            as_aux_lemma =>
              go_wp2_with fail
              refine (pick_any _ x ((j : Int) + 1) HWx.out (by omega) (by omega)).mono ?_
              rw [HKe.out]
              rintro e wz ⟨rfl, hwz⟩
              have hwz2 := hwz.symm
              subst hwz2
              clear hwz
              have b3w := b3.kept ra.fr (by simp)
              obtain ⟨a1, n1, c1, l1, lo⟩ := ea
              have EA := ra.ents _ (List.mem_of_getElem? hea)
              have qa : World.cell? _ _ = some (.slice a1 n1 c1) := HCE.out _ _ (by rw [List.getElem?_map, hea]; rfl)
              have HEA := Lib.hid hea
              have n1p : (0 : Int) < (n1 : Int) := by have := EA.pos; simp only at this; omega
              have n1q : ¬ n1 = 0 := by have := EA.pos; simp only at this; omega
              have NA := Lib.hid (show Nb pp n1 l1 lo from Or.inr ⟨n1q, EA.lab⟩)
              have lA := Lib.hid (show l1.length = n1 from EA.len)
              have m1 : n1 ≤ 128 := by rw [← lA.out]; exact lab_len EA.lab
              have NB := Lib.hid (show Nb pp 0 [] [] from Or.inl ⟨rfl, rfl⟩)
              clear hea
              obtain ⟨kk, hkk, hpt⟩ := parts_ex lo ([] : List Bool)
              have HNO := Lib.hid (parts_nought hpt (Or.inr (Or.inl rfl)))
              have hlo : lo.length ≤ 600 := by have h1 := EA.lab.most; rw [enc_kid] at h1; simp only at h1; omega
              have hk19 : kk ≤ 1900 := by
                have h := hkk
                try simp only [List.length_nil] at h
                omega
              have HKK := Lib.hid hkk
              have HPT := Lib.hid hpt
              clear hkk hpt
              clear hlo
              go_wp2_with fail
              refine (between_ok _ ad3 a1 none n n1 0 cap3 c1 0 l0 l1 [] HLn.out lA.out rfl b3w EA.bytes (BytesAt.nil _ _) p3 EA.plain (Or.inl rfl) pp HL.out lo [] NA.out NB.out (fun _ h => absurd rfl h) kk HPT.out hk19).mono ?_
              rintro e w4 ⟨v4, en, rfl, hen, f4⟩
              rcases hen with ⟨rfl, l, Ll, o4⟩ | ⟨rfl, rfl, herr⟩
              rotate_left
              · have HER := Lib.hid (go_err (l1 := l1) (l2 := []) (n1 := n1) (n2 := 0) HL.out HLn.out lA.out rfl NA.out NB.out HKK.out herr)
                clear herr
                go_wp2_with fail
                all_goals
                  go_ret
                  refine ⟨?_, (f3.trans ra.fr).trans f4⟩
                  have her := HER.out
                  first | rfl | (congr 2; simp; omega)
              obtain ⟨ad4, cap4, rfl, b4, p4⟩ := o4.use
              have hpos := lab_pos Ll
              obtain ⟨nl, hnl⟩ : ∃ m, l.length = m := ⟨_, rfl⟩
              have HNL := Lib.hid hnl
              rw [hnl] at hpos ⊢
              have HLEN := Lib.hid (go_len (l1 := l1) (l2 := []) (n1 := n1) (n2 := 0) HL.out HLn.out lA.out rfl NA.out NB.out HKK.out Ll)
              obtain ⟨mid, hmid⟩ : ∃ mid, preS lo kk ++ [true] = mid := ⟨_, rfl⟩
              have HSA := Lib.hid (show sless lo mid by rw [← hmid]; exact mid_above HNO.out)
              rw [hmid] at Ll
              have HLl := Lib.hid Ll
              clear hnl Ll o4 hmid
              go_wp2_with fail
              refine (parent_yes _ ad4 nl cap4 l (pp ++ [mid]) HLl.out HNL.out b4 p4 (by simp)).mono ?_
              rintro e w5 ⟨v5, l5, rfl, L5, o5, f5⟩
              rw [List.dropLast_concat] at L5
              obtain ⟨ad5, cap5, rfl, b5, p5⟩ := o5.use
              rw [lab_same L5 HL.out] at b5 ⊢
              rw [HLn.out]
              clear L5 o5
              have h5 := f4.trans f5
              have q4 := b4.kept f5 (by simp)
              go_wp2_with fail
              refine (same_any _ _ _ l0 l0 n _ _ b5 (b3w.kept h5 (by simp)) HLn.out HLn.out (by omega)).mono ?_
              rw [show (l0 == l0) = true by simp]
              rintro e w6 ⟨rfl, f6⟩
              have h6 := h5.trans f6
              replace q4 := q4.kept f6 (by simp)
              go_wp2_with fail
              refine (right_yes _ ad4 nl cap4 l (pp ++ [mid]) HLl.out HNL.out q4 p4).mono ?_
              rintro e w7 ⟨rfl, f7⟩
              have h7 := h6.trans f7
              replace q4 := q4.kept f7 (by simp)
              go_wp2_with fail
              refine (level_yes _ ad4 nl cap4 l (pp ++ [mid]) HLl.out HNL.out q4 p4).mono ?_
              rw [show (((pp ++ [mid]).length : Nat) : Int) = (pp.length : Int) + 1 by simp, HD.out]
              rintro e w8 ⟨rfl, f8⟩
              have h8 := h7.trans f8
              replace q4 := q4.kept f8 (by simp)
              go_wp2_with fail
              refine (level_yes _ ad3 n cap3 l0 pp HL.out HLn.out (b3w.kept h8 (by simp)) p3).mono ?_
              rw [HD.out]
              rintro e w9 ⟨rfl, f9⟩
              have h9 := h8.trans f9
              replace q4 := q4.kept f9 (by simp)
              have hD1 : ((D + 1) != (D + 1)) = false := by simp
              go_wp2_with fail
              refine (above_yes _ ad3 ad4 n nl cap3 cap4 l0 l pp (pp ++ [mid]) HL.out HLl.out HLn.out HNL.out (b3w.kept h9 (by simp)) q4 p3 p4).mono ?_
              rw [abv_kid]
              rintro e wa ⟨rfl, fa⟩
              have ha := h9.trans fa
              replace q4 := q4.kept fa (by simp)
              clear f4 f5 f6 f7 f8 f9 fa h5 h6 h7 h8 h9 b5 b4 hD1
              have b3a := b3w.kept ha (by simp)
              go_wp2_with fail
              refine (compareL_any _ a1 ad4 n1 nl c1 cap4 l1 l lA.out HNL.out (EA.bytes.kept ha (by simp)) q4).mono ?_
              rw [kids_less EA.lab HLl.out HSA.out]
              rintro e wz ⟨rfl, hz⟩
              subst hz
              go_wp2_with fail
              refine (compareL_any _ ad3 ad4 n nl cap3 cap4 l0 l HLn.out HNL.out b3a q4).mono ?_
              rw [parent_less HL.out HLl.out (by simp)]
              rintro e wz ⟨rfl, hz⟩
              subst hz
              by_cases hz : n = 0
              · have hz' : (n : Int) ≤ 0 := by omega
                have hzz : ¬ (0 : Int) < (n : Int) := by omega
                have HZ := Lib.hid hz
                clear hz
                obtain ⟨wb, hwb⟩ : ∃ wb, wb = wa := ⟨_, rfl⟩
                have hb' : Fr [] wr wb := by rw [hwb]; exact ha
                have q4b : BytesAt wb ad4 l := by rw [hwb]; exact q4
                rw [← hwb]
                clear hwb
                obtain ⟨M1, hM1⟩ : ∃ M : Int, (if n1 < 0 then (0 : Int) else (n1 : Int)) = M := ⟨_, rfl⟩
                obtain ⟨M2, hM2⟩ : ∃ M : Int, (if M1 < (n : Int) + 1 then (n : Int) + 1 else M1) = M := ⟨_, rfl⟩
                have hM3 : (nl : Int) ≤ M2 + 1 := by
                  have h := HLEN.out
                  rw [HNL.out] at h
                  rw [← hM2, ← hM1]
                  split <;> split <;> omega
                have hM4 : ¬ M2 + 1 < (nl : Int) := by omega
                go_wp2_with fail
                all_goals
                  have fd : Fr [] wb wb.drew := (Fr.refl _ _).drew
                  clear hM1 hM2 hM3 hM4
                  have HCW : Hid (∀ w', Fr [] wb w' → ∀ i u, (R.map Ent.val)[i]? = some u → w'.cell? ⟨g, i, none⟩ = some u) := fun w' f i u hu => cell_fr (HCE.out i u hu) (hb'.trans f) (by simp)
                  have lk := Lib.hid (show ((R.map Ent.val).take j).length = j by rw [List.length_take, List.length_map, HR.out]; omega)
                  have ot := Lib.hid (fun u (hu : u ∈ (R.map Ent.val).take j) => vals_one R u (List.mem_of_mem_take hu))
                  rcases Decidable.em (cap = j) with hcj | hcj
                  all_goals
                    go_region_held3 (fun _ => True) (trivial)
                      (first
                        | (refine op_appLF _ _ rfl wb (.slice (some ⟨wb.heap.size, 0, none⟩) 0 0) 0 [] rfl (by first | exact ownL_lit fd | exact (ownL_lit fd).kept (frA _ _)) ⟨g, 0, none⟩ j _ ((R.map Ent.val).take j) rfl lk.out (src_head (HCW.out _ (by first | exact fd.alloc _ | exact (fd.alloc _).alloc _))) ot.out (by omega) ?_; intro v1 u1 o1 x1)
                        | (refine op_appLF _ _ rfl wb (.slice (some ⟨wb.heap.size + 1, 0, none⟩) 0 0) 0 [] rfl (ownL_lit1 fd _) ⟨g, 0, none⟩ j _ ((R.map Ent.val).take j) rfl lk.out (src_head (HCW.out _ (by first | exact fd.alloc _ | exact (fd.alloc _).alloc _))) ot.out (by omega) ?_; intro v1 u1 o1 x1)
                        | (refine op_appLF _ _ rfl wb _ (0 + j) _ rfl (by first | exact o1 | exact o1.kept (frA _ _)) _ 1 _ [.slice ad4 nl cap4] rfl rfl (one_src (by first | exact lit_cell _ _ | exact cell_fr (lit_cell1 wb.drew _ _) x1 (by simp [Value.ownBlock]) | exact cell_fr (cell_fr (lit_cell wb.drew _) (frA _ _) (by simp)) x1 (by simp [Value.ownBlock]))) (by simp [Value.oneCell']) (by omega) ?_; intro v2 u2 o2 x2)
                        | (refine op_appLF _ _ rfl wb _ (0 + j + 1) _ rfl o2 _ 0 _ [] rfl rfl (fun i u h => by simp at h) (by simp) (by omega) ?_; intro v3 u3 o3 x3))
                  all_goals
                    go_wp2_with fail
                    refine ⟨⟨j + 1, ins R j ⟨ad4, nl, cap4, l, mid⟩, by omega, by go_num, by rw [ins_length R j _ (by rw [HR.out]; omega), HR.out], ?_, fun h => absurd h (by omega)⟩, by simp [RowKit.intOf]; omega⟩
                    exact row_done (e := ⟨ad4, nl, cap4, l, mid⟩) ra hb' o3 (by rw [HR.out]; omega) (by rw [HR.out]; omega) (by rw [List.drop_eq_nil_of_le (by rw [List.length_map, HR.out]; omega)]; simp [Ent.val]) ⟨HNL.out, hpos, q4b.kept o3.2 (by simp), p4, HLl.out⟩ (fun a _ ha => by rw [show j - 1 = q by have := HQ.out; omega, HEA.out] at ha; cases ha; exact HSA.out) (fun b hb2 => by rw [List.getElem?_eq_none (by rw [HR.out]; omega)] at hb2; cases hb2)
              · have hz' : (0 : Int) < (n : Int) := by omega
                have hpp : pp ≠ [] := fun e => hz (by rw [← HLn.out]; exact (n_zero HL.out).2 e)
                go_wp2_with fail
                refine (after_yes _ ad3 n cap3 l0 pp HL.out HLn.out b3a p3 hpp).mono ?_
                rintro e wb ⟨vb, lb, rfl, Rb, ob, fb⟩
                obtain ⟨adb, capb, rfl, bb, pb'⟩ := ob.use
                obtain ⟨nb, hnb⟩ : ∃ m, lb.length = m := ⟨_, rfl⟩
                have HNB := Lib.hid hnb
                rw [hnb]
                clear hnb ob
                have hb' := ha.trans fb
                have q4b := q4.kept fb (by simp)
                go_wp2_with fail
                refine (compareL_any _ ad4 adb nl nb cap4 capb l lb HNL.out HNB.out q4b bb).mono ?_
                rw [end_less hpp HLl.out Rb]
                rintro e wz ⟨rfl, hz2⟩
                subst hz2
                obtain ⟨M1, hM1⟩ : ∃ M : Int, (if n1 < 0 then (0 : Int) else (n1 : Int)) = M := ⟨_, rfl⟩
                obtain ⟨M2, hM2⟩ : ∃ M : Int, (if M1 < (n : Int) + 1 then (n : Int) + 1 else M1) = M := ⟨_, rfl⟩
                have hM3 : (nl : Int) ≤ M2 + 1 := by
                  have h := HLEN.out
                  rw [HNL.out] at h
                  rw [← hM2, ← hM1]
                  split <;> split <;> omega
                have hM4 : ¬ M2 + 1 < (nl : Int) := by omega
                go_wp2_with fail
                all_goals
                  have fd : Fr [] wb wb.drew := (Fr.refl _ _).drew
                  clear hM1 hM2 hM3 hM4
                  have HCW : Hid (∀ w', Fr [] wb w' → ∀ i u, (R.map Ent.val)[i]? = some u → w'.cell? ⟨g, i, none⟩ = some u) := fun w' f i u hu => cell_fr (HCE.out i u hu) (hb'.trans f) (by simp)
                  have lk := Lib.hid (show ((R.map Ent.val).take j).length = j by rw [List.length_take, List.length_map, HR.out]; omega)
                  have ot := Lib.hid (fun u (hu : u ∈ (R.map Ent.val).take j) => vals_one R u (List.mem_of_mem_take hu))
                  rcases Decidable.em (cap = j) with hcj | hcj
                  all_goals
                    go_region_held3 (fun _ => True) (trivial)
                      (first
                        | (refine op_appLF _ _ rfl wb (.slice (some ⟨wb.heap.size, 0, none⟩) 0 0) 0 [] rfl (by first | exact ownL_lit fd | exact (ownL_lit fd).kept (frA _ _)) ⟨g, 0, none⟩ j _ ((R.map Ent.val).take j) rfl lk.out (src_head (HCW.out _ (by first | exact fd.alloc _ | exact (fd.alloc _).alloc _))) ot.out (by omega) ?_; intro v1 u1 o1 x1)
                        | (refine op_appLF _ _ rfl wb (.slice (some ⟨wb.heap.size + 1, 0, none⟩) 0 0) 0 [] rfl (ownL_lit1 fd _) ⟨g, 0, none⟩ j _ ((R.map Ent.val).take j) rfl lk.out (src_head (HCW.out _ (by first | exact fd.alloc _ | exact (fd.alloc _).alloc _))) ot.out (by omega) ?_; intro v1 u1 o1 x1)
                        | (refine op_appLF _ _ rfl wb _ (0 + j) _ rfl (by first | exact o1 | exact o1.kept (frA _ _)) _ 1 _ [.slice ad4 nl cap4] rfl rfl (one_src (by first | exact lit_cell _ _ | exact cell_fr (lit_cell1 wb.drew _ _) x1 (by simp [Value.ownBlock]) | exact cell_fr (cell_fr (lit_cell wb.drew _) (frA _ _) (by simp)) x1 (by simp [Value.ownBlock]))) (by simp [Value.oneCell']) (by omega) ?_; intro v2 u2 o2 x2)
                        | (refine op_appLF _ _ rfl wb _ (0 + j + 1) _ rfl o2 _ 0 _ [] rfl rfl (fun i u h => by simp at h) (by simp) (by omega) ?_; intro v3 u3 o3 x3))
                  all_goals
                    go_wp2_with fail
                    refine ⟨⟨j + 1, ins R j ⟨ad4, nl, cap4, l, mid⟩, by omega, by go_num, by rw [ins_length R j _ (by rw [HR.out]; omega), HR.out], ?_, fun h => absurd h (by omega)⟩, by simp [RowKit.intOf]; omega⟩
                    exact row_done (e := ⟨ad4, nl, cap4, l, mid⟩) ra hb' o3 (by rw [HR.out]; omega) (by rw [HR.out]; omega) (by rw [List.drop_eq_nil_of_le (by rw [List.length_map, HR.out]; omega)]; simp [Ent.val]) ⟨HNL.out, hpos, q4b.kept o3.2 (by simp), p4, HLl.out⟩ (fun a _ ha => by rw [show j - 1 = q by have := HQ.out; omega, HEA.out] at ha; cases ha; exact HSA.out) (fun b hb2 => by rw [List.getElem?_eq_none (by rw [HR.out]; omega)] at hb2; cases hb2)
          · obtain ⟨q, hq⟩ : ∃ q, k = q + 1 := ⟨k - 1, by omega⟩
            obtain ⟨ea, hea⟩ : ∃ e, R[q]? = some e := ⟨R[q]'(by rw [HR.out]; omega), List.getElem?_eq_getElem _⟩
            obtain ⟨eb, heb⟩ : ∃ e, R[k]? = some e := ⟨R[k]'(by rw [HR.out]; omega), List.getElem?_eq_getElem _⟩
            have k1 : (0 : Int) < (k : Int) := by omega
            have k2 : (k : Int) < (j : Int) := by omega
            have k3 : (k : Int) - 1 = (q : Int) := by omega
            have k4 : (0 : Int) ≤ (q : Int) := by omega
            have k5 : (q : Int) < (j : Int) := by omega
            have k6 : (0 : Int) ≤ (k : Int) := by omega
            have k7 : (k : Int) ≤ (cap : Int) := by omega
            have k8 : (k : Int) ≤ (j : Int) := by omega
            have kc1 : ¬ cap = k := by omega
            have kc2 : ¬ k = cap := by omega
            have kc3 : ¬ (cap : Int) = (k : Int) := by omega
            have kc4 : ¬ cap - k = 0 := by omega
            have HQ := Lib.hid hq
            clear hq
            as_aux_lemma =>
              go_wp2_with fail
              refine (pick_any _ x ((j : Int) + 1) HWx.out (by omega) (by omega)).mono ?_
              rw [HKe.out]
              rintro e wz ⟨rfl, hwz⟩
              have hwz2 := hwz.symm
              subst hwz2
              clear hwz
              have b3w := b3.kept ra.fr (by simp)
              obtain ⟨a1, n1, c1, l1, lo⟩ := ea
              have EA := ra.ents _ (List.mem_of_getElem? hea)
              have qa : World.cell? _ _ = some (.slice a1 n1 c1) := HCE.out _ _ (by rw [List.getElem?_map, hea]; rfl)
              have HEA := Lib.hid hea
              have n1p : (0 : Int) < (n1 : Int) := by have := EA.pos; simp only at this; omega
              have n1q : ¬ n1 = 0 := by have := EA.pos; simp only at this; omega
              have NA := Lib.hid (show Nb pp n1 l1 lo from Or.inr ⟨n1q, EA.lab⟩)
              have lA := Lib.hid (show l1.length = n1 from EA.len)
              have m1 : n1 ≤ 128 := by rw [← lA.out]; exact lab_len EA.lab
              obtain ⟨a2, n2, c2, l2, up⟩ := eb
              have EB := ra.ents _ (List.mem_of_getElem? heb)
              have qb : World.cell? _ _ = some (.slice a2 n2 c2) := HCE.out _ _ (by rw [List.getElem?_map, heb]; rfl)
              have HEB := Lib.hid heb
              have n2p : (0 : Int) < (n2 : Int) := by have := EB.pos; simp only at this; omega
              have n2q : ¬ n2 = 0 := by have := EB.pos; simp only at this; omega
              have NB := Lib.hid (show Nb pp n2 l2 up from Or.inr ⟨n2q, EB.lab⟩)
              have lB := Lib.hid (show l2.length = n2 from EB.len)
              have m2 : n2 ≤ 128 := by rw [← lB.out]; exact lab_len EB.lab
              have HSL := Lib.hid (show sless lo up from ra.rise _ _ _ hea (by rw [← HQ.out]; exact heb))
              clear hea
              clear heb
              obtain ⟨kk, hkk, hpt⟩ := parts_ex lo up
              have HNO := Lib.hid (parts_nought hpt (Or.inr (Or.inr HSL.out)))
              have hlo : lo.length ≤ 600 := by have h1 := EA.lab.most; rw [enc_kid] at h1; simp only at h1; omega
              have hup : up.length ≤ 600 := by have h1 := EB.lab.most; rw [enc_kid] at h1; simp only at h1; omega
              have hk19 : kk ≤ 1900 := by
                have h := hkk
                try simp only [List.length_nil] at h
                omega
              have HKK := Lib.hid hkk
              have HPT := Lib.hid hpt
              clear hkk hpt
              clear hlo
              clear hup
              go_wp2_with fail
              refine (between_ok _ ad3 a1 a2 n n1 n2 cap3 c1 c2 l0 l1 l2 HLn.out lA.out lB.out b3w EA.bytes EB.bytes p3 EA.plain EB.plain pp HL.out lo up NA.out NB.out (fun _ _ => by rw [kids_less EA.lab EB.lab HSL.out]; omega) kk HPT.out hk19).mono ?_
              rintro e w4 ⟨v4, en, rfl, hen, f4⟩
              rcases hen with ⟨rfl, l, Ll, o4⟩ | ⟨rfl, rfl, herr⟩
              rotate_left
              · have HER := Lib.hid (go_err (l1 := l1) (l2 := l2) (n1 := n1) (n2 := n2) HL.out HLn.out lA.out lB.out NA.out NB.out HKK.out herr)
                clear herr
                go_wp2_with fail
                all_goals
                  go_ret
                  refine ⟨?_, (f3.trans ra.fr).trans f4⟩
                  have her := HER.out
                  first | rfl | (congr 2; simp; omega)
              obtain ⟨ad4, cap4, rfl, b4, p4⟩ := o4.use
              have hpos := lab_pos Ll
              obtain ⟨nl, hnl⟩ : ∃ m, l.length = m := ⟨_, rfl⟩
              have HNL := Lib.hid hnl
              rw [hnl] at hpos ⊢
              have HLEN := Lib.hid (go_len (l1 := l1) (l2 := l2) (n1 := n1) (n2 := n2) HL.out HLn.out lA.out lB.out NA.out NB.out HKK.out Ll)
              obtain ⟨mid, hmid⟩ : ∃ mid, preS lo kk ++ [true] = mid := ⟨_, rfl⟩
              have HSA := Lib.hid (show sless lo mid by rw [← hmid]; exact mid_above HNO.out)
              have HSB := Lib.hid (show sless mid up by rw [← hmid]; exact mid_below HPT.out HNO.out (EB.lab.ok up (by simp)))
              rw [hmid] at Ll
              have HLl := Lib.hid Ll
              clear hnl Ll o4 hmid
              go_wp2_with fail
              refine (parent_yes _ ad4 nl cap4 l (pp ++ [mid]) HLl.out HNL.out b4 p4 (by simp)).mono ?_
              rintro e w5 ⟨v5, l5, rfl, L5, o5, f5⟩
              rw [List.dropLast_concat] at L5
              obtain ⟨ad5, cap5, rfl, b5, p5⟩ := o5.use
              rw [lab_same L5 HL.out] at b5 ⊢
              rw [HLn.out]
              clear L5 o5
              have h5 := f4.trans f5
              have q4 := b4.kept f5 (by simp)
              go_wp2_with fail
              refine (same_any _ _ _ l0 l0 n _ _ b5 (b3w.kept h5 (by simp)) HLn.out HLn.out (by omega)).mono ?_
              rw [show (l0 == l0) = true by simp]
              rintro e w6 ⟨rfl, f6⟩
              have h6 := h5.trans f6
              replace q4 := q4.kept f6 (by simp)
              go_wp2_with fail
              refine (right_yes _ ad4 nl cap4 l (pp ++ [mid]) HLl.out HNL.out q4 p4).mono ?_
              rintro e w7 ⟨rfl, f7⟩
              have h7 := h6.trans f7
              replace q4 := q4.kept f7 (by simp)
              go_wp2_with fail
              refine (level_yes _ ad4 nl cap4 l (pp ++ [mid]) HLl.out HNL.out q4 p4).mono ?_
              rw [show (((pp ++ [mid]).length : Nat) : Int) = (pp.length : Int) + 1 by simp, HD.out]
              rintro e w8 ⟨rfl, f8⟩
              have h8 := h7.trans f8
              replace q4 := q4.kept f8 (by simp)
              go_wp2_with fail
              refine (level_yes _ ad3 n cap3 l0 pp HL.out HLn.out (b3w.kept h8 (by simp)) p3).mono ?_
              rw [HD.out]
              rintro e w9 ⟨rfl, f9⟩
              have h9 := h8.trans f9
              replace q4 := q4.kept f9 (by simp)
              have hD1 : ((D + 1) != (D + 1)) = false := by simp
              go_wp2_with fail
              refine (above_yes _ ad3 ad4 n nl cap3 cap4 l0 l pp (pp ++ [mid]) HL.out HLl.out HLn.out HNL.out (b3w.kept h9 (by simp)) q4 p3 p4).mono ?_
              rw [abv_kid]
              rintro e wa ⟨rfl, fa⟩
              have ha := h9.trans fa
              replace q4 := q4.kept fa (by simp)
              clear f4 f5 f6 f7 f8 f9 fa h5 h6 h7 h8 h9 b5 b4 hD1
              have b3a := b3w.kept ha (by simp)
              go_wp2_with fail
              refine (compareL_any _ a1 ad4 n1 nl c1 cap4 l1 l lA.out HNL.out (EA.bytes.kept ha (by simp)) q4).mono ?_
              rw [kids_less EA.lab HLl.out HSA.out]
              rintro e wz ⟨rfl, hz⟩
              subst hz
              go_wp2_with fail
              refine (compareL_any _ ad4 a2 nl n2 cap4 c2 l l2 HNL.out lB.out q4 (EB.bytes.kept ha (by simp))).mono ?_
              rw [kids_less HLl.out EB.lab HSB.out]
              rintro e wz ⟨rfl, hz⟩
              subst hz
              go_wp2_with fail
              refine (compareL_any _ ad3 ad4 n nl cap3 cap4 l0 l HLn.out HNL.out b3a q4).mono ?_
              rw [parent_less HL.out HLl.out (by simp)]
              rintro e wz ⟨rfl, hz⟩
              subst hz
              by_cases hz : n = 0
              · have hz' : (n : Int) ≤ 0 := by omega
                have hzz : ¬ (0 : Int) < (n : Int) := by omega
                have HZ := Lib.hid hz
                clear hz
                obtain ⟨wb, hwb⟩ : ∃ wb, wb = wa := ⟨_, rfl⟩
                have hb' : Fr [] wr wb := by rw [hwb]; exact ha
                have q4b : BytesAt wb ad4 l := by rw [hwb]; exact q4
                rw [← hwb]
                clear hwb
                obtain ⟨M1, hM1⟩ : ∃ M : Int, (if n1 < n2 then (n2 : Int) else (n1 : Int)) = M := ⟨_, rfl⟩
                obtain ⟨M2, hM2⟩ : ∃ M : Int, (if M1 < (n : Int) + 1 then (n : Int) + 1 else M1) = M := ⟨_, rfl⟩
                have hM3 : (nl : Int) ≤ M2 + 1 := by
                  have h := HLEN.out
                  rw [HNL.out] at h
                  rw [← hM2, ← hM1]
                  split <;> split <;> omega
                have hM4 : ¬ M2 + 1 < (nl : Int) := by omega
                go_wp2_with fail
                all_goals
                  have fd : Fr [] wb wb.drew := (Fr.refl _ _).drew
                  clear hM1 hM2 hM3 hM4
                  have HCW : Hid (∀ w', Fr [] wb w' → ∀ i u, (R.map Ent.val)[i]? = some u → w'.cell? ⟨g, i, none⟩ = some u) := fun w' f i u hu => cell_fr (HCE.out i u hu) (hb'.trans f) (by simp)
                  have lk := Lib.hid (show ((R.map Ent.val).take k).length = k by rw [List.length_take, List.length_map, HR.out]; omega)
                  have ld := Lib.hid (show ((R.map Ent.val).drop k).length = j - k by rw [List.length_drop, List.length_map, HR.out])
                  have od := Lib.hid (fun u (hu : u ∈ (R.map Ent.val).drop k) => vals_one R u (List.mem_of_mem_drop hu))
                  have ot := Lib.hid (fun u (hu : u ∈ (R.map Ent.val).take k) => vals_one R u (List.mem_of_mem_take hu))
                  go_region_held3 (fun _ => True) (trivial)
                    (first
                      | (refine op_appLF _ _ rfl wb (.slice (some ⟨wb.heap.size, 0, none⟩) 0 0) 0 [] rfl (by first | exact ownL_lit fd | exact (ownL_lit fd).kept (frA _ _)) ⟨g, 0, none⟩ k _ ((R.map Ent.val).take k) rfl lk.out (src_head (HCW.out _ (by first | exact fd.alloc _ | exact (fd.alloc _).alloc _))) ot.out (by omega) ?_; intro v1 u1 o1 x1)
                      | (refine op_appLF _ _ rfl wb (.slice (some ⟨wb.heap.size + 1, 0, none⟩) 0 0) 0 [] rfl (ownL_lit1 fd _) ⟨g, 0, none⟩ k _ ((R.map Ent.val).take k) rfl lk.out (src_head (HCW.out _ (by first | exact fd.alloc _ | exact (fd.alloc _).alloc _))) ot.out (by omega) ?_; intro v1 u1 o1 x1)
                      | (refine op_appLF _ _ rfl wb _ (0 + k) _ rfl (by first | exact o1 | exact o1.kept (frA _ _)) _ 1 _ [.slice ad4 nl cap4] rfl rfl (one_src (by first | exact lit_cell _ _ | exact cell_fr (lit_cell1 wb.drew _ _) x1 (by simp [Value.ownBlock]) | exact cell_fr (cell_fr (lit_cell wb.drew _) (frA _ _) (by simp)) x1 (by simp [Value.ownBlock]))) (by simp [Value.oneCell']) (by omega) ?_; intro v2 u2 o2 x2)
                      | (refine op_appLF _ _ rfl wb _ (0 + k + 1) _ rfl o2 ⟨g, k, none⟩ (j - k) _ ((R.map Ent.val).drop k) rfl ld.out (src_tail (HCW.out _ o2.2)) od.out (by omega) ?_; intro v3 u3 o3 x3))
                  all_goals
                    go_wp2_with fail
                    refine ⟨⟨j + 1, ins R k ⟨ad4, nl, cap4, l, mid⟩, by omega, by go_num, by rw [ins_length R k _ (by rw [HR.out]; omega), HR.out], ?_, fun h => absurd h (by omega)⟩, by simp [RowKit.intOf]; omega⟩
                    exact row_done (e := ⟨ad4, nl, cap4, l, mid⟩) ra hb' o3 (by rw [HR.out]; omega) (by rw [HR.out]; omega) (by simp [Ent.val]) ⟨HNL.out, hpos, q4b.kept o3.2 (by simp), p4, HLl.out⟩ (fun a _ ha => by rw [show k - 1 = q by have := HQ.out; omega, HEA.out] at ha; cases ha; exact HSA.out) (fun b hb2 => by rw [HEB.out] at hb2; cases hb2; exact HSB.out)
              · have hz' : (0 : Int) < (n : Int) := by omega
                have hpp : pp ≠ [] := fun e => hz (by rw [← HLn.out]; exact (n_zero HL.out).2 e)
                go_wp2_with fail
                refine (after_yes _ ad3 n cap3 l0 pp HL.out HLn.out b3a p3 hpp).mono ?_
                rintro e wb ⟨vb, lb, rfl, Rb, ob, fb⟩
                obtain ⟨adb, capb, rfl, bb, pb'⟩ := ob.use
                obtain ⟨nb, hnb⟩ : ∃ m, lb.length = m := ⟨_, rfl⟩
                have HNB := Lib.hid hnb
                rw [hnb]
                clear hnb ob
                have hb' := ha.trans fb
                have q4b := q4.kept fb (by simp)
                go_wp2_with fail
                refine (compareL_any _ ad4 adb nl nb cap4 capb l lb HNL.out HNB.out q4b bb).mono ?_
                rw [end_less hpp HLl.out Rb]
                rintro e wz ⟨rfl, hz2⟩
                subst hz2
                obtain ⟨M1, hM1⟩ : ∃ M : Int, (if n1 < n2 then (n2 : Int) else (n1 : Int)) = M := ⟨_, rfl⟩
                obtain ⟨M2, hM2⟩ : ∃ M : Int, (if M1 < (n : Int) + 1 then (n : Int) + 1 else M1) = M := ⟨_, rfl⟩
                have hM3 : (nl : Int) ≤ M2 + 1 := by
                  have h := HLEN.out
                  rw [HNL.out] at h
                  rw [← hM2, ← hM1]
                  split <;> split <;> omega
                have hM4 : ¬ M2 + 1 < (nl : Int) := by omega
                go_wp2_with fail
                all_goals
                  have fd : Fr [] wb wb.drew := (Fr.refl _ _).drew
                  clear hM1 hM2 hM3 hM4
                  have HCW : Hid (∀ w', Fr [] wb w' → ∀ i u, (R.map Ent.val)[i]? = some u → w'.cell? ⟨g, i, none⟩ = some u) := fun w' f i u hu => cell_fr (HCE.out i u hu) (hb'.trans f) (by simp)
                  have lk := Lib.hid (show ((R.map Ent.val).take k).length = k by rw [List.length_take, List.length_map, HR.out]; omega)
                  have ld := Lib.hid (show ((R.map Ent.val).drop k).length = j - k by rw [List.length_drop, List.length_map, HR.out])
                  have od := Lib.hid (fun u (hu : u ∈ (R.map Ent.val).drop k) => vals_one R u (List.mem_of_mem_drop hu))
                  have ot := Lib.hid (fun u (hu : u ∈ (R.map Ent.val).take k) => vals_one R u (List.mem_of_mem_take hu))
                  go_region_held3 (fun _ => True) (trivial)
                    (first
                      | (refine op_appLF _ _ rfl wb (.slice (some ⟨wb.heap.size, 0, none⟩) 0 0) 0 [] rfl (by first | exact ownL_lit fd | exact (ownL_lit fd).kept (frA _ _)) ⟨g, 0, none⟩ k _ ((R.map Ent.val).take k) rfl lk.out (src_head (HCW.out _ (by first | exact fd.alloc _ | exact (fd.alloc _).alloc _))) ot.out (by omega) ?_; intro v1 u1 o1 x1)
                      | (refine op_appLF _ _ rfl wb (.slice (some ⟨wb.heap.size + 1, 0, none⟩) 0 0) 0 [] rfl (ownL_lit1 fd _) ⟨g, 0, none⟩ k _ ((R.map Ent.val).take k) rfl lk.out (src_head (HCW.out _ (by first | exact fd.alloc _ | exact (fd.alloc _).alloc _))) ot.out (by omega) ?_; intro v1 u1 o1 x1)
                      | (refine op_appLF _ _ rfl wb _ (0 + k) _ rfl (by first | exact o1 | exact o1.kept (frA _ _)) _ 1 _ [.slice ad4 nl cap4] rfl rfl (one_src (by first | exact lit_cell _ _ | exact cell_fr (lit_cell1 wb.drew _ _) x1 (by simp [Value.ownBlock]) | exact cell_fr (cell_fr (lit_cell wb.drew _) (frA _ _) (by simp)) x1 (by simp [Value.ownBlock]))) (by simp [Value.oneCell']) (by omega) ?_; intro v2 u2 o2 x2)
                      | (refine op_appLF _ _ rfl wb _ (0 + k + 1) _ rfl o2 ⟨g, k, none⟩ (j - k) _ ((R.map Ent.val).drop k) rfl ld.out (src_tail (HCW.out _ o2.2)) od.out (by omega) ?_; intro v3 u3 o3 x3))
                  all_goals
                    go_wp2_with fail
                    refine ⟨⟨j + 1, ins R k ⟨ad4, nl, cap4, l, mid⟩, by omega, by go_num, by rw [ins_length R k _ (by rw [HR.out]; omega), HR.out], ?_, fun h => absurd h (by omega)⟩, by simp [RowKit.intOf]; omega⟩
                    exact row_done (e := ⟨ad4, nl, cap4, l, mid⟩) ra hb' o3 (by rw [HR.out]; omega) (by rw [HR.out]; omega) (by simp [Ent.val]) ⟨HNL.out, hpos, q4b.kept o3.2 (by simp), p4, HLl.out⟩ (fun a _ ha => by rw [show k - 1 = q by have := HQ.out; omega, HEA.out] at ha; cases ha; exact HSA.out) (fun b hb2 => by rw [HEB.out] at hb2; cases hb2; exact HSB.out)
    · obtain rfl : j = pn := by omega
      go_wp2_with fail
      go_ret
      exact ⟨rfl, f3.trans ra.fr⟩

end Go.Proofs.YtddcilmeignlmaaDoor
