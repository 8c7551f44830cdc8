/-
  Elements; nodes, by how much is to go.
-/
import Derived.Test.YtjdcfaaoicnajaaDoorPNode
namespace Go.Proofs.YtjdcfaaoicnajaaDoor
open Go.RowKit Go.Maps Go.Lib

theorem outN_leaf {t : List Nd} {n x : Nat} (hn : 1 ≤ n) (h1 : knd t x ≠ 1) (h2 : knd t x ≠ 2) : outN t n x = leafO (knd t x) (nam t x) (vlu t x) := by
  obtain ⟨m, rfl⟩ : ∃ m, n = m + 1 := ⟨n - 1, by omega⟩
  rw [outN, if_neg h1, if_neg h2]
theorem attO_le {t : List Nd} {a b c : Nat} (h1 : a ≤ b) (h2 : b ≤ c) : (attO t a b).length ≤ (attO t a c).length := by
  have e : attO t a c = attO t a b ++ attO t b c := by
    unfold attO
    rw [← List.flatten_append, ← List.map_append, show c - a = (b - a) + (c - b) by omega, ← List.range'_append_1, show a + (b - a) = b by omega]
  rw [e, List.length_append]
  omega
theorem cat_open (NM : ByteArray) : cat [⟨#[60]⟩, NM] = [60] ++ bl NM := by rw [cat_cons, cat_cons, cat_nil, List.append_nil]; rfl
theorem cat_shut (NM : ByteArray) : cat [⟨#[60, 47]⟩, NM, ⟨#[62]⟩] = [60, 47] ++ bl NM ++ [62] := by rw [cat_cons, cat_cons, cat_cons, cat_nil, List.append_nil, List.append_assoc]; rfl
set_option maxHeartbeats 8000000 in
set_option maxRecDepth 100000 in
theorem welem_any (t : List Nd) (G : Good t) (hl : t.length ≤ 16384) (b0 off c n : Nat) (IH : NodeC t b0 off c n) (w0 w : World) (b : Nat) (S : List Nat) (l : List UInt8) (x : Nat) (h : WAt w0 w b S l) (hN : NodesIn w0 b0 off t) (hx : x < t.length) (hn : t.length - x ≤ n + 1) (hm : l.length + (elO (outN t n) t x).length ≤ 140737488355328) :
    Calls Tryd.prog 42 #[.pointer (some ⟨b, 0, none⟩), .slice (some ⟨b0, off, none⟩) t.length c, .int .i64 (x : Int)] w fun e w' => e = .returned (.int .i64 (endOf t x : Nat)) ∧ WAt w0 w' b S (l ++ elO (outN t n) t x) ∧ Keep S w w' := by
  have hNw := hN.kept h.fr (by simp)
  obtain ⟨c0, c1, c2, c3⟩ := hNw x hx
  have hx0 : (0 : Int) ≤ (x : Int) := by omega
  have hxl : (x : Int) < (t.length : Int) := by omega
  have hl' : (t.length : Int) ≤ 16384 := by omega
  have A := attE_is hx
  obtain ⟨A1, A2⟩ := att_end G hx
  have HAtt := Hid.mk A
  have HAE := Hid.mk A2
  have hgt := A.gt
  have hle := A.le
  have Ek := endOf_is (t := t) (k := (x : Int)) (by omega) (by omega)
  have HE := Hid.mk Ek
  have HI := Hid.mk IH
  have HG := Hid.mk G
  have HN := Hid.mk hN
  have HNN := Hid.mk hn
  have HM := Hid.mk hm
  have eO : elO (outN t n) t x = [60] ++ bl (nam t x) ++ attO t (x + 1) (attE t x) ++ (if attE t x < t.length ∧ par t (attE t x) = (x : Int) then [62] ++ runO (outN t n) t x (attE t x) ++ ([60, 47] ++ bl (nam t x) ++ [62]) else [47, 62]) := rfl
  rw [eO] at HM
  have HEO := Hid.mk eO
  have cK := Hid.mk (fun w' l' (h' : WAt w0 w' b S l') (hp : par t (attE t x) = (x : Int)) (hm' : l'.length + (runO (outN t n) t x (attE t x)).length ≤ 140737488355328) => wkids_any t G b0 off c n IH w0 w' b S l' x (attE t x) h' hN hx hgt A1 (Or.inr hp) hn hm')
  generalize nam t x = NM at c1 HM HEO
  obtain ⟨Q, hQ⟩ : ∃ Q, attE t x = Q := ⟨_, rfl⟩
  rw [hQ] at HAtt HAE hgt hle A1 HM cK HEO
  have hbO := Hid.mk (show l.length + (cat [⟨#[60]⟩, NM]).length ≤ 140737488355328 from by
    rw [cat_open]
    have := HM.out
    rw [List.length_append, List.length_append] at this
    omega)
  have cP := Hid.mk (put_new w0 w b 2 2 S l h [⟨#[60]⟩, NM] #[.string ⟨#[60]⟩, .string NM] rfl rfl (by omega) hbO.out)
  rw [cat_open] at cP
  clear hNw c0 c2 c3 A A2 Ek IH G hN hn hm h eO hQ
  go_enter Tryd.func42, Tryd.ntmps42
  go_wp2_with fail
  refine cP.out.mono ?_
  rintro e w5 ⟨rfl, a5, k5⟩
  have A5 := Hid.mk a5
  have K5 := Hid.mk k5
  clear a5 k5 c1
  go_wp2_with fail
  go_loopw [8] (fun s8 wr => ∃ i : Nat, s8 = .int .i64 (i : Int) ∧ x < i ∧ i ≤ Q ∧ Hid (WAt w0 wr b S (l ++ ([60] ++ bl NM) ++ attO t (x + 1) i)) ∧ Hid (Keep S w wr)) (fun s8 _ => t.length - (RowKit.intOf s8).toNat)
  case atStart => exact ⟨x + 1, by go_num, by omega, by omega, by show WAt _ _ _ _ (_ ++ attO t (x + 1) (x + 1)); rw [attO_nil, List.append_nil]; exact A5.out, K5⟩
  case round =>
    obtain ⟨i, rfl, hxi, hiQ, hA, hK⟩ := hrel
    have hNr := HN.out.kept hA.out.fr (by simp)
    have hi0 : (0 : Int) ≤ (i : Int) := by omega
    by_cases hlt : i < Q
    · obtain ⟨hp, h3⟩ := HAtt.out.all i hxi hlt
      have hil : i < t.length := by omega
      have hil' : (i : Int) < (t.length : Int) := by omega
      obtain ⟨c0, c1, c2, c3⟩ := hNr i hil
      rw [h3] at c0
      have cO := Hid.mk (isOf_any wr b0 off c t hNr i x true (by simp [hil, hp]))
      have hst := attO_step (t := t) (a := x + 1) (b := i) (by omega)
      have hlf := outN_leaf (t := t) (n := n) (x := i) (by have := HNN.out; omega) (by omega) (by omega)
      have hen := end_leaf HG.out hil (by omega) (by omega)
      rw [← hlf] at hst
      have hbd0 := Hid.mk (show (l ++ ([60] ++ bl NM) ++ attO t (x + 1) i).length + (1 + (outN t n i).length) ≤ 140737488355328 from by
        have h1 := HM.out
        have h2 := attO_le (t := t) (a := x + 1) (b := i + 1) (c := Q) (by omega) (by omega)
        rw [hst] at h2
        simp only [List.length_append, List.length_cons, List.length_nil] at h1 h2 ⊢
        omega)
      have cS := Hid.mk (put_new w0 wr b 1 1 S _ hA.out [⟨#[32]⟩] #[.string ⟨#[32]⟩] rfl rfl (by omega) (by
        have h1 := hbd0.out
        rw [show cat [⟨#[32]⟩] = [32] from rfl]
        simp only [List.length_cons, List.length_nil]
        omega))
      rw [show cat [⟨#[32]⟩] = [32] from rfl] at cS
      have cN := Hid.mk (fun w' (h' : WAt w0 w' b S (l ++ ([60] ++ bl NM) ++ attO t (x + 1) i ++ [32])) => HI.out w0 w' b S _ i h' HN.out hil (by have := HNN.out; omega) (by
        have h1 := hbd0.out
        rw [List.length_append]
        simp only [List.length_cons, List.length_nil]
        omega))
      rw [hen] at cN
      have hO' := Hid.mk (show l ++ ([60] ++ bl NM) ++ attO t (x + 1) i ++ [32] ++ outN t n i = l ++ ([60] ++ bl NM) ++ attO t (x + 1) (i + 1) from by rw [hst]; simp only [List.append_assoc])
      clear hst hp h3 hNr hlf hen c1 c2 c3
      go_wp2_with (first
        | (go_at_call 50; refine cO.out.mono ?_; rintro e w5 ⟨rfl, hw5⟩; subst hw5)
        | (go_at_call 38; refine cS.out.mono ?_; rintro e w6 ⟨rfl, a6, k6⟩)
        | (go_at_call 32; refine (cN.out _ a6).mono ?_; rintro e w7 ⟨rfl, a7, k7⟩))
      exact ⟨⟨i + 1, by go_num, by omega, by omega, by rw [hO'.out] at a7; exact a7, (hK.out.trans k6).trans k7⟩, by simp [RowKit.intOf]; omega⟩
    · obtain rfl : i = Q := by omega
      by_cases hq : i < t.length ∧ par t i = (x : Int)
      · have hM := HM.out
        rw [if_pos hq] at hM
        have HQ := Hid.mk hq
        have hil : (i : Int) < (t.length : Int) := by omega
        obtain ⟨c0, c1, c2, c3⟩ := hNr i hq.1
        have h3 : ((((knd t i : Nat)) : Int) == 3) = false := by
          rw [beq_eq_false_iff_ne]
          intro e
          exact HAtt.out.stop hq.1 ⟨hq.2, by omega⟩
        generalize knd t i = KK at c0 h3
        have cO := Hid.mk (isOf_any wr b0 off c t hNr i x true (by simp [hq]))
        have HQ2 := Hid.mk hq.2
        simp only [List.length_append, List.length_cons, List.length_nil] at hM
        have HMM := Hid.mk hM
        have cG := Hid.mk (put_new w0 wr b 1 1 S _ hA.out [⟨#[62]⟩] #[.string ⟨#[62]⟩] rfl rfl (by omega) (by
          rw [show cat [⟨#[62]⟩] = [62] from rfl]
          simp only [List.length_append, List.length_cons, List.length_nil]
          have := HMM.out
          omega))
        rw [show cat [⟨#[62]⟩] = [62] from rfl] at cG
        have cK2 := Hid.mk (fun w' (h' : WAt w0 w' b S (l ++ ([60] ++ bl NM) ++ attO t (x + 1) i ++ [62])) => cK.out w' _ h' HQ2.out (by
          simp only [List.length_append, List.length_cons, List.length_nil]
          have := HMM.out
          omega))
        have cZ := Hid.mk (fun w' (h' : WAt w0 w' b S (l ++ ([60] ++ bl NM) ++ attO t (x + 1) i ++ [62] ++ runO (outN t n) t x i)) => put_new w0 w' b 3 3 S _ h' [⟨#[60, 47]⟩, NM, ⟨#[62]⟩] #[.string ⟨#[60, 47]⟩, .string NM, .string ⟨#[62]⟩] rfl rfl (by omega) (by
          rw [cat_shut]
          simp only [List.length_append, List.length_cons, List.length_nil]
          have := HMM.out
          omega))
        rw [cat_shut] at cZ
        clear hM hq c1 c2 c3 hNr
        go_wp2_with fail
        refine cO.out.mono ?_
        rintro e w5 ⟨rfl, hw5⟩
        subst hw5
        go_wp2_with fail
        refine cO.out.mono ?_
        rintro e w5 ⟨rfl, hw5⟩
        subst hw5
        go_wp2_with fail
        refine cG.out.mono ?_
        rintro e w6 ⟨rfl, a6, k6⟩
        have A6 := Hid.mk a6
        have K6 := Hid.mk (hK.out.trans k6)
        clear a6 k6
        go_wp2_with fail
        refine (cK2.out _ A6.out).mono ?_
        rintro e w7 ⟨rfl, a7, k7⟩
        have A7 := Hid.mk a7
        have K7 := Hid.mk (K6.out.trans k7)
        clear a7 k7
        go_wp2_with fail
        refine (cZ.out _ A7.out).mono ?_
        rintro e w8 ⟨rfl, a8, k8⟩
        go_wp2_with fail
        go_ret
        refine ⟨rfl, ?_, K7.out.trans k8⟩
        rw [HEO.out, if_pos HQ.out]
        simp only [List.append_assoc] at a8 ⊢
        exact a8
      · have hM := HM.out
        rw [if_neg hq] at hM
        have HQ := Hid.mk hq
        have hEe : endOf t x = i := by
          rcases HAE.out with e | e
          · exact e.symm
          · have h5 : ¬ i < t.length := fun h => hq ⟨h, e⟩
            have := HE.out.le
            omega
        have HEe := Hid.mk hEe
        have cO := Hid.mk (isOf_any wr b0 off c t hNr i x false (by simp only [hq, decide_false]))
        simp only [List.length_append, List.length_cons, List.length_nil] at hM
        have HMM := Hid.mk hM
        have cG := Hid.mk (put_new w0 wr b 1 1 S _ hA.out [⟨#[47, 62]⟩] #[.string ⟨#[47, 62]⟩] rfl rfl (by omega) (by
          rw [show cat [⟨#[47, 62]⟩] = [47, 62] from rfl]
          simp only [List.length_append, List.length_cons, List.length_nil]
          have := HMM.out
          omega))
        rw [show cat [⟨#[47, 62]⟩] = [47, 62] from rfl] at cG
        clear hM hq hNr hEe
        go_wp2_with fail
        refine cO.out.mono ?_
        rintro e w5 ⟨rfl, hw5⟩
        subst hw5
        go_wp2_with fail
        refine cO.out.mono ?_
        rintro e w5 ⟨rfl, hw5⟩
        subst hw5
        go_wp2_with fail
        refine cG.out.mono ?_
        rintro e w6 ⟨rfl, a6, k6⟩
        go_wp2_with fail
        go_ret
        refine ⟨by rw [HEe.out]; rfl, ?_, hK.out.trans k6⟩
        rw [HEO.out, if_neg HQ.out]
        simp only [List.append_assoc] at a6 ⊢
        exact a6
end Go.Proofs.YtjdcfaaoicnajaaDoor
