/-
  A node is written, with all that is below it.
-/
import Derived.Test.YtjdcfaaoicnajaaDoorPMath
namespace Go.Proofs.YtjdcfaaoicnajaaDoor
open Go.RowKit Go.Maps Go.Lib

set_option maxHeartbeats 2000000 in
theorem isOf_any (w : World) (b0 off c : Nat) (t : List Nd) (hN : NodesIn w b0 off t) (x k : Nat) (B : Bool) (hB : decide (x < t.length ∧ par t x = (k : Int)) = B) :
    Calls Tryd.prog 50 #[.slice (some ⟨b0, off, none⟩) t.length c, .int .i64 (x : Int), .int .i64 (k : Int)] w fun e w' => e = .returned (.bool B) ∧ w = w' := by
  have hx0 : (0 : Int) ≤ (x : Int) := by omega
  by_cases hx : x < t.length
  · have hx' : (x : Int) < (t.length : Int) := by omega
    obtain ⟨c0, c1, c2, c3⟩ := hN x hx
    have hB' : (par t x == (k : Int)) = B := by rw [← hB]; simp [hx, Bool.beq_eq_decide_eq]
    clear hB c0 c1 c2 hN
    generalize par t x = p at c3 hB'
    go_enter Tryd.func50, Tryd.ntmps50
    go_wp2
    go_ret
    exact ⟨by rw [← hB']; rfl, rfl⟩
  · have hx' : ¬ (x : Int) < (t.length : Int) := by omega
    have hB' : B = false := by rw [← hB]; simp [hx]
    subst hB'
    clear hB hN
    go_enter Tryd.func50, Tryd.ntmps50
    go_wp2
    go_ret
    exact ⟨rfl, rfl⟩
/-- What node does, with so much to go. -/
def NodeC (t : List Nd) (b0 off c n : Nat) : Prop := ∀ (w0 w : World) (b : Nat) (S : List Nat) (l : List UInt8) (x : Nat), WAt w0 w b S l → NodesIn w0 b0 off t → x < t.length → t.length - x ≤ n → l.length + (outN t n x).length ≤ 140737488355328 →
  Calls Tryd.prog 32 #[.pointer (some ⟨b, 0, none⟩), .slice (some ⟨b0, off, none⟩) t.length c, .int .i64 (x : Int)] w fun e w' => e = .returned (.int .i64 (endOf t x : Nat)) ∧ WAt w0 w' b S (l ++ outN t n x) ∧ Keep S w w'
set_option maxHeartbeats 4000000 in
set_option maxRecDepth 100000 in
theorem wkids_any (t : List Nd) (G : Good t) (b0 off c n : Nat) (IH : NodeC t b0 off c n) (w0 w : World) (b : Nat) (S : List Nat) (l : List UInt8) (k y : Nat) (h : WAt w0 w b S l) (hN : NodesIn w0 b0 off t) (hk : k < t.length) (hky : k < y) (hyE : y ≤ endOf t k) (hyp : y = endOf t k ∨ par t y = (k : Int)) (hn : t.length - k ≤ n + 1) (hm : l.length + (runO (outN t n) t k y).length ≤ 140737488355328) :
    Calls Tryd.prog 41 #[.pointer (some ⟨b, 0, none⟩), .slice (some ⟨b0, off, none⟩) t.length c, .int .i64 (k : Int), .int .i64 (y : Int)] w fun e w' => e = .returned (.int .i64 (endOf t k : Nat)) ∧ WAt w0 w' b S (l ++ runO (outN t n) t k y) ∧ Keep S w w' := by
  have Ek := endOf_is (t := t) (k := (k : Int)) (by omega) (by omega)
  have HE := Hid.mk Ek
  have hEl := Ek.le
  have HI := Hid.mk IH
  have HG := Hid.mk G
  have HW := Hid.mk h
  have HN := Hid.mk hN
  have HM := Hid.mk hm
  have HP := Hid.mk hyp
  have HNN := Hid.mk hn
  have HCN := Hid.mk (fun x (h1 : k < x) (h2 : x < endOf t k) (h3 : par t x = (k : Int)) => child_next G.ords hk h1 h2 h3)
  obtain ⟨E, hE⟩ : ∃ E, endOf t k = E := ⟨_, rfl⟩
  rw [hE] at HE hEl hyE ⊢ HP HCN
  clear Ek IH G h hN hm hyp hn hE
  go_enter Tryd.func41, Tryd.ntmps41
  go_wp2_with fail
  go_loopw [3] (fun s3 wr => ∃ (z : Nat) (l' : List UInt8), s3 = .int .i64 (z : Int) ∧ k < z ∧ z ≤ E ∧ Hid (z = E ∨ par t z = (k : Int)) ∧ Hid (WAt w0 wr b S l') ∧ Hid (l' ++ runO (outN t n) t k z = l ++ runO (outN t n) t k y) ∧ Hid (Keep S w wr)) (fun s3 _ => t.length - (RowKit.intOf s3).toNat)
  case atStart => exact ⟨y, l, rfl, hky, hyE, HP, HW, rfl, Keep.refl _ _⟩
  case round =>
    obtain ⟨z, l', rfl, hkz, hzE, hzp, hA, hO, hK⟩ := hrel
    have hNr := HN.out.kept hA.out.fr (by simp)
    by_cases hlt : z < E
    · have hp : par t z = (k : Int) := by
        rcases hzp.out with e | e
        · omega
        · exact e
      have hzl : z < t.length := by omega
      obtain ⟨q1, q2, q3, q4⟩ := HCN.out z hkz hlt hp
      have hst := runO_step (f := outN t n) (k := k) hzl hp
      have cO := Hid.mk (isOf_any wr b0 off c t hNr z k true (by simp [hzl, hp]))
      have hbd := Hid.mk (show l'.length + (outN t n z).length ≤ 140737488355328 from by
        have h1 := congrArg List.length hO.out
        rw [hst, List.length_append, List.length_append, List.length_append] at h1
        have := HM.out
        omega)
      have cN := Hid.mk (HI.out w0 wr b S l' z hA.out HN.out hzl (by have := HNN.out; omega) hbd.out)
      have hO' := Hid.mk (show l' ++ outN t n z ++ runO (outN t n) t k (endOf t z) = l ++ runO (outN t n) t k y from by rw [← hO.out, hst, List.append_assoc])
      have Q3 := Hid.mk q3
      generalize endOf t z = e2 at q1 q2 Q3 cN hO'
      clear hst hp q3 q4 hNr
      go_wp2_with (first
        | (go_at_call 50; refine cO.out.mono ?_; rintro e w5 ⟨rfl, hw5⟩; subst hw5)
        | (go_at_call 32; refine cN.out.mono ?_; rintro e w6 ⟨rfl, a6, k6⟩))
      exact ⟨⟨e2, _, rfl, by omega, by omega, Q3, a6, hO', hK.out.trans k6⟩, by simp [RowKit.intOf]; omega⟩
    · obtain rfl : z = E := by omega
      have hno : ¬ (z < t.length ∧ par t z = (k : Int)) := fun ⟨h1, h2⟩ => by
        have := HE.out.stop h1
        omega
      have hst := runO_end (f := outN t n) hno
      have cO := Hid.mk (isOf_any wr b0 off c t hNr z k false (by simp [hno]))
      have hO' := Hid.mk (show l' = l ++ runO (outN t n) t k y from by rw [← hO.out, hst, List.append_nil])
      clear hst hno hNr
      go_wp2_with (first
        | (go_at_call 50; refine cO.out.mono ?_; rintro e w5 ⟨rfl, hw5⟩; subst hw5))
      go_ret
      exact ⟨rfl, by rw [← hO'.out]; exact hA.out, hK.out⟩
set_option maxHeartbeats 4000000 in
set_option maxRecDepth 100000 in
theorem winstr_any (w0 w : World) (b : Nat) (S : List Nat) (l : List UInt8) (h : WAt w0 w b S l) (NM VL : ByteArray) (hm : l.length + (leafO 6 NM VL).length ≤ 140737488355328) :
    Calls Tryd.prog 43 #[.pointer (some ⟨b, 0, none⟩), .string NM, .string VL] w fun e w' => e = .returned (.tuple #[]) ∧ WAt w0 w' b S (l ++ leafO 6 NM VL) ∧ Keep S w w' := by
  have e6 : leafO 6 NM VL = [60, 63] ++ bl NM ++ (if VL.toList.isEmpty then [] else [32] ++ bl VL) ++ [63, 62] := rfl
  rw [e6] at hm ⊢
  have a1 : cat [⟨#[60, 63]⟩, NM] = [60, 63] ++ bl NM := by rw [cat_cons, cat_cons, cat_nil, List.append_nil]; rfl
  have a2 : cat [⟨#[32]⟩, VL] = [32] ++ bl VL := by rw [cat_cons, cat_cons, cat_nil, List.append_nil]; rfl
  have a3 : cat [⟨#[63, 62]⟩] = [63, 62] := rfl
  cases hem : VL.toList.isEmpty with
  | true =>
    rw [hem, if_pos rfl, List.append_nil] at hm
    rw [if_pos rfl, List.append_nil]
    simp only [List.length_append] at hm
    have cP := Hid.mk (put_new w0 w b 2 2 S l h [⟨#[60, 63]⟩, NM] #[.string ⟨#[60, 63]⟩, .string NM] rfl rfl (by omega) (by rw [a1, List.length_append]; omega))
    rw [a1] at cP
    have cQ := Hid.mk (fun w' (h' : WAt w0 w' b S (l ++ ([60, 63] ++ bl NM))) => put_new w0 w' b 1 1 S _ h' [⟨#[63, 62]⟩] #[.string ⟨#[63, 62]⟩] rfl rfl (by omega) (by rw [a3, List.length_append, List.length_append]; omega))
    rw [a3] at cQ
    clear h hm a1 a2 a3 e6
    go_enter Tryd.func43, Tryd.ntmps43
    go_wp2_with fail
    refine cP.out.mono ?_
    rintro e w5 ⟨rfl, a5, k5⟩
    have A5 := Hid.mk a5
    clear a5
    go_wp2_with fail
    refine (cQ.out _ A5.out).mono ?_
    rintro e w6 ⟨rfl, a6, k6⟩
    go_wp2_with fail
    go_end0
    refine ⟨rfl, ?_, k5.trans k6⟩
    simp only [List.append_assoc, List.cons_append, List.nil_append] at a6 ⊢
    exact a6
  | false =>
    rw [hem, if_neg (by decide)] at hm
    rw [if_neg (by decide)]
    simp only [List.length_append] at hm
    have cP := Hid.mk (put_new w0 w b 2 2 S l h [⟨#[60, 63]⟩, NM] #[.string ⟨#[60, 63]⟩, .string NM] rfl rfl (by omega) (by rw [a1, List.length_append]; omega))
    rw [a1] at cP
    have cV := Hid.mk (fun w' (h' : WAt w0 w' b S (l ++ ([60, 63] ++ bl NM))) => put_new w0 w' b 2 2 S _ h' [⟨#[32]⟩, VL] #[.string ⟨#[32]⟩, .string VL] rfl rfl (by omega) (by rw [a2, List.length_append, List.length_append, List.length_append]; omega))
    rw [a2] at cV
    have cQ := Hid.mk (fun w' (h' : WAt w0 w' b S (l ++ ([60, 63] ++ bl NM) ++ ([32] ++ bl VL))) => put_new w0 w' b 1 1 S _ h' [⟨#[63, 62]⟩] #[.string ⟨#[63, 62]⟩] rfl rfl (by omega) (by rw [a3]; simp only [List.length_append]; omega))
    rw [a3] at cQ
    clear h hm a1 a2 a3 e6
    go_enter Tryd.func43, Tryd.ntmps43
    go_wp2_with fail
    refine cP.out.mono ?_
    rintro e w5 ⟨rfl, a5, k5⟩
    have A5 := Hid.mk a5
    clear a5
    go_wp2_with fail
    refine (cV.out _ A5.out).mono ?_
    rintro e w6 ⟨rfl, a6, k6⟩
    have A6 := Hid.mk a6
    clear a6
    go_wp2_with fail
    refine (cQ.out _ A6.out).mono ?_
    rintro e w7 ⟨rfl, a7, k7⟩
    go_wp2_with fail
    go_end0
    refine ⟨rfl, ?_, (k5.trans k6).trans k7⟩
    simp only [List.append_assoc, List.cons_append, List.nil_append] at a7 ⊢
    exact a7
end Go.Proofs.YtjdcfaaoicnajaaDoor
