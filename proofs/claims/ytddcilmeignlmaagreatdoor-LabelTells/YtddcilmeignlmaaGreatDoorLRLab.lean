/-
  The document's own answer: a label of steps.
-/
import Derived.Test.YtddcilmeignlmaaGreatDoorLRStr
namespace Go.Proofs.YtddcilmeignlmaaGreatDoor
open Go.RowKit Go.Maps Go.Lib

theorem okS_len {ss : List (List Bool)} {l : List UInt8} {K : Nat} (h : OfTo (txt (enc ss)) l K (enc ss).length) (hK : ((enc ss).length + 7) / 8 = K) (hm : (enc ss).length ≤ 1024) (ho : ∀ s ∈ ss, okS s) : Lab l ss ∧ l.length = K := by
  refine ⟨⟨ho, hm, ?_⟩, h.len⟩
  have hz : (mkS (txt (enc ss))).size = (enc ss).length := by rw [mkS_size, txt_length]
  have hr := OfTo.rep (s := mkS (txt (enc ss))) (room := l) (K := K) (by rw [hz, bl_mkS]; exact h) (by omega) (by rw [hz]; exact hK)
  rw [hz, bl_mkS, said_txt] at hr
  exact hr
theorem own_out {w w' : World} {v : Value} {n : Nat} {l : List UInt8} (h : Own w w' v n (arr l).toList) (hl : l.length = n) : Out w w' v l := by
  obtain ⟨ad, cap, rfl, _⟩ := h.form
  subst hl
  exact ⟨ad, cap, rfl, h.1⟩
set_option maxHeartbeats 2000000 in
theorem rlabel_any (w : World) (ad : Option Addr) (n c : Nat) (ss : List (List Bool)) (hn : ss.length = n) (hS : StrAt w ad (ss.map sT)) (hm : (enc ss).length ≤ 3000) (ho : ∀ s ∈ ss, okS s) :
    Calls Tryz.prog 32 #[.slice ad n c] w fun e w' => (((enc ss).length ≤ 1024 ∧ ∃ v l, e = .returned (.tuple #[v, .bool true]) ∧ Lab l ss ∧ Out w w' v l) ∨ (1024 < (enc ss).length ∧ e = .returned (.tuple #[.slice none 0 0, .bool false]))) ∧ Fr [] w w' := by
  have cB : Hid (Calls Tryz.prog 37 #[.slice ad n c] w fun e w' => e = .returned (.string (mkS (txt (enc ss)))) ∧ Fr [] w w') := rbits_any w ad n c ss hn hS hm
  have hz : (mkS (txt (enc ss))).size = (enc ss).length := by rw [mkS_size, txt_length]
  have cP : Hid (∀ u, Calls Tryz.prog 38 #[.string (mkS (txt (enc ss)))] u fun e w' => ∃ v l, e = .returned v ∧ Own u w' v (((mkS (txt (enc ss))).size + 7) / 8) (arr l).toList ∧ OfTo (bl (mkS (txt (enc ss)))) l (((mkS (txt (enc ss))).size + 7) / 8) (mkS (txt (enc ss))).size) := fun u => rpack_any u _ (by omega)
  have HO : Hid (∀ s ∈ ss, okS s) := ho
  have HZ : Hid ((mkS (txt (enc ss))).size = (enc ss).length) := hz
  by_cases hb : 1024 < (enc ss).length
  · have hb' : (1024 : Int) < ((mkS (txt (enc ss))).size : Int) := by omega
    have hb2 : 1024 < (mkS (txt (enc ss))).size := by omega
    clear hS ho hz hn hm
    go_enter Tryz.func32, Tryz.ntmps32
    go_wp2_with (go_at_call 37; refine cB.out.mono ?_; rintro e w5 ⟨rfl, f5⟩)
    go_ret2
    exact ⟨Or.inr ⟨hb, rfl⟩, f5⟩
  · have hb' : ¬ (1024 : Int) < ((mkS (txt (enc ss))).size : Int) := by omega
    have hb2 : ¬ 1024 < (mkS (txt (enc ss))).size := by omega
    clear hS ho hz hn hm
    go_enter Tryz.func32, Tryz.ntmps32
    go_wp2_with (first
      | (go_at_call 37; refine cB.out.mono ?_; rintro e w5 ⟨rfl, f5⟩)
      | (go_at_call 38; refine (cP.out _).mono ?_; rintro e w6 ⟨v, l, rfl, ow, kl⟩))
    go_ret2
    rw [HZ.out] at ow kl
    rw [bl_mkS] at kl
    obtain ⟨L, ll⟩ := okS_len kl rfl (by omega) HO.out
    have oo := own_out ow ll
    refine ⟨Or.inl ⟨by omega, v, l, rfl, L, ?_⟩, f5.trans ow.2⟩
    exact oo.from f5
end Go.Proofs.YtddcilmeignlmaaGreatDoor
