/-
  Steps that are done one behind the other: the book's inTurn, where none of them fails.
-/
import Derived.Test.YtopaeomjndblkaaGreatQSum
namespace Go.Proofs.YtopaeomjndblkaaGreat
open Go.RowKit Go.Maps

set_option maxHeartbeats 1000000 in
set_option maxRecDepth 100000 in
theorem inTurn_ok (w : World) (ad : Option Addr) (n c : Nat) (fl : List (FuncId × List Value)) (hn : fl.length = n) (hm : n ≤ 1000000) (I : Nat → World → Prop) (h0 : I 0 w) (hb : ∀ i w', I i w' → ∀ j p, fl[j]? = some p → ∃ g, ad = some ⟨g, 0, none⟩ ∧ w'.cell? ⟨g, j, none⟩ = some (.func (.func p.1) #[] p.2.toArray)) (hen : ∀ (i : Nat) (p : FuncId × List Value), fl[i]? = some p → ∀ w', (callFunc p.1 p.2.toArray).run Tryz.prog w' = .ok (.enter p.1 p.2.toArray) w') (hst : ∀ i p, fl[i]? = some p → ∀ w', I i w' → Calls Tryz.prog p.1 p.2.toArray w' fun e w'' => e = .returned (.int .i64 0) ∧ I (i + 1) w'') :
    Calls Tryz.prog 100 #[.slice ad n c] w fun e w' => e = .returned (.int .i64 0) ∧ I n w' := by
  have HB := hidI hb
  have HS := hidI hst
  have HN := hidI hn
  have HE := hidI hen
  clear hb hst hn hen
  go_enter Tryz.func100, Tryz.ntmps100
  go_wp2_with fail
  go_loopw [8] (fun s8 wr => ∃ i : Nat, s8 = .int .i64 (i : Int) ∧ i ≤ n ∧ Hid (I i wr)) (fun i _ => n - (intOf i).toNat)
  case atStart => exact ⟨0, rfl, by omega, hidI h0⟩
  case round =>
    obtain ⟨i, rfl, hi, HI⟩ := hrel
    by_cases hlt : i < n
    · have q1 : (i : Int) < (n : Int) := by omega
      obtain ⟨p, hp⟩ : ∃ p, fl[i]? = some p := ⟨_, List.getElem?_eq_getElem (by have := HN.out; omega)⟩
      obtain ⟨g, rfl, hg⟩ := HB.out i _ HI.out i p hp
      have HC := hidI (HS.out i p hp _ HI.out)
      have he := HE.out i p hp wr
      clear hp
      go_wp2_with fail
      refine HC.out.mono ?_
      rintro e w2 ⟨rfl, hI2⟩
      dsimp only
      go_wp2_with fail
      refine ⟨⟨i + 1, by go_num, by omega, hidI hI2⟩, ?_⟩
      simp [intOf]
      omega
    · have q1 : ¬ (i : Int) < (n : Int) := by omega
      have e : i = n := by omega
      subst e
      go_wp2_with fail
      go_ret
      exact ⟨rfl, HI.out⟩
end Go.Proofs.YtopaeomjndblkaaGreat
