/-
  Pack: the row as bytes.
-/
import Derived.Test.YtddcilmeignlmaaGreatDoorJoin
namespace Go.Proofs.YtddcilmeignlmaaGreatDoor
open Go.RowKit

set_option maxHeartbeats 1000000 in
theorem pack_any (w : World) (s : ByteArray) (n : Nat) (hs : s.size ≤ 16777216) :
    Calls Tryz.prog 30 #[bv s n] w fun e w' => ∃ v, e = .returned v ∧ Packed w w' v (bl s) ∧ Fr [] w w' := by
  have b0 := Box.new w s n
  have f0 := (Fr.refl [] w).alloc (.cells #[.string s, .int .i64 (n : Int)] 43)
  go_enter Tryz.func30, Tryz.ntmps30
  go_wp2_with (refine wp_packStr rfl _ _ rfl s rfl rfl hs ?_; intro v w1 p1 f1)
  go_ret
  exact ⟨v, rfl, p1.from f0, f0.trans f1⟩

end Go.Proofs.YtddcilmeignlmaaGreatDoor
