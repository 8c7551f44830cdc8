/-
  Labels: the step between two.
-/
import Derived.Test.YtddcilmeignlmaaGreatDoorLab3
namespace Go.Proofs.YtddcilmeignlmaaGreatDoor
open Go.RowKit Go.Maps Go.Lib

def preS (lo : List Bool) (i : Nat) : List Bool := (List.range i).map (fun j => lo.getD j false)
theorem preS_length (lo : List Bool) (i : Nat) : (preS lo i).length = i := by simp [preS]
theorem preS_succ (lo : List Bool) (i : Nat) : preS lo (i + 1) = preS lo i ++ [lo.getD i false] := by simp [preS, List.range_succ]
theorem chr_bit (b : Bool) : (48 : Int) + bitN b = ((chr b).toNat : Int) := by cases b <;> rfl

/-- A row of bytes of one's own, new since w. -/
structure Mine (w wr : World) (v : Value) (n : Nat) (xs : List Value) : Prop where
  own : wr.ownsRow 0 5 1 v n xs
  new : ∀ g, v.ownBlock = some g → w.heap.size ≤ g
  fr : Fr [] w wr
theorem Mine.keep {w wr w' : World} {v : Value} {n : Nat} {xs : List Value} (h : Mine w wr v n xs) (f : Fr [] wr w') : Mine w w' v n xs := ⟨own_kept h.own f (by simp), h.new, h.fr.trans f⟩
theorem Mine.app {w wr w' : World} {v : Value} {n : Nat} {xs ys : List Value} {g cap : Nat} (h : Mine w wr v n xs) (f : Fr v.ownBlock.toList wr w') (o : w'.ownsRow 0 5 1 (.slice (some ⟨g, 0, none⟩) (n + 1) cap) (n + 1) ys) (at5 : v.ownBlock = some g ∨ g = wr.heap.size) : Mine w w' (.slice (some ⟨g, 0, none⟩) (n + 1) cap) (n + 1) ys := by
  have hs := h.fr.size
  refine ⟨o, ?_, h.fr.then f (fun i hi hm => ?_)⟩
  · intro x hx
    have : g = x := by simpa [Value.ownBlock] using hx
    subst this
    rcases at5 with e | e
    · exact h.new g e
    · omega
  · simp at hm
    have := h.new i hm
    omega

set_option maxHeartbeats 4000000 in
set_option maxRecDepth 100000 in
theorem stepBetween_any (w : World) (s1 s2 : ByteArray) (n1 n2 : Nat) (lo up : List Bool) (r1 : Rep s1 n1 lo) (r2 : Rep s2 n2 up) (k : Nat) (P : Parts lo up k) (hk : k ≤ 2000) :
    Calls Tryz.prog 44 #[bv s1 n1, bv s2 n2] w fun e w' => e = .returned (.string (mkS (txt (preS lo k ++ [true])))) ∧ Fr [] w w' := by
  have hk' : (k : Int) ≤ 2000 := by omega
  have bA : Box ((w.alloc (.cells #[.string s1, .int .i64 (n1 : Int)] 43)).alloc (.cells #[.string s2, .int .i64 (n2 : Int)] 43)) w.heap.size s1 n1 := (Box.new w s1 n1).kept ((Fr.refl [] _).alloc _) (by simp)
  have bB : Box ((w.alloc (.cells #[.string s1, .int .i64 (n1 : Int)] 43)).alloc (.cells #[.string s2, .int .i64 (n2 : Int)] 43)) (w.heap.size + 1) s2 n2 := by simpa using Box.new (w.alloc (.cells #[.string s1, .int .i64 (n1 : Int)] 43)) s2 n2
  have f1 : Fr [] w ((w.alloc (.cells #[.string s1, .int .i64 (n1 : Int)] 43)).alloc (.cells #[.string s2, .int .i64 (n2 : Int)] 43)) := ((Fr.refl _ _).alloc _).alloc _
  have hmf : ∀ (fn : Fn) (first cap : Array Value) (w : World), (Instr.makeFunc fn first cap).run Tryz.prog w = .ok (.func fn first cap) w := fun _ _ _ _ => rfl
  go_enter Tryz.func44, Tryz.ntmps44
  go_wp2_with fail
  generalize (w.alloc (.cells #[.string s1, .int .i64 (n1 : Int)] 43)).alloc (.cells #[.string s2, .int .i64 (n2 : Int)] 43) = w1 at bA bB f1 ⊢
  generalize hB1 : w.heap.size + 1 = B2 at bB ⊢
  generalize hB0 : w.heap.size = B1 at bA ⊢
  have M0 : Mine w1 w1 (.slice none 0 0) 0 (tv (preS lo 0)) := ⟨World.ownsRow_nil _ _ _ _, fun g hg => by simp [Value.ownBlock] at hg, Fr.refl _ _⟩
  go_loopw [6, 7] (fun v6 v7 wr => ∃ (i : Nat) (a6 : Option Addr) (c6 : Nat), i ≤ k ∧ v7 = .int .i64 (i : Nat) ∧ v6 = .slice a6 i c6 ∧ Mine w1 wr (.slice a6 i c6) i (tv (preS lo i))) (fun _ v7 _ => k - (intOf v7).toNat)
  case atStart => exact ⟨0, none, 0, Nat.zero_le _, rfl, rfl, M0⟩
  case round =>
    obtain ⟨i, a6, c6, hi, rfl, rfl, Mi⟩ := hrel
    have hi0 : (0 : Int) ≤ (i : Int) := by omega
    have hi' : (i : Int) ≤ 2000 := by omega
    have cA := (bA.kept Mi.fr (by simp)).c0
    have cB := (bA.kept Mi.fr (by simp)).c1
    have HP : Hid (Parts lo up k) := P
    have hcase : (atI lo (i : Int) = -1 ∧ lo.getD i false = false) ∨ (atI lo (i : Int) = 0 ∧ lo.getD i false = false) ∨ (atI lo (i : Int) = 1 ∧ lo.getD i false = true) := by
      have h := max_at lo i
      rcases atI_cases lo (i : Int) with e | e | e
      · left
        rw [e] at h
        refine ⟨e, ?_⟩
        cases hb : lo.getD i false
        · rfl
        · rw [hb] at h; exact absurd h (by decide)
      · right; left
        rw [e] at h
        refine ⟨e, ?_⟩
        cases hb : lo.getD i false
        · rfl
        · rw [hb] at h; exact absurd h (by decide)
      · right; right
        rw [e] at h
        refine ⟨e, ?_⟩
        cases hb : lo.getD i false
        · rw [hb] at h; exact absurd h (by decide)
        · rfl
    clear P
    by_cases hlt : i < k
    · have hal := HP.out.along i hlt
      have hlt' : (i : Int) < (k : Int) := by omega
      obtain ⟨b, hb⟩ : ∃ b, lo.getD i false = b := ⟨_, rfl⟩
      have HBB : Hid (lo.getD i false = b) := hb
      have hat := at_any wr s1 n1 lo r1 (i : Int)
      have HBE : Hid (belowB up i = b) := (by rw [← hal]; exact hb : belowB up i = b)
      rcases hcase with ⟨e1, e2⟩ | ⟨e1, e2⟩ | ⟨e1, e2⟩
      · rw [e1] at hat
        rw [e2] at hb
        subst hb
        clear hal e1 e2
        go_wp2_with fail
        refine hat.mono ?_
        rintro e w2 ⟨rfl, f2⟩
        have M2 := Mi.keep f2
        have bB2 := bB.kept M2.fr (by simp)
        have hbl := below_any w2 B2 s2 n2 up r2 bB2 i (by omega)
        rw [HBE.out, show bitN false = 0 from rfl] at hbl
        clear Mi cA cB hat
        go_wp2_with fail
        refine hbl.mono ?_
        rintro e w3 ⟨rfl, f3⟩
        have M3 := M2.keep f3
        have bB3 := bB2.kept f3 (by simp)
        have hbl3 := below_any w3 B2 s2 n2 up r2 bB3 i (by omega)
        rw [HBE.out, show bitN false = 0 from rfl] at hbl3
        clear M2 bB2 hbl
        go_wp2_with fail
        refine hbl3.mono ?_
        rintro e w4 ⟨rfl, f4⟩
        have M4 := (M3.keep f4).keep ((Fr.refl [] w4).alloc (.cells #[.int .u8 48] 5))
        have cX : (w4.alloc (.cells #[.int .u8 48] 5)).cell? ⟨w4.heap.size, 0, none⟩ = some (.int .u8 48) := by rw [cell_of_row _ _ _ _ _ _ (heap_alloc_new w4 _)]; rfl
        clear M3 bB3 hbl3
        go_wp2_with (refine wp_app rfl _ _ rfl (.slice a6 i c6) i (tv (preS lo i)) rfl M4.own w4.heap.size 1 1 [.int .u8 48] rfl rfl (by intro j q hq; cases j with | zero => (simp at hq; subst hq; exact cX) | succ j => simp at hq) (by intro q hq; simp at hq; subst hq; rfl) (by omega) (by omega) ?_; intro g cap w7 o7 f7 at7 lt7 keep7)
        have M7 := M4.app f7 o7 at7
        refine ⟨⟨i + 1, _, _, by omega, by go_num, rfl, ?_⟩, by simp [intOf]; omega⟩
        rw [preS_succ, HBB.out, tv_snoc]
        exact M7
      · rw [e1] at hat
        rw [e2] at hb
        subst hb
        clear hal e1 e2
        go_wp2_with fail
        refine hat.mono ?_
        rintro e w2 ⟨rfl, f2⟩
        have M2 := Mi.keep f2
        have bB2 := bB.kept M2.fr (by simp)
        have hbl := below_any w2 B2 s2 n2 up r2 bB2 i (by omega)
        rw [HBE.out, show bitN false = 0 from rfl] at hbl
        clear Mi cA cB hat
        go_wp2_with fail
        refine hbl.mono ?_
        rintro e w3 ⟨rfl, f3⟩
        have M3 := M2.keep f3
        have bB3 := bB2.kept f3 (by simp)
        have hbl3 := below_any w3 B2 s2 n2 up r2 bB3 i (by omega)
        rw [HBE.out, show bitN false = 0 from rfl] at hbl3
        clear M2 bB2 hbl
        go_wp2_with fail
        refine hbl3.mono ?_
        rintro e w4 ⟨rfl, f4⟩
        have M4 := (M3.keep f4).keep ((Fr.refl [] w4).alloc (.cells #[.int .u8 48] 5))
        have cX : (w4.alloc (.cells #[.int .u8 48] 5)).cell? ⟨w4.heap.size, 0, none⟩ = some (.int .u8 48) := by rw [cell_of_row _ _ _ _ _ _ (heap_alloc_new w4 _)]; rfl
        clear M3 bB3 hbl3
        go_wp2_with (refine wp_app rfl _ _ rfl (.slice a6 i c6) i (tv (preS lo i)) rfl M4.own w4.heap.size 1 1 [.int .u8 48] rfl rfl (by intro j q hq; cases j with | zero => (simp at hq; subst hq; exact cX) | succ j => simp at hq) (by intro q hq; simp at hq; subst hq; rfl) (by omega) (by omega) ?_; intro g cap w7 o7 f7 at7 lt7 keep7)
        have M7 := M4.app f7 o7 at7
        refine ⟨⟨i + 1, _, _, by omega, by go_num, rfl, ?_⟩, by simp [intOf]; omega⟩
        rw [preS_succ, HBB.out, tv_snoc]
        exact M7
      · rw [e1] at hat
        rw [e2] at hb
        subst hb
        clear hal e1 e2
        go_wp2_with fail
        refine hat.mono ?_
        rintro e w2 ⟨rfl, f2⟩
        have M2 := Mi.keep f2
        have bB2 := bB.kept M2.fr (by simp)
        have hbl := below_any w2 B2 s2 n2 up r2 bB2 i (by omega)
        rw [HBE.out, show bitN true = 1 from rfl] at hbl
        clear Mi cA cB hat
        go_wp2_with fail
        refine hbl.mono ?_
        rintro e w3 ⟨rfl, f3⟩
        have M3 := M2.keep f3
        have bB3 := bB2.kept f3 (by simp)
        have hbl3 := below_any w3 B2 s2 n2 up r2 bB3 i (by omega)
        rw [HBE.out, show bitN true = 1 from rfl] at hbl3
        clear M2 bB2 hbl
        go_wp2_with fail
        refine hbl3.mono ?_
        rintro e w4 ⟨rfl, f4⟩
        have M4 := (M3.keep f4).keep ((Fr.refl [] w4).alloc (.cells #[.int .u8 49] 5))
        have cX : (w4.alloc (.cells #[.int .u8 49] 5)).cell? ⟨w4.heap.size, 0, none⟩ = some (.int .u8 49) := by rw [cell_of_row _ _ _ _ _ _ (heap_alloc_new w4 _)]; rfl
        clear M3 bB3 hbl3
        go_wp2_with (refine wp_app rfl _ _ rfl (.slice a6 i c6) i (tv (preS lo i)) rfl M4.own w4.heap.size 1 1 [.int .u8 49] rfl rfl (by intro j q hq; cases j with | zero => (simp at hq; subst hq; exact cX) | succ j => simp at hq) (by intro q hq; simp at hq; subst hq; rfl) (by omega) (by omega) ?_; intro g cap w7 o7 f7 at7 lt7 keep7)
        have M7 := M4.app f7 o7 at7
        refine ⟨⟨i + 1, _, _, by omega, by go_num, rfl, ?_⟩, by simp [intOf]; omega⟩
        rw [preS_succ, HBB.out, tv_snoc]
        exact M7
    · obtain rfl : k = i := by omega
      have hpt := HP.out.part
      have hat := at_any wr s1 n1 lo r1 (k : Int)
      rcases hcase with ⟨e1, e2⟩ | ⟨e1, e2⟩ | ⟨e1, e2⟩
      · rw [e1] at hat
        have HBE : Hid (belowB up k = true) := (by cases hq : belowB up k <;> first | rfl | exact absurd (by rw [hq]; exact e2) hpt : belowB up k = true)
        clear hpt e1 e2
        go_wp2_with fail
        refine hat.mono ?_
        rintro e w2 ⟨rfl, f2⟩
        have M2 := Mi.keep f2
        have bB2 := bB.kept M2.fr (by simp)
        have hbl := below_any w2 B2 s2 n2 up r2 bB2 k (by omega)
        rw [HBE.out, show bitN true = 1 from rfl] at hbl
        clear Mi cA cB hat
        go_wp2_with fail
        refine hbl.mono ?_
        rintro e w3 ⟨rfl, f3⟩
        have M4 := (M2.keep f3).keep ((Fr.refl [] w3).alloc (.cells #[.int .u8 49] 5))
        have cX : (w3.alloc (.cells #[.int .u8 49] 5)).cell? ⟨w3.heap.size, 0, none⟩ = some (.int .u8 49) := by rw [cell_of_row _ _ _ _ _ _ (heap_alloc_new w3 _)]; rfl
        clear M2 bB2 hbl
        go_wp2_with (first
          | (refine wp_app rfl _ _ rfl (.slice a6 k c6) k (tv (preS lo k)) rfl M4.own w3.heap.size 1 1 [.int .u8 49] rfl rfl (by intro j q hq; cases j with | zero => (simp at hq; subst hq; exact cX) | succ j => simp at hq) (by intro q hq; simp at hq; subst hq; rfl) (by omega) (by omega) ?_; intro g cap w7 o7 f7 at7 lt7 keep7; have M7 := M4.app f7 o7 at7; have O7 : w7.ownsRow 0 5 1 (.slice (some ⟨g, 0, none⟩) (k + 1) cap) (k + 1) (arr (txt (preS lo k ++ [true]))).toList := (by have := M7.own; rw [show tv (preS lo k) ++ [Value.int .u8 49] = (arr (txt (preS lo k ++ [true]))).toList from (tv_snoc _ true).symm] at this; exact this); obtain ⟨hba, hne⟩ := own_bytesAt (by rw [txt_length, List.length_append, preS_length]; rfl) O7)
          | (refine wp_conv rfl _ rfl (txt (preS lo k ++ [true])) _ (k + 1) cap rfl (by rw [txt_length, List.length_append, preS_length]; rfl) hba hne ?_))
        go_ret
        exact ⟨rfl, f1.trans M7.fr⟩
      · rw [e1] at hat
        have HBE : Hid (belowB up k = true) := (by cases hq : belowB up k <;> first | rfl | exact absurd (by rw [hq]; exact e2) hpt : belowB up k = true)
        clear hpt e1 e2
        go_wp2_with fail
        refine hat.mono ?_
        rintro e w2 ⟨rfl, f2⟩
        have M2 := Mi.keep f2
        have bB2 := bB.kept M2.fr (by simp)
        have hbl := below_any w2 B2 s2 n2 up r2 bB2 k (by omega)
        rw [HBE.out, show bitN true = 1 from rfl] at hbl
        clear Mi cA cB hat
        go_wp2_with fail
        refine hbl.mono ?_
        rintro e w3 ⟨rfl, f3⟩
        have M4 := (M2.keep f3).keep ((Fr.refl [] w3).alloc (.cells #[.int .u8 49] 5))
        have cX : (w3.alloc (.cells #[.int .u8 49] 5)).cell? ⟨w3.heap.size, 0, none⟩ = some (.int .u8 49) := by rw [cell_of_row _ _ _ _ _ _ (heap_alloc_new w3 _)]; rfl
        clear M2 bB2 hbl
        go_wp2_with (first
          | (refine wp_app rfl _ _ rfl (.slice a6 k c6) k (tv (preS lo k)) rfl M4.own w3.heap.size 1 1 [.int .u8 49] rfl rfl (by intro j q hq; cases j with | zero => (simp at hq; subst hq; exact cX) | succ j => simp at hq) (by intro q hq; simp at hq; subst hq; rfl) (by omega) (by omega) ?_; intro g cap w7 o7 f7 at7 lt7 keep7; have M7 := M4.app f7 o7 at7; have O7 : w7.ownsRow 0 5 1 (.slice (some ⟨g, 0, none⟩) (k + 1) cap) (k + 1) (arr (txt (preS lo k ++ [true]))).toList := (by have := M7.own; rw [show tv (preS lo k) ++ [Value.int .u8 49] = (arr (txt (preS lo k ++ [true]))).toList from (tv_snoc _ true).symm] at this; exact this); obtain ⟨hba, hne⟩ := own_bytesAt (by rw [txt_length, List.length_append, preS_length]; rfl) O7)
          | (refine wp_conv rfl _ rfl (txt (preS lo k ++ [true])) _ (k + 1) cap rfl (by rw [txt_length, List.length_append, preS_length]; rfl) hba hne ?_))
        go_ret
        exact ⟨rfl, f1.trans M7.fr⟩
      · rw [e1] at hat
        have HBE : Hid (belowB up k = false) := (by cases hq : belowB up k <;> first | rfl | exact absurd (by rw [hq]; exact e2) hpt : belowB up k = false)
        clear hpt e1 e2
        go_wp2_with fail
        refine hat.mono ?_
        rintro e w2 ⟨rfl, f2⟩
        have M2 := Mi.keep f2
        have bB2 := bB.kept M2.fr (by simp)
        have hbl := below_any w2 B2 s2 n2 up r2 bB2 k (by omega)
        rw [HBE.out, show bitN false = 0 from rfl] at hbl
        clear Mi cA cB hat
        go_wp2_with fail
        refine hbl.mono ?_
        rintro e w3 ⟨rfl, f3⟩
        have M4 := (M2.keep f3).keep ((Fr.refl [] w3).alloc (.cells #[.int .u8 49] 5))
        have cX : (w3.alloc (.cells #[.int .u8 49] 5)).cell? ⟨w3.heap.size, 0, none⟩ = some (.int .u8 49) := by rw [cell_of_row _ _ _ _ _ _ (heap_alloc_new w3 _)]; rfl
        clear M2 bB2 hbl
        go_wp2_with (first
          | (refine wp_app rfl _ _ rfl (.slice a6 k c6) k (tv (preS lo k)) rfl M4.own w3.heap.size 1 1 [.int .u8 49] rfl rfl (by intro j q hq; cases j with | zero => (simp at hq; subst hq; exact cX) | succ j => simp at hq) (by intro q hq; simp at hq; subst hq; rfl) (by omega) (by omega) ?_; intro g cap w7 o7 f7 at7 lt7 keep7; have M7 := M4.app f7 o7 at7; have O7 : w7.ownsRow 0 5 1 (.slice (some ⟨g, 0, none⟩) (k + 1) cap) (k + 1) (arr (txt (preS lo k ++ [true]))).toList := (by have := M7.own; rw [show tv (preS lo k) ++ [Value.int .u8 49] = (arr (txt (preS lo k ++ [true]))).toList from (tv_snoc _ true).symm] at this; exact this); obtain ⟨hba, hne⟩ := own_bytesAt (by rw [txt_length, List.length_append, preS_length]; rfl) O7)
          | (refine wp_conv rfl _ rfl (txt (preS lo k ++ [true])) _ (k + 1) cap rfl (by rw [txt_length, List.length_append, preS_length]; rfl) hba hne ?_))
        go_ret
        exact ⟨rfl, f1.trans M7.fr⟩

end Go.Proofs.YtddcilmeignlmaaGreatDoor
