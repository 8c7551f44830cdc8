/-
  KeyNumbers: the walk.
-/
import Derived.Test.YthaekjolbjmjfaaDoorKReg
namespace Go.Proofs.YthaekjolbjmjfaaDoor
open Go.RowKit Go.Maps

theorem ofBe_x (x : Int) (u : Nat) (hx : x + 9223372036854775808 = (u : Int)) (hu : u < 18446744073709551616) : ((ofBe ((be 8 u).take 8) : Nat) : Int) - 9223372036854775808 = x := by
  rw [List.take_of_length_le (by rw [be_length]; omega), ofBe_be, Nat.mod_eq_of_lt (by omega)]
  omega
theorem BytesAt.take {w : World} {ad : Option Addr} {l : List UInt8} (h : BytesAt w ad l) (n : Nat) : BytesAt w ad (l.take n) := by
  intro j v hv
  simp only [arr, List.map_take, List.getElem?_take] at hv
  split at hv
  · exact h j v (by simpa [arr] using hv)
  · cases hv
theorem Own.at {w0 w : World} {ad : Option Addr} {n cap : Nat} {xs : List Value} (h : Own w0 w (.slice ad n cap) n xs) (h0 : 0 < n) : ∃ g, ad = some ⟨g, 0, none⟩ ∧ n ≤ cap ∧ w0.heap.size ≤ g := by
  rcases h.1.2 with ⟨e, e2⟩ | ⟨g, c, cur, e, hb, _, hnc, _⟩
  · omega
  · cases e
    exact ⟨g, rfl, hnc, hb⟩

theorem op_appN {o : Oper} {a : Act} {w : World} {K : Act → World → Prop} {Q : Exit → Act → World → Prop} (s x : Operand) (ho : o.op = .call { callee := .builtin .append, args := #[s, x], argTypes := #[22, 22] }) (w0 : World) (v : Value) (n : Nat) (xs : List Value) (hs : a.eval s = v) (hown : Own w0 w v n xs)
    (ad : Option Addr) (m c : Nat) (l : List UInt8) (hx : a.eval x = .slice ad m c) (hl : l.length = m) (hsrc : BytesAt w ad l) (hm : n + m ≤ 1000000) (hne : m = 0 → (∃ x, ad = some x))
    (h : ∀ v' w', Own w0 w' v' (n + m) (xs ++ (arr l).toList) → K (a.put o.dst v') w') : Oper.wp Tryd.prog o a w K Q := by
  obtain ⟨v', w', hrun, hown'⟩ := run_appN o.type w0 v n xs hown ad m c l hl hsrc hm hne
  unfold Oper.wp execOp
  simp [ho, resolve, invoke, builtin, hs, hx, hrun, Result.andThen]
  exact h _ _ hown'

def numsL : List Int := [-9223372036854775808, -9223372036854775807, -257, -256, -1, 0, 1, 255, 256, 4611686018427387903, 9223372036854775807]
theorem numsL_at (j : Nat) (h : j < 11) : ∃ (x : Int) (u : Nat), numsL[j]? = some x ∧ x + 9223372036854775808 = (u : Int) ∧ u < 18446744073709551616 := by
  have : ∀ j : Fin 11, ∃ (x : Int) (u : Nat), numsL[j.val]? = some x ∧ x + 9223372036854775808 = (u : Int) ∧ u < 18446744073709551616 := by
    intro j
    refine ⟨(numsL[j.val]?).getD 0, ((numsL[j.val]?).getD 0 + 9223372036854775808).toNat, ?_⟩
    revert j
    decide
  exact this ⟨j, h⟩

def yesL : List ByteArray := [⟨#[48]⟩, ⟨#[55]⟩, ⟨#[45, 49]⟩, ⟨#[49, 48]⟩, ⟨#[57, 50, 50, 51, 51, 55, 50, 48, 51, 54, 56, 53, 52, 55, 55, 53, 56, 48, 55]⟩, ⟨#[45, 57, 50, 50, 51, 51, 55, 50, 48, 51, 54, 56, 53, 52, 55, 55, 53, 56, 48, 56]⟩]
def noL : List ByteArray := [⟨#[]⟩, ⟨#[45]⟩, ⟨#[45, 48]⟩, ⟨#[48, 48]⟩, ⟨#[48, 49]⟩, ⟨#[45, 48, 49]⟩, ⟨#[43, 49]⟩, ⟨#[49, 32]⟩, ⟨#[32, 49]⟩, ⟨#[49, 97]⟩, ⟨#[57, 50, 50, 51, 51, 55, 50, 48, 51, 54, 56, 53, 52, 55, 55, 53, 56, 48, 56]⟩, ⟨#[45, 57, 50, 50, 51, 51, 55, 50, 48, 51, 54, 56, 53, 52, 55, 55, 53, 56, 48, 57]⟩, ⟨#[49, 48, 48, 48, 48, 48, 48, 48, 48, 48, 48, 48, 48, 48, 48, 48, 48, 48, 48, 48]⟩, ⟨#[48, 120, 49]⟩, ⟨#[49, 46, 48]⟩, ⟨#[45, 45, 49]⟩, ⟨#[255]⟩]
theorem yes_ok : ∀ j : Fin 6, ((yesL[j.val]?).map fun s => (refW (bl s)).isSome) = some true := by decide
theorem no_ok : ∀ j : Fin 17, ((noL[j.val]?).map fun s => refW (bl s)) = some none := by decide
theorem len_ok : (∀ j : Fin 6, ((yesL[j.val]?).map fun s => decide (s.size ≤ 20000)) = some true) ∧ ∀ j : Fin 17, ((noL[j.val]?).map fun s => decide (s.size ≤ 20000)) = some true := by decide
theorem yes_at (j : Nat) (h : j < 6) : ∃ s, yesL[j]? = some s ∧ (refW (bl s)).isSome = true ∧ s.size ≤ 20000 := by
  have h1 := yes_ok ⟨j, h⟩
  have h2 := len_ok.1 ⟨j, h⟩
  simp only at h1 h2
  cases hs : yesL[j]? with
  | none => rw [hs] at h1; cases h1
  | some s =>
    rw [hs] at h1 h2
    exact ⟨s, rfl, by simpa using h1, by simpa using h2⟩
theorem no_at (j : Nat) (h : j < 17) : ∃ s, noL[j]? = some s ∧ refW (bl s) = none ∧ s.size ≤ 20000 := by
  have h1 := no_ok ⟨j, h⟩
  have h2 := len_ok.2 ⟨j, h⟩
  simp only at h1 h2
  cases hs : noL[j]? with
  | none => rw [hs] at h1; cases h1
  | some s =>
    rw [hs] at h1 h2
    exact ⟨s, rfl, by simpa using h1, by simpa using h2⟩

set_option maxHeartbeats 4000000 in
set_option maxRecDepth 100000 in
theorem keyNumbers_law (w : World) (L : LaidW w) :
    Calls Tryd.prog 7 #[] w fun e w' => e = .returned (.bool true) ∧ Fr [] w w' := by
  go_enter Tryd.func7, Tryd.ntmps7
  go_wp2_with fail
  have f0 := frA w (.cells #[.int .i64 (-9223372036854775808), .int .i64 (-9223372036854775807), .int .i64 (-257), .int .i64 (-256), .int .i64 (-1), .int .i64 0, .int .i64 1, .int .i64 255, .int .i64 256, .int .i64 4611686018427387903, .int .i64 9223372036854775807] 2)
  have c0 := heap_alloc_new w (.cells #[.int .i64 (-9223372036854775808), .int .i64 (-9223372036854775807), .int .i64 (-257), .int .i64 (-256), .int .i64 (-1), .int .i64 0, .int .i64 1, .int .i64 255, .int .i64 256, .int .i64 4611686018427387903, .int .i64 9223372036854775807] 2)
  generalize w.alloc (.cells #[.int .i64 (-9223372036854775808), .int .i64 (-9223372036854775807), .int .i64 (-257), .int .i64 (-256), .int .i64 (-1), .int .i64 0, .int .i64 1, .int .i64 255, .int .i64 256, .int .i64 4611686018427387903, .int .i64 9223372036854775807] 2) = w1 at f0 c0 ⊢
  generalize w.heap.size = B at c0 ⊢
  have HN : Hid (∀ w', Fr [] w1 w' → ∀ j x, numsL[j]? = some x → w'.cell? ⟨B, j, none⟩ = some (.int .i64 x)) := fun w' f j x hx => by
    rw [cell_of_row w' B j _ _ _ (f.same (by simp) c0)]
    have e : (#[.int .i64 (-9223372036854775808), .int .i64 (-9223372036854775807), .int .i64 (-257), .int .i64 (-256), .int .i64 (-1), .int .i64 0, .int .i64 1, .int .i64 255, .int .i64 256, .int .i64 4611686018427387903, .int .i64 9223372036854775807] : Array Value) = (numsL.map (Value.int .i64)).toArray := rfl
    rw [e]
    simp [hx]
  clear c0
  go_loopw [2] (fun i wr => ∃ j : Nat, j ≤ 11 ∧ i = .int .i64 j ∧ Fr [] w1 wr) (fun i _ => 11 - (intOf i).toNat)
  case atStart => exact ⟨0, by omega, rfl, Fr.refl _ _⟩
  case round =>
    obtain ⟨j, hj, rfl, fr⟩ := hrel
    by_cases hlt : j < 11
    · have hlt' : (j : Int) < 11 := by omega
      have hj0 : (0 : Int) ≤ (j : Int) := by omega
      obtain ⟨x, u, hx, hxu, hu⟩ := numsL_at j hlt
      have HX := Lib.hid hx
      have HXU := Lib.hid hxu
      clear hx hxu
      have q1 := HN.out _ fr j x HX.out
      go_wp2_with fail
      refine (putInt_out _ x u HXU.out hu).mono ?_
      rintro e w2 ⟨ad2, cap2, rfl, o2⟩
      go_wp2_with fail
      refine (getInt_any _ ad2 8 cap2 _ (be_length 8 u) o2.bytes (by omega) (by omega)).mono ?_
      rw [ofBe_x x u HXU.out hu]
      rintro e w2 ⟨rfl, rfl⟩
      obtain ⟨g, rfl, hcap, hg⟩ := o2.at (by omega)
      have hcap' : (8 : Int) ≤ (cap2 : Int) := by omega
      have hcap'' : (7 : Int) ≤ (cap2 : Int) := by omega
      have hcz : ¬ cap2 = 0 := by omega
      have hbx : (x != x) = false := by simp
      have L2 := L.kept ((f0.trans fr).trans o2.2)
      have HXU2 := Lib.hid (show -9223372036854775808 ≤ x ∧ x ≤ 9223372036854775807 by have := HXU.out; omega)
      have gg : Fr [] wr w2.drew := o2.2.drew
      have oo : Own wr w2.drew (.slice (some ⟨g, 0, none⟩) 8 cap2) 8 (arr (be 8 u)).toList := o2.kept (Fr.refl _ _).drew
      have hS : Hid (∀ w', Fr [] wr w' → w'.cell? ⟨B, j, none⟩ = some (.int .i64 x)) := fun w' f => HN.out _ (fr.trans f) j x HX.out
      clear o2 q1
      go_wp2_with fail
      go_region_held3 (fun w' => w'.cell? ⟨B, j, none⟩ = some (.int .i64 x)) (first | exact hS.out _ gg | exact hS.out _ (gg.alloc _))
        (first
          | (go_at_call_of 3 (#[Value.int IntKind.i64 x, Value.slice (some { block := g, off := 0 }) 7 cap2]); refine (keyInts_law _ (L.kept ((f0.trans fr).trans gg)) x HXU2.out.1 HXU2.out.2 _ 7 _ ((be 8 u).take 7) (by rw [List.length_take, be_length]; rfl) (oo.bytes.take 7) (by omega)).mono ?_; rintro e w5 ⟨rfl, f5⟩; replace gg := gg.trans f5; replace oo := oo.kept f5)
          | (refine op_appN _ _ rfl wr _ 8 _ rfl (oo.kept (frA _ _)) _ 1 _ [3] rfl rfl (one_src _ 3 3 rfl) (by omega) (fun h => absurd h (by omega)) ?_; intro v6 w6 o6; obtain ⟨ad6, cap6, rfl⟩ := o6.out; replace gg := o6.2)
          | (go_at_call 3; refine (keyInts_law _ (L.kept ((f0.trans fr).trans gg)) x HXU2.out.1 HXU2.out.2 _ 9 _ (be 8 u ++ [3]) (by rw [List.length_append, be_length]; rfl) (o6.app rfl rfl).bytes (by omega)).mono ?_; rintro e w7 ⟨rfl, f7⟩; replace gg := gg.trans f7))
      clear hbx hS
      go_wp2_with fail
      exact ⟨⟨j + 1, by omega, by go_num, fr.trans gg⟩, by simp [intOf]; omega⟩
    · obtain rfl : j = 11 := by omega
      rw [show ((11 : Nat) : Int) = 11 from rfl]
      go_wp2_with fail
      have f2 := f0.trans fr
      clear f0 fr HN
      obtain ⟨w2, rfl⟩ : ∃ w2, w2 = wr := ⟨_, rfl⟩
      go_loopw [7] (fun i wr => ∃ j : Nat, j ≤ 256 ∧ i = .int .i64 j ∧ Fr [] w2 wr) (fun i _ => 256 - (intOf i).toNat)
      case atStart => exact ⟨0, by omega, rfl, Fr.refl _ _⟩
      case round =>
        obtain ⟨j, hj, rfl, fr⟩ := hrel
        by_cases hlt : j < 256
        · have hlt' : (j : Int) < 256 := by omega
          have hj0 : (0 : Int) ≤ (j : Int) := by omega
          have hb : (j : Int) = ((UInt8.ofNat j).toNat : Int) := by rw [UInt8.toNat_ofNat']; omega
          have HB := Lib.hid hb
          clear hb
          go_wp2_with fail
          refine (keyRows_law _ (L.kept ((f2.trans fr).trans (frA _ _))) _ 1 _ [UInt8.ofNat j] rfl (lit_src _ _ _ (by rw [HB.out]; rfl)) (by omega)).mono ?_
          rintro e v0 ⟨rfl, g0⟩
          replace g0 := (fr.trans (frA _ _)).trans g0
          go_wp2_with fail
          refine (keyRows_law _ (L.kept ((f2.trans g0).trans (frA _ _))) _ 2 _ [0, UInt8.ofNat j] rfl (lit_src _ _ _ (by rw [HB.out]; rfl)) (by omega)).mono ?_
          rintro e v1 ⟨rfl, g1⟩
          replace g1 := (g0.trans (frA _ _)).trans g1
          go_wp2_with fail
          refine (keyRows_law _ (L.kept ((f2.trans g1).trans (frA _ _))) _ 4 _ [0, UInt8.ofNat j, 0, 0] rfl (lit_src _ _ _ (by rw [HB.out]; rfl)) (by omega)).mono ?_
          rintro e v2 ⟨rfl, g2⟩
          replace g2 := (g1.trans (frA _ _)).trans g2
          go_wp2_with fail
          refine (keyRows_law _ (L.kept ((f2.trans g2).trans (frA _ _))) _ 2 _ [UInt8.ofNat j, 0] rfl (lit_src _ _ _ (by rw [HB.out]; rfl)) (by omega)).mono ?_
          rintro e v3 ⟨rfl, g3⟩
          replace g3 := (g2.trans (frA _ _)).trans g3
          go_wp2_with fail
          refine (keyRows_law _ (L.kept ((f2.trans g3).trans (frA _ _))) _ 7 _ [1, 0, 255, UInt8.ofNat j, 0, 0, 0] rfl (lit_src _ _ _ (by rw [HB.out]; rfl)) (by omega)).mono ?_
          rintro e v4 ⟨rfl, g4⟩
          replace g4 := (g3.trans (frA _ _)).trans g4
          go_wp2_with fail
          exact ⟨⟨j + 1, by omega, by go_num, g4⟩, by simp [intOf]; omega⟩
        · obtain rfl : j = 256 := by omega
          rw [show ((256 : Nat) : Int) = 256 from rfl]
          go_wp2_with fail
          have hY := (heap_alloc_new wr (.cells #[.string ⟨#[48]⟩, .string ⟨#[55]⟩, .string ⟨#[45, 49]⟩, .string ⟨#[49, 48]⟩, .string ⟨#[57, 50, 50, 51, 51, 55, 50, 48, 51, 54, 56, 53, 52, 55, 55, 53, 56, 48, 55]⟩, .string ⟨#[45, 57, 50, 50, 51, 51, 55, 50, 48, 51, 54, 56, 53, 52, 55, 55, 53, 56, 48, 56]⟩] 9))
          have hY2 : ((wr.alloc (.cells #[.string ⟨#[48]⟩, .string ⟨#[55]⟩, .string ⟨#[45, 49]⟩, .string ⟨#[49, 48]⟩, .string ⟨#[57, 50, 50, 51, 51, 55, 50, 48, 51, 54, 56, 53, 52, 55, 55, 53, 56, 48, 55]⟩, .string ⟨#[45, 57, 50, 50, 51, 51, 55, 50, 48, 51, 54, 56, 53, 52, 55, 55, 53, 56, 48, 56]⟩] 9)).alloc (.cells #[.string ⟨#[]⟩, .string ⟨#[45]⟩, .string ⟨#[45, 48]⟩, .string ⟨#[48, 48]⟩, .string ⟨#[48, 49]⟩, .string ⟨#[45, 48, 49]⟩, .string ⟨#[43, 49]⟩, .string ⟨#[49, 32]⟩, .string ⟨#[32, 49]⟩, .string ⟨#[49, 97]⟩, .string ⟨#[57, 50, 50, 51, 51, 55, 50, 48, 51, 54, 56, 53, 52, 55, 55, 53, 56, 48, 56]⟩, .string ⟨#[45, 57, 50, 50, 51, 51, 55, 50, 48, 51, 54, 56, 53, 52, 55, 55, 53, 56, 48, 57]⟩, .string ⟨#[49, 48, 48, 48, 48, 48, 48, 48, 48, 48, 48, 48, 48, 48, 48, 48, 48, 48, 48, 48]⟩, .string ⟨#[48, 120, 49]⟩, .string ⟨#[49, 46, 48]⟩, .string ⟨#[45, 45, 49]⟩, .string ⟨#[255]⟩] 9)).heap[wr.heap.size]? = some (.cells #[.string ⟨#[48]⟩, .string ⟨#[55]⟩, .string ⟨#[45, 49]⟩, .string ⟨#[49, 48]⟩, .string ⟨#[57, 50, 50, 51, 51, 55, 50, 48, 51, 54, 56, 53, 52, 55, 55, 53, 56, 48, 55]⟩, .string ⟨#[45, 57, 50, 50, 51, 51, 55, 50, 48, 51, 54, 56, 53, 52, 55, 55, 53, 56, 48, 56]⟩] 9) := (frA _ _).same (by simp) hY
          have hN := heap_alloc_new (wr.alloc (.cells #[.string ⟨#[48]⟩, .string ⟨#[55]⟩, .string ⟨#[45, 49]⟩, .string ⟨#[49, 48]⟩, .string ⟨#[57, 50, 50, 51, 51, 55, 50, 48, 51, 54, 56, 53, 52, 55, 55, 53, 56, 48, 55]⟩, .string ⟨#[45, 57, 50, 50, 51, 51, 55, 50, 48, 51, 54, 56, 53, 52, 55, 55, 53, 56, 48, 56]⟩] 9)) (.cells #[.string ⟨#[]⟩, .string ⟨#[45]⟩, .string ⟨#[45, 48]⟩, .string ⟨#[48, 48]⟩, .string ⟨#[48, 49]⟩, .string ⟨#[45, 48, 49]⟩, .string ⟨#[43, 49]⟩, .string ⟨#[49, 32]⟩, .string ⟨#[32, 49]⟩, .string ⟨#[49, 97]⟩, .string ⟨#[57, 50, 50, 51, 51, 55, 50, 48, 51, 54, 56, 53, 52, 55, 55, 53, 56, 48, 56]⟩, .string ⟨#[45, 57, 50, 50, 51, 51, 55, 50, 48, 51, 54, 56, 53, 52, 55, 55, 53, 56, 48, 57]⟩, .string ⟨#[49, 48, 48, 48, 48, 48, 48, 48, 48, 48, 48, 48, 48, 48, 48, 48, 48, 48, 48, 48]⟩, .string ⟨#[48, 120, 49]⟩, .string ⟨#[49, 46, 48]⟩, .string ⟨#[45, 45, 49]⟩, .string ⟨#[255]⟩] 9)
          have hsz : (wr.alloc (.cells #[.string ⟨#[48]⟩, .string ⟨#[55]⟩, .string ⟨#[45, 49]⟩, .string ⟨#[49, 48]⟩, .string ⟨#[57, 50, 50, 51, 51, 55, 50, 48, 51, 54, 56, 53, 52, 55, 55, 53, 56, 48, 55]⟩, .string ⟨#[45, 57, 50, 50, 51, 51, 55, 50, 48, 51, 54, 56, 53, 52, 55, 55, 53, 56, 48, 56]⟩] 9)).heap.size = wr.heap.size + 1 := by simp
          rw [hsz] at hN
          have f3 : Fr [] w ((wr.alloc (.cells #[.string ⟨#[48]⟩, .string ⟨#[55]⟩, .string ⟨#[45, 49]⟩, .string ⟨#[49, 48]⟩, .string ⟨#[57, 50, 50, 51, 51, 55, 50, 48, 51, 54, 56, 53, 52, 55, 55, 53, 56, 48, 55]⟩, .string ⟨#[45, 57, 50, 50, 51, 51, 55, 50, 48, 51, 54, 56, 53, 52, 55, 55, 53, 56, 48, 56]⟩] 9)).alloc (.cells #[.string ⟨#[]⟩, .string ⟨#[45]⟩, .string ⟨#[45, 48]⟩, .string ⟨#[48, 48]⟩, .string ⟨#[48, 49]⟩, .string ⟨#[45, 48, 49]⟩, .string ⟨#[43, 49]⟩, .string ⟨#[49, 32]⟩, .string ⟨#[32, 49]⟩, .string ⟨#[49, 97]⟩, .string ⟨#[57, 50, 50, 51, 51, 55, 50, 48, 51, 54, 56, 53, 52, 55, 55, 53, 56, 48, 56]⟩, .string ⟨#[45, 57, 50, 50, 51, 51, 55, 50, 48, 51, 54, 56, 53, 52, 55, 55, 53, 56, 48, 57]⟩, .string ⟨#[49, 48, 48, 48, 48, 48, 48, 48, 48, 48, 48, 48, 48, 48, 48, 48, 48, 48, 48, 48]⟩, .string ⟨#[48, 120, 49]⟩, .string ⟨#[49, 46, 48]⟩, .string ⟨#[45, 45, 49]⟩, .string ⟨#[255]⟩] 9)) := ((f2.trans fr).trans (frA _ _)).trans (frA _ _)
          generalize (wr.alloc (.cells #[.string ⟨#[48]⟩, .string ⟨#[55]⟩, .string ⟨#[45, 49]⟩, .string ⟨#[49, 48]⟩, .string ⟨#[57, 50, 50, 51, 51, 55, 50, 48, 51, 54, 56, 53, 52, 55, 55, 53, 56, 48, 55]⟩, .string ⟨#[45, 57, 50, 50, 51, 51, 55, 50, 48, 51, 54, 56, 53, 52, 55, 55, 53, 56, 48, 56]⟩] 9)).alloc (.cells #[.string ⟨#[]⟩, .string ⟨#[45]⟩, .string ⟨#[45, 48]⟩, .string ⟨#[48, 48]⟩, .string ⟨#[48, 49]⟩, .string ⟨#[45, 48, 49]⟩, .string ⟨#[43, 49]⟩, .string ⟨#[49, 32]⟩, .string ⟨#[32, 49]⟩, .string ⟨#[49, 97]⟩, .string ⟨#[57, 50, 50, 51, 51, 55, 50, 48, 51, 54, 56, 53, 52, 55, 55, 53, 56, 48, 56]⟩, .string ⟨#[45, 57, 50, 50, 51, 51, 55, 50, 48, 51, 54, 56, 53, 52, 55, 55, 53, 56, 48, 57]⟩, .string ⟨#[49, 48, 48, 48, 48, 48, 48, 48, 48, 48, 48, 48, 48, 48, 48, 48, 48, 48, 48, 48]⟩, .string ⟨#[48, 120, 49]⟩, .string ⟨#[49, 46, 48]⟩, .string ⟨#[45, 45, 49]⟩, .string ⟨#[255]⟩] 9) = w3 at hY2 hN f3 ⊢
          have HY : Hid (∀ w', Fr [] w3 w' → ∀ j s, yesL[j]? = some s → w'.cell? ⟨wr.heap.size, j, none⟩ = some (.string s)) := fun w' f j s hs => by
            rw [cell_of_row w' _ j _ _ _ (f.same (by simp) hY2)]
            have e : (#[.string ⟨#[48]⟩, .string ⟨#[55]⟩, .string ⟨#[45, 49]⟩, .string ⟨#[49, 48]⟩, .string ⟨#[57, 50, 50, 51, 51, 55, 50, 48, 51, 54, 56, 53, 52, 55, 55, 53, 56, 48, 55]⟩, .string ⟨#[45, 57, 50, 50, 51, 51, 55, 50, 48, 51, 54, 56, 53, 52, 55, 55, 53, 56, 48, 56]⟩] : Array Value) = (yesL.map Value.string).toArray := rfl
            rw [e]
            simp [hs]
          have HNo : Hid (∀ w', Fr [] w3 w' → ∀ j s, noL[j]? = some s → w'.cell? ⟨wr.heap.size + 1, j, none⟩ = some (.string s)) := fun w' f j s hs => by
            rw [cell_of_row w' _ j _ _ _ (f.same (by simp) hN)]
            have e : (#[.string ⟨#[]⟩, .string ⟨#[45]⟩, .string ⟨#[45, 48]⟩, .string ⟨#[48, 48]⟩, .string ⟨#[48, 49]⟩, .string ⟨#[45, 48, 49]⟩, .string ⟨#[43, 49]⟩, .string ⟨#[49, 32]⟩, .string ⟨#[32, 49]⟩, .string ⟨#[49, 97]⟩, .string ⟨#[57, 50, 50, 51, 51, 55, 50, 48, 51, 54, 56, 53, 52, 55, 55, 53, 56, 48, 56]⟩, .string ⟨#[45, 57, 50, 50, 51, 51, 55, 50, 48, 51, 54, 56, 53, 52, 55, 55, 53, 56, 48, 57]⟩, .string ⟨#[49, 48, 48, 48, 48, 48, 48, 48, 48, 48, 48, 48, 48, 48, 48, 48, 48, 48, 48, 48]⟩, .string ⟨#[48, 120, 49]⟩, .string ⟨#[49, 46, 48]⟩, .string ⟨#[45, 45, 49]⟩, .string ⟨#[255]⟩] : Array Value) = (noL.map Value.string).toArray := rfl
            rw [e]
            simp [hs]
          clear hY hY2 hN hsz
          generalize wr.heap.size = BY at HY HNo ⊢
          clear fr f2
          go_loopw [11] (fun i wr => ∃ j : Nat, j ≤ 6 ∧ i = .int .i64 j ∧ Fr [] w3 wr) (fun i _ => 6 - (intOf i).toNat)
          case atStart => exact ⟨0, by omega, rfl, Fr.refl _ _⟩
          case round =>
            obtain ⟨j, hj, rfl, fr⟩ := hrel
            by_cases hlt : j < 6
            · have hlt' : (j : Int) < 6 := by omega
              have hj0 : (0 : Int) ≤ (j : Int) := by omega
              obtain ⟨s, hs, hok, hsz⟩ := yes_at j hlt
              have HS := Lib.hid hs
              have HOK := Lib.hid hok
              have HSZ := Lib.hid hsz
              clear hs hok hsz
              have q1 := HY.out _ fr j s HS.out
              go_wp2_with fail
              refine (whole_any _ s (by have := HSZ.out; omega) (L.kept (f3.trans fr))).mono ?_
              rw [HOK.out]
              rintro e v1 ⟨rfl, g1⟩
              replace g1 := fr.trans g1
              have q2 := HY.out _ g1 j s HS.out
              go_wp2_with fail
              refine (keyWholes_law _ (L.kept (f3.trans g1)) s _ rfl HSZ.out).mono ?_
              rintro e v2 ⟨rfl, g2⟩
              replace g2 := g1.trans g2
              go_wp2_with fail
              exact ⟨⟨j + 1, by omega, by go_num, g2⟩, by simp [intOf]; omega⟩
            · obtain rfl : j = 6 := by omega
              rw [show ((6 : Nat) : Int) = 6 from rfl]
              go_wp2_with fail
              replace f3 := f3.trans fr
              have HN2 : Hid (∀ w', Fr [] wr w' → ∀ j s, noL[j]? = some s → w'.cell? ⟨BY + 1, j, none⟩ = some (.string s)) := fun w' f j s hs => HNo.out w' (fr.trans f) j s hs
              clear fr HY HNo
              obtain ⟨w4, rfl⟩ : ∃ w4, w4 = wr := ⟨_, rfl⟩
              go_loopw [14] (fun i wr => ∃ j : Nat, j ≤ 17 ∧ i = .int .i64 j ∧ Fr [] w4 wr) (fun i _ => 17 - (intOf i).toNat)
              case atStart => exact ⟨0, by omega, rfl, Fr.refl _ _⟩
              case round =>
                obtain ⟨j, hj, rfl, fr⟩ := hrel
                by_cases hlt : j < 17
                · have hlt' : (j : Int) < 17 := by omega
                  have hj0 : (0 : Int) ≤ (j : Int) := by omega
                  obtain ⟨s, hs, hok, hsz⟩ := no_at j hlt
                  have HS := Lib.hid hs
                  have HOK := Lib.hid hok
                  have HSZ := Lib.hid hsz
                  clear hs hok hsz
                  have q1 := HN2.out _ fr j s HS.out
                  go_wp2_with fail
                  refine (whole_any _ s (by have := HSZ.out; omega) (L.kept (f3.trans fr))).mono ?_
                  rw [HOK.out, Option.getD_none, Option.isSome_none]
                  rintro e v1 ⟨rfl, g1⟩
                  replace g1 := fr.trans g1
                  go_wp2_with fail
                  exact ⟨⟨j + 1, by omega, by go_num, g1⟩, by simp [intOf]; omega⟩
                · obtain rfl : j = 17 := by omega
                  rw [show ((17 : Nat) : Int) = 17 from rfl]
                  go_wp2_with fail
                  refine (awake_any _ (L.kept (f3.trans fr))).mono ?_
                  rintro e w9 ⟨rfl, f9⟩
                  go_wp2_with fail
                  go_ret
                  exact ⟨rfl, (f3.trans fr).trans f9⟩

end Go.Proofs.YthaekjolbjmjfaaDoor
