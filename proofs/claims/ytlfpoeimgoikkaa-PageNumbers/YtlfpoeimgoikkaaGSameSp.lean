/-
  Spans that are alike: the kit's SameSpan and SameSpans, where they are.
-/
import Derived.Test.YtlfpoeimgoikkaaGDif2
namespace Go.Proofs.Ytlfpoeimgoikkaa
open Go.RowKit Go.Maps

set_option maxHeartbeats 2000000 in
set_option maxRecDepth 100000 in
theorem sameSpan_yes (w : World) (off n : Nat) (a1 a2 b1 b2 : Option Addr) (c1 c2 d1 d2 : Nat) (lo ln : List UInt8) (h1 : BytesAt w a1 lo) (h2 : BytesAt w a2 ln) (k1 : BytesAt w b1 lo) (k2 : BytesAt w b2 ln) (no : lo.length = n) (nn : ln.length = n) (hn : n ≤ 1000000) :
    Calls Try.prog 51 #[.agg #[.int .i64 0, .int .i64 off, .slice a1 n c1, .slice a2 n c2], .agg #[.int .i64 0, .int .i64 off, .slice b1 n d1, .slice b2 n d2]] w fun r w' => r = .returned (.bool true) ∧ Fr [] w w' := by
  have NO := (show Hid (lo.length = n) from no)
  have NN := (show Hid (ln.length = n) from nn)
  clear no nn
  go_enter Try.func51, Try.ntmps51
  go_wp2_with fail
  have e1 := heap_alloc_new w (.cells #[.int .i64 0, .int .i64 off, .slice a1 n c1, .slice a2 n c2] 52)
  have f1 := (Fr.refl [] w).alloc (.cells #[.int .i64 0, .int .i64 off, .slice a1 n c1, .slice a2 n c2] 52)
  have z1 : (w.alloc (.cells #[.int .i64 0, .int .i64 off, .slice a1 n c1, .slice a2 n c2] 52)).heap.size = w.heap.size + 1 := by simp
  generalize w.alloc (.cells #[.int .i64 0, .int .i64 off, .slice a1 n c1, .slice a2 n c2] 52) = wa at e1 f1 z1 ⊢
  have e2 := heap_alloc_new wa (.cells #[.int .i64 0, .int .i64 off, .slice b1 n d1, .slice b2 n d2] 52)
  have f2 := (Fr.refl [] wa).alloc (.cells #[.int .i64 0, .int .i64 off, .slice b1 n d1, .slice b2 n d2] 52)
  rw [z1] at e2
  generalize wa.alloc (.cells #[.int .i64 0, .int .i64 off, .slice b1 n d1, .slice b2 n d2] 52) = wb at e2 f2 ⊢
  have f12 := f1.trans f2
  refine (same_any _ _ _ lo lo n _ _ (h1.kept f12 (by simp)) (k1.kept f12 (by simp)) NO.out NO.out hn).mono ?_
  rintro e w5 ⟨rfl, f5⟩
  have x3 : w5.cell? ⟨w.heap.size, 3, none⟩ = some (.slice a2 n c2) := cell_of_row w5 w.heap.size 3 _ _ _ (f5.same (by simp) (f2.same (by simp) e1))
  have y3 : w5.cell? ⟨w.heap.size + 1, 3, none⟩ = some (.slice b2 n d2) := cell_of_row w5 (w.heap.size + 1) 3 _ _ _ (f5.same (by simp) e2)
  have F := (show Hid (Fr [] w w5) from f12.trans f5)
  have H2 := (show Hid (BytesAt w a2 ln) from h2)
  have K2 := (show Hid (BytesAt w b2 ln) from k2)
  clear h1 h2 k1 k2 e1 e2 f1 f2 f12 f5 z1
  rw [beq_self_eq_true]
  go_wp2_with fail
  refine (same_any _ _ _ ln ln n _ _ (H2.out.kept F.out (by simp)) (K2.out.kept F.out (by simp)) NN.out NN.out hn).mono ?_
  rintro e w6 ⟨rfl, f6⟩
  rw [beq_self_eq_true]
  go_wp2_with fail
  go_ret
  exact ⟨rfl, F.out.trans f6⟩

/-- A row of spans of two pages, wherever its lists lie. -/
def SpsAt (w : World) (ad : Option Addr) (D : List (Nat × Nat)) (la lb : List UInt8) : Prop :=
  ∀ (i f t : Nat), D[i]? = some (f, t) → ∃ g a1 c1 a2 c2, ad = some ⟨g, 0, none⟩ ∧ w.cell? ⟨g, i * 4, none⟩ = some (.int .i64 0) ∧ w.cell? ⟨g, i * 4 + 1, none⟩ = some (.int .i64 f) ∧ w.cell? ⟨g, i * 4 + 2, none⟩ = some (.slice a1 (t - f) c1) ∧ w.cell? ⟨g, i * 4 + 3, none⟩ = some (.slice a2 (t - f) c2) ∧ BytesAt w a1 ((la.drop f).take (t - f)) ∧ BytesAt w a2 ((lb.drop f).take (t - f)) ∧ f < t ∧ t ≤ 512
theorem SpsAt.kept {w w' : World} {ad : Option Addr} {D : List (Nat × Nat)} {la lb : List UInt8} (h : SpsAt w ad D la lb) (k : Fr [] w w') : SpsAt w' ad D la lb := by
  intro i f t hi
  obtain ⟨g, a1, c1, a2, c2, rfl, h0, h1, h2, h3, h4, h5, h6⟩ := h i f t hi
  have key : ∀ {o : Nat} {v : Value}, w.cell? ⟨g, o, none⟩ = some v → w'.cell? ⟨g, o, none⟩ = some v := fun hc => (World.cell?_of_block (k.block g (block_lt_of_cell hc) (by simp))).trans hc
  exact ⟨g, a1, c1, a2, c2, rfl, key h0, key h1, key h2, key h3, h4.kept k (by simp), h5.kept k (by simp), h6⟩

set_option maxHeartbeats 2000000 in
set_option maxRecDepth 100000 in
theorem sameSpans_yes (w : World) (a1 a2 : Option Addr) (n c1 c2 : Nat) (D : List (Nat × Nat)) (la lb : List UInt8) (hD : D.length = n) (hn : n ≤ 1000) (hla : la.length = 512) (hlb : lb.length = 512) (h1 : SpsAt w a1 D la lb) (h2 : SpsAt w a2 D la lb) :
    Calls Try.prog 21 #[.slice a1 n c1, .slice a2 n c2] w fun r w' => r = .returned (.bool true) ∧ Fr [] w w' := by
  have H1 := (show Hid (SpsAt w a1 D la lb) from h1)
  have H2 := (show Hid (SpsAt w a2 D la lb) from h2)
  have HD := (show Hid (D.length = n) from hD)
  have HA := (show Hid (la.length = 512) from hla)
  have HB := (show Hid (lb.length = 512) from hlb)
  clear h1 h2 hD hla hlb
  go_enter Try.func21, Try.ntmps21
  go_wp2_with fail
  go_loopw [5] (fun iv wr => ∃ i : Nat, i ≤ n ∧ iv = .int .i64 i ∧ Fr [] w wr) (fun iv _ => n - (intOf iv).toNat)
  case atStart => exact ⟨0, by omega, rfl, Fr.refl _ _⟩
  case round =>
    obtain ⟨i, hi, rfl, fr⟩ := hrel
    have F := (show Hid (Fr [] w wr) from fr)
    by_cases hlt : i < n
    · have hlt' : (i : Int) < n := by omega
      obtain ⟨⟨f, t⟩, he⟩ : ∃ e, D[i]? = some e := ⟨_, List.getElem?_eq_getElem (by rw [HD.out]; exact hlt)⟩
      obtain ⟨g1, p1, q1, p2, q2, rfl, r0, r1, r2, r3, r4, r5, hft, ht5⟩ := (H1.out.kept fr) i f t he
      obtain ⟨g2, p3, q3, p4, q4, rfl, s0, s1, s2, s3, s4, s5, _, _⟩ := (H2.out.kept fr) i f t he
      have R4 := (show Hid (BytesAt wr p1 ((la.drop f).take (t - f))) from r4)
      have R5 := (show Hid (BytesAt wr p2 ((lb.drop f).take (t - f))) from r5)
      have S4 := (show Hid (BytesAt wr p3 ((la.drop f).take (t - f))) from s4)
      have S5 := (show Hid (BytesAt wr p4 ((lb.drop f).take (t - f))) from s5)
      have L4 : Hid (((la.drop f).take (t - f)).length = t - f) := by show _ = _; rw [List.length_take, List.length_drop, HA.out]; omega
      have L5 : Hid (((lb.drop f).take (t - f)).length = t - f) := by show _ = _; rw [List.length_take, List.length_drop, HB.out]; omega
      clear r4 r5 s4 s5 fr he
      go_wp2_with fail
      have R4' := (show Hid (BytesAt wr.drew p1 ((la.drop f).take (t - f))) from R4.out.kept (Fr.refl [] wr).drew (by simp))
      have R5' := (show Hid (BytesAt wr.drew p2 ((lb.drop f).take (t - f))) from R5.out.kept (Fr.refl [] wr).drew (by simp))
      have S4' := (show Hid (BytesAt wr.drew p3 ((la.drop f).take (t - f))) from S4.out.kept (Fr.refl [] wr).drew (by simp))
      have S5' := (show Hid (BytesAt wr.drew p4 ((lb.drop f).take (t - f))) from S5.out.kept (Fr.refl [] wr).drew (by simp))
      go_region_with (go_at_call 51; refine (sameSpan_yes _ f (t - f) p1 p2 p3 p4 q1 q2 q3 q4 _ _ R4'.out R5'.out S4'.out S5'.out L4.out L5.out (by omega)).mono ?_; rintro e w5 ⟨rfl, f5⟩)
      all_goals
        have F5 := (show Hid (Fr [] w w5) from F.out.trans ((Fr.refl [] wr).drew.trans f5))
        clear f5
        go_wp2_with fail
        exact ⟨⟨i + 1, by omega, by go_num, F5.out⟩, by simp [intOf]; omega⟩
    · have hge : ¬ (i : Int) < n := by omega
      clear fr hlt
      go_wp2_with fail
      go_ret
      exact ⟨rfl, F.out⟩
end Go.Proofs.Ytlfpoeimgoikkaa
