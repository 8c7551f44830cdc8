/-
  BitsOrder, walked.
-/
import Derived.Test.YtdkleigkkndecaaRow
namespace Go.Proofs.Ytdkleigkkndecaa
open Go.RowKit Go.Lib

theorem cb_range : ∀ l m : List UInt8, compareBytes l m = -1 ∨ compareBytes l m = 0 ∨ compareBytes l m = 1
  | [], [] => Or.inr (Or.inl rfl)
  | [], _ :: _ => Or.inl rfl
  | _ :: _, [] => Or.inr (Or.inr rfl)
  | x :: l, y :: m => by
    unfold compareBytes
    split
    · exact Or.inl rfl
    · split
      · exact Or.inr (Or.inr rfl)
      · exact cb_range l m
theorem cb_trans : ∀ l m k : List UInt8, compareBytes l m ≤ 0 → compareBytes m k ≤ 0 → compareBytes l k ≤ 0
  | [], _, [], _, _ => by simp [compareBytes]
  | [], _, _ :: _, _, _ => by simp [compareBytes]
  | _ :: _, [], _, h, _ => by simp [compareBytes] at h
  | _ :: _, _ :: _, [], _, h => by simp [compareBytes] at h
  | x :: l, y :: m, z :: k, h1, h2 => by
    unfold compareBytes at h1 h2 ⊢
    by_cases xy : x < y
    · by_cases yz : z < y
      · have nyz : ¬ y < z := fun h => UInt8.lt_irrefl _ (UInt8.lt_trans h yz)
        rw [if_neg nyz, if_pos yz] at h2
        omega
      · have : x < z := UInt8.lt_of_lt_of_le xy (UInt8.not_lt.1 yz)
        rw [if_pos this]
        omega
    · rw [if_neg xy] at h1
      by_cases yx : y < x
      · rw [if_pos yx] at h1; omega
      · have e : x = y := UInt8.le_antisymm (UInt8.not_lt.1 yx) (UInt8.not_lt.1 xy)
        subst e
        rw [if_neg xy] at h1
        by_cases xz : x < z
        · rw [if_pos xz]; omega
        · rw [if_neg xz] at h2 ⊢
          by_cases zx : z < x
          · rw [if_pos zx] at h2; omega
          · rw [if_neg zx] at h2 ⊢
            exact cb_trans l m k h1 h2

theorem stand_range (r q : List Bool) : stand r q = -1 ∨ stand r q = 0 ∨ stand r q = 1 := cb_range _ _
theorem stand_trans {r q p : List Bool} (h : stand r q ≤ 0) (k : stand q p ≤ 0) : stand r p ≤ 0 := cb_trans _ _ _ h k
theorem stand_text (r q : List Bool) : ((mkS (txt r)).toList == (mkS (txt q)).toList) = (stand r q == 0) := by
  rw [toList_bl, toList_bl, bl_mkS, bl_mkS]
  by_cases h : r = q
  · subst h; rw [stand_self]; simp
  · have h1 : ¬ stand r q = 0 := fun e => h (stand_zero e)
    have h2 : ¬ txt r = txt q := fun e => h (by
      unfold txt at e
      have hinj : ∀ a b : Bool, chr a = chr b → a = b := by decide
      exact List.map_inj_right hinj |>.1 e)
    rw [beq_eq_false_iff_ne.2 h1, beq_eq_false_iff_ne.2 h2]

/-- Two cells of a row of bits. -/
def Two (w : World) (b : Nat) (s : ByteArray) (n : Nat) : Prop := w.cell? ⟨b, 0, none⟩ = some (.string s) ∧ w.cell? ⟨b, 1, none⟩ = some (.int .i64 (n : Int))
theorem Box.two {w : World} {b : Nat} {s : ByteArray} {n : Nat} (h : Box w b s n) : Two w b s n := ⟨h.c0, h.c1⟩

/-- Three rows of bits that are laid one behind the other. -/
theorem boxes3 (w : World) (s t u : ByteArray) (x y z : Nat) :
    Box (((w.alloc (.cells #[.string s, .int .i64 (x : Int)] 24)).alloc (.cells #[.string t, .int .i64 (y : Int)] 24)).alloc (.cells #[.string u, .int .i64 (z : Int)] 24)) w.heap.size s x ∧
    Box (((w.alloc (.cells #[.string s, .int .i64 (x : Int)] 24)).alloc (.cells #[.string t, .int .i64 (y : Int)] 24)).alloc (.cells #[.string u, .int .i64 (z : Int)] 24)) (w.heap.size + 1) t y ∧
    Box (((w.alloc (.cells #[.string s, .int .i64 (x : Int)] 24)).alloc (.cells #[.string t, .int .i64 (y : Int)] 24)).alloc (.cells #[.string u, .int .i64 (z : Int)] 24)) (w.heap.size + 1 + 1) u z ∧
    Fr [] w (((w.alloc (.cells #[.string s, .int .i64 (x : Int)] 24)).alloc (.cells #[.string t, .int .i64 (y : Int)] 24)).alloc (.cells #[.string u, .int .i64 (z : Int)] 24)) := by
  refine ⟨((Box.new w s x).kept ((Fr.refl [] _).alloc _) (by simp)).kept ((Fr.refl [] _).alloc _) (by simp), ?_, ?_, (((Fr.refl [] w).alloc _).alloc _).alloc _⟩
  · have := (Box.new (w.alloc (.cells #[.string s, .int .i64 (x : Int)] 24)) t y).kept ((Fr.refl [] _).alloc (.cells #[.string u, .int .i64 (z : Int)] 24)) (by simp)
    simpa using this
  · have := Box.new ((w.alloc (.cells #[.string s, .int .i64 (x : Int)] 24)).alloc (.cells #[.string t, .int .i64 (y : Int)] 24)) u z
    simpa using this

set_option maxHeartbeats 4000000 in
set_option maxRecDepth 100000 in
theorem order_law (w : World) (a1 a2 a3 : Option Addr) (n1 n2 n3 c1 c2 c3 : Nat) (l1 l2 l3 : List UInt8) (h1 : l1.length = n1) (h2 : l2.length = n2) (h3 : l3.length = n3) (b1 : BytesAt w a1 l1) (b2 : BytesAt w a2 l2) (b3 : BytesAt w a3 l3)
    (m1 : n1 < 9223372036854775808) (m2 : n2 < 9223372036854775808) (m3 : n3 < 9223372036854775808) :
    Calls Try.prog 8 #[.slice a1 n1 c1, .slice a2 n2 c2, .slice a3 n3 c3] w fun e w' => e = .returned (.bool true) ∧ Fr [] w w' := by
  obtain ⟨x, hx⟩ : ∃ x, min 200 n1 = x := ⟨_, rfl⟩
  obtain ⟨y, hy⟩ : ∃ y, min 200 n2 = y := ⟨_, rfl⟩
  obtain ⟨z, hz⟩ : ∃ z, min 200 n3 = z := ⟨_, rfl⟩
  have X : Hid (l1.length = n1 ∧ min 200 n1 = x) := ⟨h1, hx⟩
  have Y : Hid (l2.length = n2 ∧ min 200 n2 = y) := ⟨h2, hy⟩
  have Z : Hid (l3.length = n3 ∧ min 200 n3 = z) := ⟨h3, hz⟩
  clear h1 h2 h3 hx hy hz
  go_enter Try.func8, Try.ntmps8
  go_wp2_with fail
  refine (awake_any _).mono ?_
  rintro e w0 ⟨rfl, f0⟩
  go_wp2_with fail
  refine (row_any _ a1 n1 c1 x l1 X.out.1 X.out.2 (b1.kept f0 (by simp)) m1).mono ?_
  rintro e w1 ⟨s, rfl, hs, f1⟩
  have g1 := f0.trans f1
  go_wp2_with fail
  refine (row_any _ a2 n2 c2 y l2 Y.out.1 Y.out.2 (b2.kept g1 (by simp)) m2).mono ?_
  rintro e w2 ⟨t, rfl, ht, f2⟩
  have g2 := g1.trans f2
  go_wp2_with fail
  refine (row_any _ a3 n3 c3 z l3 Z.out.1 Z.out.2 (b3.kept g2 (by simp)) m3).mono ?_
  rintro e w3 ⟨u, rfl, hu, f3⟩
  have g3 := g2.trans f3
  clear f0 f1 g1 f2 g2 f3 b1 b2 b3 X Y Z
  generalize rowOf l1 = r at hs
  generalize rowOf l2 = q at ht
  generalize rowOf l3 = p at hu
  go_wp2_with fail
  obtain ⟨bx, by', bz, f4⟩ := boxes3 w3 s t u x y z
  have g4 := g3.trans f4
  clear f4 g3
  generalize ((w3.alloc (.cells #[.string s, .int .i64 (x : Int)] 24)).alloc (.cells #[.string t, .int .i64 (y : Int)] 24)).alloc (.cells #[.string u, .int .i64 (z : Int)] 24) = w4 at bx by' bz g4 ⊢
  generalize w3.heap.size = B at bx by' bz ⊢
  obtain ⟨c, hc⟩ : ∃ c, stand r q = c := ⟨_, rfl⟩
  have HC : Hid (stand r q = c) := hc
  have HD : Hid (stand q r = -c) := by show _ = _; rw [stand_sym r q, hc]
  have HT : ((mkS (txt r)).toList == (mkS (txt q)).toList) = (c == 0) := by rw [stand_text, hc]
  have hcr : -1 ≤ c ∧ c ≤ 1 := by rcases stand_range r q with h | h | h <;> rw [h] at hc <;> omega
  have hw1 : IntKind.i64.wrap (- -c) = c := by rw [Int.neg_neg]; exact wrapI (by omega) (by omega)
  have hw2 : IntKind.i64.wrap c = c := wrapI (by omega) (by omega)
  clear hc
  have k0 : Two w4 B s x ∧ Two w4 (B + 1) t y := ⟨bx.two, by'.two⟩
  have gg : Fr [] w4 w4.drew := (Fr.refl _ _).drew
  go_region_held3 (fun w' => (w'.cell? ⟨B, 0, none⟩ = some (.string s) ∧ w'.cell? ⟨B, 1, none⟩ = some (.int .i64 (x : Int))) ∧ (w'.cell? ⟨B + 1, 0, none⟩ = some (.string t) ∧ w'.cell? ⟨B + 1, 1, none⟩ = some (.int .i64 (y : Int)))) (first | exact kk | exact k0)
    ((first | (go_at_call_of 13 s; refine (text_any _ s x r hs).mono ?_; rintro e w5 ⟨rfl, f5⟩; replace gg := gg.trans f5; have kk : Two w5 B s x ∧ Two w5 (B + 1) t y := ⟨(bx.kept gg (by simp)).two, (by'.kept gg (by simp)).two⟩) | (go_at_call_of 13 t; refine (text_any _ t y q ht).mono ?_; rintro e w5 ⟨rfl, f5⟩; replace gg := gg.trans f5; have kk : Two w5 B s x ∧ Two w5 (B + 1) t y := ⟨(bx.kept gg (by simp)).two, (by'.kept gg (by simp)).two⟩) | (go_at_call_of 27 (#[Value.agg #[Value.string s, Value.int IntKind.i64 (x : Int)], Value.agg #[Value.string t, Value.int IntKind.i64 (y : Int)]]); refine (compare_any _ s t x y r q hs ht).mono ?_; rw [HC.out]; rintro e w5 ⟨rfl, f5⟩; replace gg := gg.trans f5; have kk : Two w5 B s x ∧ Two w5 (B + 1) t y := ⟨(bx.kept gg (by simp)).two, (by'.kept gg (by simp)).two⟩) | (go_at_call_of 27 (#[Value.agg #[Value.string t, Value.int IntKind.i64 (y : Int)], Value.agg #[Value.string s, Value.int IntKind.i64 (x : Int)]]); refine (compare_any _ t s y x q r ht hs).mono ?_; rw [HD.out]; rintro e w5 ⟨rfl, f5⟩; replace gg := gg.trans f5; have kk : Two w5 B s x ∧ Two w5 (B + 1) t y := ⟨(bx.kept gg (by simp)).two, (by'.kept gg (by simp)).two⟩)))
  clear HT hw1 hw2 k0 HD
  obtain ⟨d, hd⟩ : ∃ d, stand q p = d := ⟨_, rfl⟩
  have HE : Hid (stand q p = d) := hd
  obtain ⟨f, hf⟩ : ∃ f, stand r p = f := ⟨_, rfl⟩
  have HF : Hid (stand r p = f) := hf
  have p0 := (bx.kept gg (by simp)).c0
  have p1 := (bx.kept gg (by simp)).c1
  have p2 := (by'.kept gg (by simp)).c0
  have p3 := (by'.kept gg (by simp)).c1
  have p4 := (bz.kept gg (by simp)).c0
  have p5 := (bz.kept gg (by simp)).c1
  by_cases h1 : 0 < c
  · have e1 : decide (0 < c) = true := by simpa using h1
    clear hd hf hcr
    go_wp2_with (first | (go_at_call_of 27 (#[Value.agg #[Value.string s, Value.int IntKind.i64 (x : Int)], Value.agg #[Value.string t, Value.int IntKind.i64 (y : Int)]]); refine (compare_any _ s t x y r q hs ht).mono ?_; rw [HC.out]; rintro e w5 ⟨rfl, f5⟩; replace gg := gg.trans f5; have p0 := (bx.kept gg (by simp)).c0; have p1 := (bx.kept gg (by simp)).c1; have p2 := (by'.kept gg (by simp)).c0; have p3 := (by'.kept gg (by simp)).c1; have p4 := (bz.kept gg (by simp)).c0; have p5 := (bz.kept gg (by simp)).c1) | (go_at_call_of 27 (#[Value.agg #[Value.string t, Value.int IntKind.i64 (y : Int)], Value.agg #[Value.string u, Value.int IntKind.i64 (z : Int)]]); refine (compare_any _ t u y z q p ht hu).mono ?_; rw [HE.out]; rintro e w5 ⟨rfl, f5⟩; replace gg := gg.trans f5; have p0 := (bx.kept gg (by simp)).c0; have p1 := (bx.kept gg (by simp)).c1; have p2 := (by'.kept gg (by simp)).c0; have p3 := (by'.kept gg (by simp)).c1; have p4 := (bz.kept gg (by simp)).c0; have p5 := (bz.kept gg (by simp)).c1) | (go_at_call_of 27 (#[Value.agg #[Value.string s, Value.int IntKind.i64 (x : Int)], Value.agg #[Value.string u, Value.int IntKind.i64 (z : Int)]]); refine (compare_any _ s u x z r p hs hu).mono ?_; rw [HF.out]; rintro e w5 ⟨rfl, f5⟩; replace gg := gg.trans f5; have p0 := (bx.kept gg (by simp)).c0; have p1 := (bx.kept gg (by simp)).c1; have p2 := (by'.kept gg (by simp)).c0; have p3 := (by'.kept gg (by simp)).c1; have p4 := (bz.kept gg (by simp)).c0; have p5 := (bz.kept gg (by simp)).c1))
    go_ret
    exact ⟨rfl, g4.trans gg⟩
  · have e1 : decide (0 < c) = false := by simpa using h1
    by_cases h2 : 0 < d
    · have e2 : decide (0 < d) = true := by simpa using h2
      clear hd hf hcr
      go_wp2_with (first | (go_at_call_of 27 (#[Value.agg #[Value.string s, Value.int IntKind.i64 (x : Int)], Value.agg #[Value.string t, Value.int IntKind.i64 (y : Int)]]); refine (compare_any _ s t x y r q hs ht).mono ?_; rw [HC.out]; rintro e w5 ⟨rfl, f5⟩; replace gg := gg.trans f5; have p0 := (bx.kept gg (by simp)).c0; have p1 := (bx.kept gg (by simp)).c1; have p2 := (by'.kept gg (by simp)).c0; have p3 := (by'.kept gg (by simp)).c1; have p4 := (bz.kept gg (by simp)).c0; have p5 := (bz.kept gg (by simp)).c1) | (go_at_call_of 27 (#[Value.agg #[Value.string t, Value.int IntKind.i64 (y : Int)], Value.agg #[Value.string u, Value.int IntKind.i64 (z : Int)]]); refine (compare_any _ t u y z q p ht hu).mono ?_; rw [HE.out]; rintro e w5 ⟨rfl, f5⟩; replace gg := gg.trans f5; have p0 := (bx.kept gg (by simp)).c0; have p1 := (bx.kept gg (by simp)).c1; have p2 := (by'.kept gg (by simp)).c0; have p3 := (by'.kept gg (by simp)).c1; have p4 := (bz.kept gg (by simp)).c0; have p5 := (bz.kept gg (by simp)).c1) | (go_at_call_of 27 (#[Value.agg #[Value.string s, Value.int IntKind.i64 (x : Int)], Value.agg #[Value.string u, Value.int IntKind.i64 (z : Int)]]); refine (compare_any _ s u x z r p hs hu).mono ?_; rw [HF.out]; rintro e w5 ⟨rfl, f5⟩; replace gg := gg.trans f5; have p0 := (bx.kept gg (by simp)).c0; have p1 := (bx.kept gg (by simp)).c1; have p2 := (by'.kept gg (by simp)).c0; have p3 := (by'.kept gg (by simp)).c1; have p4 := (bz.kept gg (by simp)).c0; have p5 := (bz.kept gg (by simp)).c1))
      go_ret
      exact ⟨rfl, g4.trans gg⟩
    · have e2 : decide (0 < d) = false := by simpa using h2
      have h3 : f ≤ 0 := by rw [← hf]; exact stand_trans (by rw [HC.out]; omega) (by rw [hd]; omega)
      have e3 : decide (f ≤ 0) = true := by simpa using h3
      clear hd hf hcr
      go_wp2_with (first | (go_at_call_of 27 (#[Value.agg #[Value.string s, Value.int IntKind.i64 (x : Int)], Value.agg #[Value.string t, Value.int IntKind.i64 (y : Int)]]); refine (compare_any _ s t x y r q hs ht).mono ?_; rw [HC.out]; rintro e w5 ⟨rfl, f5⟩; replace gg := gg.trans f5; have p0 := (bx.kept gg (by simp)).c0; have p1 := (bx.kept gg (by simp)).c1; have p2 := (by'.kept gg (by simp)).c0; have p3 := (by'.kept gg (by simp)).c1; have p4 := (bz.kept gg (by simp)).c0; have p5 := (bz.kept gg (by simp)).c1) | (go_at_call_of 27 (#[Value.agg #[Value.string t, Value.int IntKind.i64 (y : Int)], Value.agg #[Value.string u, Value.int IntKind.i64 (z : Int)]]); refine (compare_any _ t u y z q p ht hu).mono ?_; rw [HE.out]; rintro e w5 ⟨rfl, f5⟩; replace gg := gg.trans f5; have p0 := (bx.kept gg (by simp)).c0; have p1 := (bx.kept gg (by simp)).c1; have p2 := (by'.kept gg (by simp)).c0; have p3 := (by'.kept gg (by simp)).c1; have p4 := (bz.kept gg (by simp)).c0; have p5 := (bz.kept gg (by simp)).c1) | (go_at_call_of 27 (#[Value.agg #[Value.string s, Value.int IntKind.i64 (x : Int)], Value.agg #[Value.string u, Value.int IntKind.i64 (z : Int)]]); refine (compare_any _ s u x z r p hs hu).mono ?_; rw [HF.out]; rintro e w5 ⟨rfl, f5⟩; replace gg := gg.trans f5; have p0 := (bx.kept gg (by simp)).c0; have p1 := (bx.kept gg (by simp)).c1; have p2 := (by'.kept gg (by simp)).c0; have p3 := (by'.kept gg (by simp)).c1; have p4 := (bz.kept gg (by simp)).c0; have p5 := (bz.kept gg (by simp)).c1))
      go_ret
      exact ⟨rfl, g4.trans gg⟩

end Go.Proofs.Ytdkleigkkndecaa
