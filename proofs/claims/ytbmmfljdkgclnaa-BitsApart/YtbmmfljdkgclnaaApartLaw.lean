/-
  BitsApart, walked.
-/
import Derived.Test.YtbmmfljdkgclnaaApartB
import Derived.Test.YtbmmfljdkgclnaaRow
import Derived.Test.YtbmmfljdkgclnaaOpens
import Derived.Test.YtbmmfljdkgclnaaPackAny
namespace Go.Proofs.Ytbmmfljdkgclnaa
open Go.RowKit Go.Maps Go.Lib

/-- Two cells of a row of bits. -/
def Two (w : World) (b : Nat) (s : ByteArray) (n : Nat) : Prop := w.cell? ⟨b, 0, none⟩ = some (.string s) ∧ w.cell? ⟨b, 1, none⟩ = some (.int .i64 (n : Int))
theorem Box.two {w : World} {b : Nat} {s : ByteArray} {n : Nat} (h : Box w b s n) : Two w b s n := ⟨h.c0, h.c1⟩

theorem own_weak {w : World} {B : Nat} {v : Value} {n : Nat} {xs : List Value} (h : w.ownsRow B 5 1 v n xs) : w.ownsRow 0 5 1 v n xs := by
  obtain ⟨h1, h2⟩ := h
  refine ⟨h1, ?_⟩
  rcases h2 with hn | ⟨g, cap, cur, rfl, hb, r⟩
  · exact Or.inl hn
  · exact Or.inr ⟨g, cap, cur, rfl, Nat.zero_le _, r⟩
theorem own_new {w : World} {B : Nat} {v : Value} {n : Nat} {xs : List Value} (h : w.ownsRow B 5 1 v n xs) (g : Nat) (hg : v.ownBlock = some g) : B ≤ g ∧ g < w.heap.size := by
  refine ⟨?_, own_lt (own_weak h) g hg⟩
  rcases h.2 with ⟨e, _⟩ | ⟨g', _, cur, e, hb, _⟩
  · rw [e] at hg; cases hg
  · rw [e] at hg
    have : g' = g := by simpa [Value.ownBlock] using hg
    omega

section
variable {ops : Array Oper} {rest : List Oper} {o : Oper} {a : Act} {w : World} {Q : Exit → Act → World → Prop}
theorem wp_packOwn (hgd : o.guard = none) (s x : Operand) (ho : o.op = .call { callee := .builtin .append, args := #[s, x], argTypes := #[37, 9] }) (t : ByteArray) (hs : a.eval s = .slice none 0 0) (hx : a.eval x = .string t) (ht : t.size ≤ 16777216)
    (h : ∀ ad cap w', w'.ownsRow w.heap.size 5 1 (.slice ad t.size cap) t.size (strCells t) → Fr [] w w' → wpList Try.prog ops Q rest (a.put o.dst (.slice ad t.size cap)) w') : wpList Try.prog ops Q (o :: rest) a w := by
  obtain ⟨i, hi, hz, hsz, hb⟩ := info5'
  refine Lib.wpList_append_own_string w hgd s x 37 9 ho w.heap.size 5 i Try.underlying37 Try.underlying9 hi hz hsz hb _ 0 [] hs (World.ownsRow_nil w _ 5 1) t hx (by unfold maxLen; omega) (by omega) (Nat.le_refl _) ?_
  intro v w' hown hgr _
  have fr : Fr [] w w' := (Fr.refl _ _).grown hgr (fun j e => nomatch e)
  rw [Nat.zero_add, List.nil_append] at hown
  rcases hown.2 with ⟨rfl, hn⟩ | ⟨g, cap, cur, rfl, _⟩
  · have := h none 0 w' (by rw [hn] at hown ⊢; exact hown) fr
    rw [hn] at this
    exact this
  · exact h _ _ w' hown fr
end

set_option maxHeartbeats 1000000 in
theorem pack_own (w : World) (s : ByteArray) (n : Nat) (hs : s.size ≤ 16777216) :
    Calls Try.prog 21 #[bv s n] w fun e w' => ∃ ad cap, e = .returned (.slice ad s.size cap) ∧ w'.ownsRow w.heap.size 5 1 (.slice ad s.size cap) s.size (strCells s) ∧ Fr [] w w' := by
  have f0 := (Fr.refl [] w).alloc (.cells #[.string s, .int .i64 (n : Int)] 47)
  go_enter Try.func21, Try.ntmps21
  go_wp2_with (refine wp_packOwn rfl _ _ rfl s rfl rfl hs ?_; intro ad cap w1 p1 f1)
  go_ret
  refine ⟨ad, cap, rfl, ?_, f0.trans f1⟩
  obtain ⟨h1, h2⟩ := p1
  refine ⟨h1, ?_⟩
  rcases h2 with hn | ⟨g, cap, cur, e, hb, r⟩
  · exact Or.inl hn
  · exact Or.inr ⟨g, cap, cur, e, by simp at hb; omega, r⟩

/-- Two lists of bytes that were made one behind the other lie apart. -/
theorem two_lists {w : World} {B : Nat} {a1 a2 : Option Addr} {m c1 c2 : Nat} {xs ys : List Value} (hm : m ≤ 100000) (h1 : w.ownsRow 0 5 1 (.slice a1 m c1) m xs) (h2 : w.ownsRow 0 5 1 (.slice a2 m c2) m ys)
    (hlt : ∀ g, (Value.slice a1 m c1).ownBlock = some g → g < B) (hge : ∀ g, (Value.slice a2 m c2).ownBlock = some g → B ≤ g) :
    Lists (w.alloc (.cells #[.slice a1 m c1, .slice a2 m c2] 37)) ((Value.slice a1 m c1).ownBlock.toList ++ (Value.slice a2 m c2).ownBlock.toList) 2 w.heap.size (fun j => if j = 0 then a1 else a2) (fun _ => m) (fun j => if j = 0 then c1 else c2) ∧
    Lists (w.alloc (.cells #[.slice a2 m c2, .slice a1 m c1] 37)) ((Value.slice a1 m c1).ownBlock.toList ++ (Value.slice a2 m c2).ownBlock.toList) 2 w.heap.size (fun j => if j = 0 then a2 else a1) (fun _ => m) (fun j => if j = 0 then c2 else c1) := by
  have key : ∀ g, (Value.slice a1 m c1).ownBlock = some g → (Value.slice a2 m c2).ownBlock ≠ some g := fun g e1 e2 => by have := hlt g e1; have := hge g e2; omega
  have l1 := own_lt h1
  have l2 := own_lt h2
  have x1 : xs.length = m := by have := h1.1; omega
  have x2 : ys.length = m := by have := h2.1; omega
  constructor
  · refine ⟨by omega, fun _ _ => hm, ?_, ?_, ?_, ?_, ?_⟩
    · intro j hj
      rw [cell_of_row _ _ _ _ _ _ (heap_alloc_new w _)]
      rcases (by omega : j = 0 ∨ j = 1) with rfl | rfl <;> rfl
    · intro j hj
      rcases (by omega : j = 0 ∨ j = 1) with rfl | rfl
      · exact ⟨xs, x1, own_kept h1 ((Fr.refl [] w).alloc _) (by simp)⟩
      · exact ⟨ys, x2, own_kept h2 ((Fr.refl [] w).alloc _) (by simp)⟩
    · intro i j hi hj hij g
      rcases (by omega : i = 0 ∧ j = 1 ∨ i = 1 ∧ j = 0) with ⟨rfl, rfl⟩ | ⟨rfl, rfl⟩
      · exact key g
      · exact fun e1 e2 => key g e2 e1
    · intro j hj g
      rcases (by omega : j = 0 ∨ j = 1) with rfl | rfl
      · intro e
        have e' : (Value.slice a1 m c1).ownBlock = some g := e
        simp [e']
      · intro e
        have e' : (Value.slice a2 m c2).ownBlock = some g := e
        simp [e']
    · intro e
      simp at e
      rcases e with e | e
      · have := l1 _ e; omega
      · have := l2 _ e; omega
  · refine ⟨by omega, fun _ _ => hm, ?_, ?_, ?_, ?_, ?_⟩
    · intro j hj
      rw [cell_of_row _ _ _ _ _ _ (heap_alloc_new w _)]
      rcases (by omega : j = 0 ∨ j = 1) with rfl | rfl <;> rfl
    · intro j hj
      rcases (by omega : j = 0 ∨ j = 1) with rfl | rfl
      · exact ⟨ys, x2, own_kept h2 ((Fr.refl [] w).alloc _) (by simp)⟩
      · exact ⟨xs, x1, own_kept h1 ((Fr.refl [] w).alloc _) (by simp)⟩
    · intro i j hi hj hij g
      rcases (by omega : i = 0 ∧ j = 1 ∨ i = 1 ∧ j = 0) with ⟨rfl, rfl⟩ | ⟨rfl, rfl⟩
      · exact fun e1 e2 => key g e2 e1
      · exact key g
    · intro j hj g
      rcases (by omega : j = 0 ∨ j = 1) with rfl | rfl
      · intro e
        have e' : (Value.slice a2 m c2).ownBlock = some g := e
        simp [e']
      · intro e
        have e' : (Value.slice a1 m c1).ownBlock = some g := e
        simp [e']
    · intro e
      simp at e
      rcases e with e | e
      · have := l1 _ e; omega
      · have := l2 _ e; omega
theorem two_in {w : World} {a1 a2 : Option Addr} {m c1 c2 : Nat} {xs ys : List Value} {o : Obj} (h1 : w.ownsRow 0 5 1 (.slice a1 m c1) m xs) (h2 : w.ownsRow 0 5 1 (.slice a2 m c2) m ys) :
    ∀ g ∈ ((Value.slice a1 m c1).ownBlock.toList ++ (Value.slice a2 m c2).ownBlock.toList), g < (w.alloc o).heap.size := by
  intro g e
  simp at e ⊢
  rcases e with e | e
  · have := own_lt h1 _ e; omega
  · have := own_lt h2 _ e; omega
theorem two_far {w w' : World} {D B E : Nat} {a1 a2 : Option Addr} {m c1 c2 : Nat} {xs ys : List Value} (h1 : w.ownsRow B 5 1 (.slice a1 m c1) m xs) (h2 : w'.ownsRow E 5 1 (.slice a2 m c2) m ys) (hB : D ≤ B) (hE : D ≤ E) :
    ∀ g ∈ ((Value.slice a1 m c1).ownBlock.toList ++ (Value.slice a2 m c2).ownBlock.toList), D ≤ g := by
  intro g e
  simp at e
  rcases e with e | e
  · have := (own_new h1 _ e).1; omega
  · have := (own_new h2 _ e).1; omega

set_option maxHeartbeats 4000000 in
set_option maxRecDepth 100000 in
theorem apart_law (w : World) (ad : Option Addr) (n c : Nat) (l : List UInt8) (hl : l.length = n) (hn : n < 9223372036854775808) (hb : BytesAt w ad l) :
    Calls Try.prog 4 #[.slice ad n c] w fun e w' => e = .returned (.bool true) ∧ Fr [] w w' := by
  obtain ⟨x, hx⟩ : ∃ x, min 200 n = x := ⟨_, rfl⟩
  have X : Hid (l.length = n ∧ min 200 n = x) := ⟨hl, hx⟩
  have hx2 : x ≤ 200 := by omega
  clear hl hx
  go_enter Try.func4, Try.ntmps4
  go_wp2_with fail
  refine (awake_any _).mono ?_
  rintro e w0 ⟨rfl, f0⟩
  go_wp2_with fail
  refine (row_any _ ad n c x l X.out.1 X.out.2 (hb.kept f0 (by simp)) hn).mono ?_
  rintro e w1 ⟨s, rfl, hs, f1⟩
  have g1 := f0.trans f1
  generalize rowOf l = r at hs
  clear f0 f1 hb X
  have bx := Box.new w1 s x
  have g2 := g1.alloc (.cells #[.string s, .int .i64 (x : Int)] 47)
  have hBw : w.heap.size ≤ w1.heap.size := g1.size
  clear g1
  go_wp2_with fail
  refine (text_any _ s x r hs).mono ?_
  rintro e w3 ⟨rfl, f3⟩
  have g3 := g2.trans f3
  have bx3 := bx.kept f3 (by simp)
  have hBlt := bx3.lt
  generalize w1.heap.size = B at bx3 hBw hBlt ⊢
  clear bx g2 f3
  have hsz : s.size ≤ 16777216 := by have := hs.size; have := hs.most; omega
  have hsm : s.size ≤ 100000 := by have := hs.size; have := hs.most; omega
  have HS : Hid (s.size ≤ 16777216 ∧ s.size ≤ 100000) := ⟨hsz, hsm⟩
  clear hsz hsm
  clear hx2
  go_wp2_with fail
  have gg : Fr [] w3 w3.drew := (Fr.refl _ _).drew
  have k0 := bx3.two
  go_region_held3 (fun w' => w'.cell? ⟨B, 0, none⟩ = some (.string s) ∧ w'.cell? ⟨B, 1, none⟩ = some (.int .i64 (x : Int))) (first | exact kk | exact (bx3.kept (gg.alloc _) (by simp)).two | exact k0)
    ((first
      | (go_at_call 21; have hz := p1; refine (pack_own _ s x HS.out.1).mono ?_; rintro e w6 ⟨a2, c2, rfl, p2, f6⟩; have p1' := own_kept p1 f6 (by simp); replace gg := gg.trans f6; have kk : Two w6 B s x := (bx3.kept gg (by simp)).two)
      | (go_at_call 21; refine (pack_own _ s x HS.out.1).mono ?_; rintro e w5 ⟨a1, c1, rfl, p1, f5⟩; replace gg := gg.trans f5; have kk : Two w5 B s x := (bx3.kept gg (by simp)).two; have s5 : w3.heap.size ≤ w5.heap.size := f5.size)
      | (go_at_call 17; first
          | refine (apartBytes_any _ _ 2 _ _ _ _ _ (two_lists HS.out.2 (own_weak p1') (own_weak p2) (fun g e => (own_new p1 g e).2) (fun g e => (own_new p2 g e).1)).1 (by omega) (two_in (own_weak p1') (own_weak p2))).mono ?_
          | refine (apartBytes_any _ _ 2 _ _ _ _ _ (two_lists HS.out.2 (own_weak p1') (own_weak p2) (fun g e => (own_new p1 g e).2) (fun g e => (own_new p2 g e).1)).2 (by omega) (two_in (own_weak p1') (own_weak p2))).mono ?_
         rintro e w7 ⟨rfl, f7⟩; have far := two_far (D := w3.heap.size) p1 p2 (Nat.le_refl _) s5; replace gg := (gg.alloc _).then f7 (fun i hi hm => by have := far i hm; omega); have kk : Two w7 B s x := (bx3.kept gg (by simp)).two)
      | (go_at_call 20; refine (text_any _ s x r hs).mono ?_; rintro e w8 ⟨rfl, f8⟩; replace gg := gg.trans f8; have kk : Two w8 B s x := (bx3.kept gg (by simp)).two)))
  all_goals
    go_wp2_with fail
    go_ret
    exact ⟨by simp, g3.trans gg⟩

end Go.Proofs.Ytbmmfljdkgclnaa
