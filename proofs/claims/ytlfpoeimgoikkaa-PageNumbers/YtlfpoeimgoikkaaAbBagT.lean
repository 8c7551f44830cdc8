/-
  The kit's bag with lists of bytes and rows of spans: what is put into it, and that it is apart where these are.
-/
import Derived.Test.YtlfpoeimgoikkaaAbFlatS
import Derived.Test.YtlfpoeimgoikkaaAbApartB
namespace Go.Proofs.Ytlfpoeimgoikkaa.Ab
open Go.RowKit Go.Maps

/-- A bag that holds lists of bytes and rows of spans. -/
def BagT (w : World) (p : Nat) (v u : Value) : Prop := w.heap[p]? = some (.cells #[.slice none 0 0, .slice none 0 0, .slice none 0 0, .slice none 0 0, v, .slice none 0 0, .slice none 0 0, u, .slice none 0 0, .slice none 0 0, .slice none 0 0, .slice none 0 0, .slice none 0 0, .slice none 0 0, .slice none 0 0, .slice none 0 0, .slice none 0 0, .slice none 0 0] 73)
theorem BagT.kept {w w' : World} {p : Nat} {v u : Value} {L : List Nat} (h : BagT w p v u) (k : Fr L w w') (hp : p ∉ L) : BagT w' p v u := k.same hp h
theorem BagT.c0 {w : World} {p : Nat} {v u : Value} (h : BagT w p v u) : w.cell? ⟨p, 0, none⟩ = some (.slice none 0 0) := by rw [cell_of_row w p 0 _ _ _ h]; rfl
theorem BagT.c1 {w : World} {p : Nat} {v u : Value} (h : BagT w p v u) : w.cell? ⟨p, 1, none⟩ = some (.slice none 0 0) := by rw [cell_of_row w p 1 _ _ _ h]; rfl
theorem BagT.c2 {w : World} {p : Nat} {v u : Value} (h : BagT w p v u) : w.cell? ⟨p, 2, none⟩ = some (.slice none 0 0) := by rw [cell_of_row w p 2 _ _ _ h]; rfl
theorem BagT.c3 {w : World} {p : Nat} {v u : Value} (h : BagT w p v u) : w.cell? ⟨p, 3, none⟩ = some (.slice none 0 0) := by rw [cell_of_row w p 3 _ _ _ h]; rfl
theorem BagT.c4 {w : World} {p : Nat} {v u : Value} (h : BagT w p v u) : w.cell? ⟨p, 4, none⟩ = some v := by rw [cell_of_row w p 4 _ _ _ h]; rfl
theorem BagT.c5 {w : World} {p : Nat} {v u : Value} (h : BagT w p v u) : w.cell? ⟨p, 5, none⟩ = some (.slice none 0 0) := by rw [cell_of_row w p 5 _ _ _ h]; rfl
theorem BagT.c6 {w : World} {p : Nat} {v u : Value} (h : BagT w p v u) : w.cell? ⟨p, 6, none⟩ = some (.slice none 0 0) := by rw [cell_of_row w p 6 _ _ _ h]; rfl
theorem BagT.c7 {w : World} {p : Nat} {v u : Value} (h : BagT w p v u) : w.cell? ⟨p, 7, none⟩ = some u := by rw [cell_of_row w p 7 _ _ _ h]; rfl
theorem BagT.c8 {w : World} {p : Nat} {v u : Value} (h : BagT w p v u) : w.cell? ⟨p, 8, none⟩ = some (.slice none 0 0) := by rw [cell_of_row w p 8 _ _ _ h]; rfl
theorem BagT.c9 {w : World} {p : Nat} {v u : Value} (h : BagT w p v u) : w.cell? ⟨p, 9, none⟩ = some (.slice none 0 0) := by rw [cell_of_row w p 9 _ _ _ h]; rfl
theorem BagT.c10 {w : World} {p : Nat} {v u : Value} (h : BagT w p v u) : w.cell? ⟨p, 10, none⟩ = some (.slice none 0 0) := by rw [cell_of_row w p 10 _ _ _ h]; rfl
theorem BagT.c11 {w : World} {p : Nat} {v u : Value} (h : BagT w p v u) : w.cell? ⟨p, 11, none⟩ = some (.slice none 0 0) := by rw [cell_of_row w p 11 _ _ _ h]; rfl
theorem BagT.c12 {w : World} {p : Nat} {v u : Value} (h : BagT w p v u) : w.cell? ⟨p, 12, none⟩ = some (.slice none 0 0) := by rw [cell_of_row w p 12 _ _ _ h]; rfl
theorem BagT.c13 {w : World} {p : Nat} {v u : Value} (h : BagT w p v u) : w.cell? ⟨p, 13, none⟩ = some (.slice none 0 0) := by rw [cell_of_row w p 13 _ _ _ h]; rfl
theorem BagT.c14 {w : World} {p : Nat} {v u : Value} (h : BagT w p v u) : w.cell? ⟨p, 14, none⟩ = some (.slice none 0 0) := by rw [cell_of_row w p 14 _ _ _ h]; rfl
theorem BagT.c15 {w : World} {p : Nat} {v u : Value} (h : BagT w p v u) : w.cell? ⟨p, 15, none⟩ = some (.slice none 0 0) := by rw [cell_of_row w p 15 _ _ _ h]; rfl
theorem BagT.c16 {w : World} {p : Nat} {v u : Value} (h : BagT w p v u) : w.cell? ⟨p, 16, none⟩ = some (.slice none 0 0) := by rw [cell_of_row w p 16 _ _ _ h]; rfl
theorem BagT.c17 {w : World} {p : Nat} {v u : Value} (h : BagT w p v u) : w.cell? ⟨p, 17, none⟩ = some (.slice none 0 0) := by rw [cell_of_row w p 17 _ _ _ h]; rfl
theorem BagT.set4 {w : World} {p : Nat} {v u : Value} (h : BagT w p v u) (x : Value) : BagT (w.setCell ⟨p, 4, none⟩ x) p x u := by
  have := heap_setCell_same w p 4 _ _ x h
  unfold BagT
  rw [this]
  simp
theorem BagT.set7 {w : World} {p : Nat} {v u : Value} (h : BagT w p v u) (x : Value) : BagT (w.setCell ⟨p, 7, none⟩ x) p v x := by
  have := heap_setCell_same w p 7 _ _ x h
  unfold BagT
  rw [this]
  simp

set_option maxHeartbeats 4000000 in
set_option maxRecDepth 100000 in
theorem bag_apartT (w : World) (p : Nat) (v u : Value) (LB LS : List Nat) (bg : BagT w p v u) (hp : p ∉ LB) (hpS : p ∉ LS) (hs : ∀ w', Fr LB w w' → Calls Try.prog 65 #[u] w' fun e w'' => e = .returned (.bool true) ∧ Fr LS w' w'') (hf : ∀ w', Fr [] w w' → Calls Try.prog 62 #[v] w' fun e w'' => e = .returned (.bool true) ∧ Fr LB w' w'') :
    Calls Try.prog 45 #[.pointer (some ⟨p, 0, none⟩)] w fun e w' => e = .returned (.bool true) ∧ Fr (LB ++ LS) w w' := by
  have hpa : p ∉ LB ++ LS := fun e => (List.mem_append.1 e).elim hp hpS
  have hF : Hid (∀ w', Fr [] w w' → Calls Try.prog 62 #[v] w' fun e w'' => e = .returned (.bool true) ∧ Fr LB w' w'') := hf
  have hT : Hid (∀ w', Fr LB w w' → Calls Try.prog 65 #[u] w' fun e w'' => e = .returned (.bool true) ∧ Fr LS w' w'') := hs
  clear hf hs
  have gg := Fr.refl [] w
  have d0 := bg.c0
  go_enter Try.func45, Try.ntmps45
  go_wp2_with (first | (go_at_call 58; refine (flatWords_nil _).mono ?_; rintro e w5 ⟨rfl, f5⟩; replace gg := gg.trans f5; have d1 := (bg.kept gg (by simp)).c1) | (go_at_call 59; refine (flatInts_nil _).mono ?_; rintro e w5 ⟨rfl, f5⟩; replace gg := gg.trans f5; have d2 := (bg.kept gg (by simp)).c2) | (go_at_call 60; refine (flatLongs_nil _).mono ?_; rintro e w5 ⟨rfl, f5⟩; replace gg := gg.trans f5; have d3 := (bg.kept gg (by simp)).c3) | (go_at_call 61; refine (flatTexts_nil _).mono ?_; rintro e w5 ⟨rfl, f5⟩; replace gg := gg.trans f5; have d4 := (bg.kept gg (by simp)).c4) | (go_at_call 62; refine (hF.out _ gg).mono ?_; rintro e w5 ⟨rfl, f5⟩; have gl := (gg.mono (M := LB) (fun _ _ h => nomatch h)).trans f5; clear gg; have gg := gl; have d5 := (bg.kept gg hp).c5) | (go_at_call 63; refine (flatNodes_nil _).mono ?_; rintro e w5 ⟨rfl, f5⟩; replace gg := gg.then f5 (fun _ _ h => nomatch h); have d6 := (bg.kept gg hp).c6) | (go_at_call 64; refine (flatFates_nil _).mono ?_; rintro e w5 ⟨rfl, f5⟩; replace gg := gg.then f5 (fun _ _ h => nomatch h); have d7 := (bg.kept gg hp).c7) | (go_at_call 65; refine (hT.out _ gg).mono ?_; rintro e w5 ⟨rfl, f5⟩; have gl := (gg.mono (M := LB ++ LS) (fun _ _ h => List.mem_append_left _ h)).trans (f5.mono (fun _ _ h => List.mem_append_right _ h)); clear gg; have gg := gl; have d8 := (bg.kept gg hpa).c8) | (go_at_call 66; refine (flatDirties_nil _).mono ?_; rintro e w5 ⟨rfl, f5⟩; replace gg := gg.then f5 (fun _ _ h => nomatch h); have d9 := (bg.kept gg hpa).c9) | (go_at_call 67; refine (flatRecords_nil _).mono ?_; rintro e w5 ⟨rfl, f5⟩; replace gg := gg.then f5 (fun _ _ h => nomatch h); have d10 := (bg.kept gg hpa).c10) | (go_at_call 68; refine (flatCells_nil _).mono ?_; rintro e w5 ⟨rfl, f5⟩; replace gg := gg.then f5 (fun _ _ h => nomatch h); have d11 := (bg.kept gg hpa).c11) | (go_at_call 69; refine (flatHelds_nil _).mono ?_; rintro e w5 ⟨rfl, f5⟩; replace gg := gg.then f5 (fun _ _ h => nomatch h); have d12 := (bg.kept gg hpa).c12) | (go_at_call 70; refine (flatTokens_nil _).mono ?_; rintro e w5 ⟨rfl, f5⟩; replace gg := gg.then f5 (fun _ _ h => nomatch h); have d13 := (bg.kept gg hpa).c13) | (go_at_call 71; refine (flatExprs_nil _).mono ?_; rintro e w5 ⟨rfl, f5⟩; replace gg := gg.then f5 (fun _ _ h => nomatch h); have d14 := (bg.kept gg hpa).c14) | (go_at_call 72; refine (flatItems_nil _).mono ?_; rintro e w5 ⟨rfl, f5⟩; replace gg := gg.then f5 (fun _ _ h => nomatch h); have d15 := (bg.kept gg hpa).c15) | (go_at_call 73; refine (flatShowns_nil _).mono ?_; rintro e w5 ⟨rfl, f5⟩; replace gg := gg.then f5 (fun _ _ h => nomatch h); have d16 := (bg.kept gg hpa).c16) | (go_at_call 74; refine (flatParts_nil _).mono ?_; rintro e w5 ⟨rfl, f5⟩; replace gg := gg.then f5 (fun _ _ h => nomatch h); have d17 := (bg.kept gg hpa).c17) | (go_at_call 75; refine (flatCommands_nil _).mono ?_; rintro e w5 ⟨rfl, f5⟩; replace gg := gg.then f5 (fun _ _ h => nomatch h)))
  go_ret
  exact ⟨rfl, gg⟩

/-- A bag that is new since w0, with what it holds. -/
structure BagOwnT (w0 w : World) (p : Nat) (v : Value) (n : Nat) (xs : List Value) (u : Value) (m : Nat) (ys : List Value) : Prop where
  bag : BagT w p v u
  own : w.ownsRow w0.heap.size 22 1 v n xs
  ownS : w.ownsRow w0.heap.size 37 1 u m ys
  fr : Fr [] w0 w
  new : w0.heap.size ≤ p
  ne : v.ownBlock ≠ some p
  neS : u.ownBlock ≠ some p
theorem BagOwnT.lt {w0 w : World} {p : Nat} {v : Value} {n : Nat} {xs : List Value} {u : Value} {m : Nat} {ys : List Value} (h : BagOwnT w0 w p v n xs u m ys) : p < w.heap.size := (Array.getElem?_eq_some_iff.1 h.bag).1
theorem BagOwnT.kept {w0 w w' : World} {p : Nat} {v : Value} {n : Nat} {xs : List Value} {u : Value} {m : Nat} {ys : List Value} (h : BagOwnT w0 w p v n xs u m ys) (f : Fr [] w w') : BagOwnT w0 w' p v n xs u m ys :=
  ⟨h.bag.kept f (by simp), own_kept h.own f (by simp), own_kept h.ownS f (by simp), h.fr.trans f, h.new, h.ne, h.neS⟩
theorem rows_ne {w : World} {B C : Nat} {v u : Value} {n m : Nat} {xs ys : List Value} (h : w.ownsRow B 22 1 v n xs) (k : w.ownsRow C 37 1 u m ys) : ∀ g, u.ownBlock = some g → g ∉ v.ownBlock.toList := by
  intro g hg hm
  rcases h.2 with ⟨e, _⟩ | ⟨g1, _, c1, e, _, h1, _⟩
  · rw [e] at hm; simp [Value.ownBlock] at hm
  · rcases k.2 with ⟨e2, _⟩ | ⟨g2, _, c2, e2, _, h2, _⟩
    · rw [e2] at hg; cases hg
    · rw [e] at hm
      rw [e2] at hg
      have a1 : g = g1 := by simpa [Value.ownBlock, eq_comm] using hm
      have a2 : g2 = g := by simpa [Value.ownBlock] using hg
      rw [a2, a1, h1] at h2
      cases h2

set_option maxHeartbeats 1000000 in
set_option maxRecDepth 100000 in
theorem putT_any (w0 w : World) (p : Nat) (v : Value) (ad : Option Addr) (m c : Nat) (n : Nat) (xs : List Value) (u : Value) (k : Nat) (ys : List Value) (h : BagOwnT w0 w p v n xs u k ys) (hn : n ≤ 1000000) :
    Calls Try.prog 44 #[.pointer (some ⟨p, 0, none⟩), .slice ad m c] w fun e w' => e = .returned (.tuple #[]) ∧ (∃ v', BagOwnT w0 w' p v' (n + 1) (xs ++ [.slice ad m c]) u k ys) ∧ Fr (p :: v.ownBlock.toList) w w' := by
  have c4 := h.bag.c4
  have hpl := h.lt
  have fA : Fr [] w (w.alloc (.cells #[.slice ad m c] 22)) := (Fr.refl [] w).alloc _
  have bgA := h.bag.kept fA (by simp)
  have owA := own_kept h.own fA (by simp)
  have owU := own_kept h.ownS fA (by simp)
  have hun := rows_ne owA owU
  have cA : (w.alloc (.cells #[.slice ad m c] 22)).cell? ⟨w.heap.size, 0, none⟩ = some (.slice ad m c) := by rw [cell_of_row _ _ _ _ _ _ (heap_alloc_new w _)]; rfl
  have hfr := h.fr.size
  have hne := h.ne
  go_enter Try.func44, Try.ntmps44
  go_wp2_with (refine wp_appL rfl _ _ rfl w0.heap.size v n xs rfl owA (by simp; omega) w.heap.size _ rfl rfl cA hn ?_; intro g cap w5 o5 f5 at5 lt5; have b5 := bgA.kept f5 (by intro e; simp at e; exact hne e); have c5 := b5.c4; have z5 := frozen_of_row w5 p 4 _ _ b5)
  go_end0
  have hnew := h.own
  have hgb : w0.heap.size ≤ g ∧ g ≠ p := by
    rcases at5 with e | e
    · refine ⟨?_, fun e2 => hne (e2 ▸ e)⟩
      rcases h.own.2 with ⟨e1, _⟩ | ⟨g1, _, _, e1, hb, _⟩
      · rw [e1] at e; cases e
      · rw [e1] at e; cases e; exact hb
    · simp at e; omega
  have f6 : Fr [] w0 w5 := (h.fr.trans fA).then f5 (by
    intro i hi e
    simp at e
    rcases h.own.2 with ⟨e1, _⟩ | ⟨g1, _, _, e1, hb, _⟩
    · rw [e1] at e; cases e
    · rw [e1] at e; cases e; have hi' : g1 < w0.heap.size := hi; omega)
  refine ⟨rfl, ⟨_, ⟨b5.set4 _, ?_, ?_, f6.setCell _ _ (fun e => by have := h.new; have e' : p < w0.heap.size := e; omega), h.new, fun e => hgb.2 (by simpa [Value.ownBlock] using e), h.neS⟩⟩, ?_⟩
  · refine own_kept o5 ((Fr.refl [p] w5).setCell _ _ (by simp)) ?_
    intro g' e
    have : g = g' := by simpa [Value.ownBlock] using e
    subst this
    simpa using hgb.2
  · refine own_kept (own_kept owU f5 hun) ((Fr.refl [p] w5).setCell _ _ (by simp)) ?_
    intro g' e e2
    simp at e2
    subst e2
    exact h.neS e
  · exact ((fA.mono (M := p :: v.ownBlock.toList) (fun _ _ e => nomatch e)).trans (f5.mono (fun i _ hi => List.mem_cons_of_mem _ hi))).setCell _ _ (fun _ => by simp)


theorem BagOwnT.far {w0 w : World} {p : Nat} {v : Value} {n : Nat} {xs : List Value} {u : Value} {m : Nat} {ys : List Value} (h : BagOwnT w0 w p v n xs u m ys)  : ∀ i, w.heap.size ≤ i → i ∉ (p :: v.ownBlock.toList) := by
  intro i hi hm
  have := h.lt
  rcases List.mem_cons.1 hm with e | e
  · omega
  · have h2 := (h.own.lt i (by simpa using e)).2
    omega

set_option maxHeartbeats 1000000 in
set_option maxRecDepth 100000 in
theorem oneSpan_any (w0 w : World) (p : Nat) (v : Value) (n : Nat) (xs : List Value) (u : Value) (k : Nat) (ys : List Value) (h : BagOwnT w0 w p v n xs u k ys) (hn : n ≤ 900000) (x y : Value) (a1 a2 : Option Addr) (n1 c1 n2 c2 : Nat) :
    Calls Try.prog 77 #[.pointer (some ⟨p, 0, none⟩), .agg #[x, y, .slice a1 n1 c1, .slice a2 n2 c2]] w fun e w' => e = .returned (.tuple #[]) ∧ ∃ v', BagOwnT w0 w' p v' (n + 2) (xs ++ [.slice a1 n1 c1, .slice a2 n2 c2]) u k ys := by
  have bx := heap_alloc_new w (.cells #[x, y, .slice a1 n1 c1, .slice a2 n2 c2] 52)
  have f1 := (Fr.refl [] w).alloc (.cells #[x, y, .slice a1 n1 c1, .slice a2 n2 c2] 52)
  have h1 := h.kept f1
  have hpl := h.lt
  have hnv : w.heap.size ∉ (p :: v.ownBlock.toList) := h.far _ (Nat.le_refl _)
  go_enter Try.func77, Try.ntmps77
  go_wp2_with fail
  refine (putT_any w0 _ p v a1 n1 c1 n xs u k ys h1 (by omega)).mono ?_
  rintro e w2 ⟨rfl, ⟨v2, B2⟩, f2⟩
  have bx2 : w2.heap[w.heap.size]? = some (.cells #[x, y, .slice a1 n1 c1, .slice a2 n2 c2] 52) := f2.same hnv bx
  have c3 : w2.cell? ⟨w.heap.size, 3, none⟩ = some (.slice a2 n2 c2) := cell_of_row w2 w.heap.size 3 _ _ _ bx2
  clear bx f1 h1 h f2 bx2
  go_wp2_with fail
  refine (putT_any w0 _ p v2 a2 n2 c2 (n + 1) _ u k ys B2 (by omega)).mono ?_
  rintro e w3 ⟨rfl, ⟨v3, B3⟩, f3⟩
  go_wp2_with fail
  go_end0
  refine ⟨rfl, v3, ?_⟩
  rw [List.append_assoc] at B3
  exact B3

section
variable {ops : Array Oper} {rest : List Oper} {o : Oper} {a : Act} {w : World} {Q : Exit → Act → World → Prop}
theorem wp_appLS (hgd : o.guard = none) (s x : Operand) (ho : o.op = .call { callee := .builtin .append, args := #[s, x], argTypes := #[42, 42] }) (B : Nat) (v : Value) (n : Nat) (xs : List Value) (hs : a.eval s = v) (hown : w.ownsRow B 37 1 v n xs) (hB : B ≤ w.heap.size)
    (b : Nat) (sv : Value) (hsv : sv.oneCell' = true) (hx : a.eval x = .slice (some ⟨b, 0, none⟩) 1 1) (hc : w.cell? ⟨b, 0, none⟩ = some sv) (hn : n ≤ 1000000)
    (h : ∀ g cap w', w'.ownsRow B 37 1 (.slice (some ⟨g, 0, none⟩) (n + 1) cap) (n + 1) (xs ++ [sv]) → Fr v.ownBlock.toList w w' → (v.ownBlock = some g ∨ g = w.heap.size) → g < w'.heap.size → wpList Try.prog ops Q rest (a.put o.dst (.slice (some ⟨g, 0, none⟩) (n + 1) cap)) w') : wpList Try.prog ops Q (o :: rest) a w :=
  wpList_plain hgd fun K hK => by
    obtain ⟨i, hi, hz, hsz, hb⟩ := infoLS
    obtain ⟨g, cap, w', hrun, h2, h3, h5, h6⟩ := run_append_lies (P := Try.prog) w 42 o.type B 37 i (.slice none 0 0) 1 24 Try.underlying42 hi hz hsz hb rfl (by omega) v n xs hown ⟨b, 0, none⟩ 1 1 [sv] rfl
      (by
        intro j u hu
        cases j with
        | zero => simp at hu; subst hu; rw [Addr.add_mid]; exact hc
        | succ j => simp at hu) (by intro u hu; simp at hu; subst hu; exact hsv) (by omega) (by unfold maxLen; omega) (by omega) hB _ rfl
    unfold Oper.wp execOp
    simp [ho, resolve, invoke, builtin, hs, hx, hrun, Result.andThen]
    exact hK _ _ (h _ _ _ h2 (fr_grown h3) h5 h6)
end

/-- A row of spans as it lies: the lists of each. -/
def RowC (w : World) (AD : Option Addr) (N : Nat) (A1 A2 : Nat → Option Addr) (M1 C1 M2 C2 : Nat → Nat) : Prop :=
  ∀ i, i < N → ∃ gl x y, AD = some ⟨gl, 0, none⟩ ∧ w.cell? ⟨gl, i * 4, none⟩ = some x ∧ w.cell? ⟨gl, i * 4 + 1, none⟩ = some y ∧ w.cell? ⟨gl, i * 4 + 2, none⟩ = some (.slice (A1 i) (M1 i) (C1 i)) ∧ w.cell? ⟨gl, i * 4 + 3, none⟩ = some (.slice (A2 i) (M2 i) (C2 i))
def rowL (A1 A2 : Nat → Option Addr) (M1 C1 M2 C2 : Nat → Nat) (N : Nat) : List Value := (List.range N).flatMap fun i => [.slice (A1 i) (M1 i) (C1 i), .slice (A2 i) (M2 i) (C2 i)]
theorem rowL_succ (A1 A2 : Nat → Option Addr) (M1 C1 M2 C2 : Nat → Nat) (N : Nat) : rowL A1 A2 M1 C1 M2 C2 (N + 1) = rowL A1 A2 M1 C1 M2 C2 N ++ [.slice (A1 N) (M1 N) (C1 N), .slice (A2 N) (M2 N) (C2 N)] := by simp [rowL, List.range_succ]

set_option maxHeartbeats 1000000 in
set_option maxRecDepth 100000 in
theorem putSpans_any (w0 w : World) (p : Nat) (v : Value) (n : Nat) (xs : List Value) (u : Value) (k : Nat) (ys : List Value) (h : BagOwnT w0 w p v n xs u k ys) (hn : n ≤ 800000) (hk : k ≤ 1000) (AD : Option Addr) (N CAP : Nat) (A1 A2 : Nat → Option Addr) (M1 C1 M2 C2 : Nat → Nat) (hr : RowC w0 AD N A1 A2 M1 C1 M2 C2) (hN : N ≤ 1000) :
    Calls Try.prog 52 #[.pointer (some ⟨p, 0, none⟩), .slice AD N CAP] w fun e w' => e = .returned (.tuple #[]) ∧ ∃ v' u', BagOwnT w0 w' p v' (n + 2 * N) (xs ++ rowL A1 A2 M1 C1 M2 C2 N) u' (k + 1) (ys ++ [.slice AD N CAP]) := by
  have c7 := h.bag.c7
  have hpl := h.lt
  have fA : Fr [] w (w.alloc (.cells #[.slice AD N CAP] 37)) := (Fr.refl [] w).alloc _
  have bgA := h.bag.kept fA (by simp)
  have owA := own_kept h.ownS fA (by simp)
  have owV := own_kept h.own fA (by simp)
  have cA : (w.alloc (.cells #[.slice AD N CAP] 37)).cell? ⟨w.heap.size, 0, none⟩ = some (.slice AD N CAP) := by rw [cell_of_row _ _ _ _ _ _ (heap_alloc_new w _)]; rfl
  have hfr := h.fr.size
  have hne := h.neS
  have HR : Hid (RowC w0 AD N A1 A2 M1 C1 M2 C2) := hr
  clear hr
  go_enter Try.func52, Try.ntmps52
  go_wp2_with (refine wp_appLS rfl _ _ rfl w0.heap.size u k ys rfl owA (by simp; omega) w.heap.size _ rfl rfl cA (by omega) ?_; intro g cap w5 o5 f5 at5 lt5; have b5 := bgA.kept f5 (by intro e; simp at e; exact hne e); have c5 := b5.c7; have z5 := frozen_of_row w5 p 7 _ _ b5)
  have hgb : w0.heap.size ≤ g ∧ g ≠ p := by
    rcases at5 with e | e
    · refine ⟨?_, fun e2 => hne (e2 ▸ e)⟩
      rcases h.ownS.2 with ⟨e1, _⟩ | ⟨g1, _, _, e1, hb, _⟩
      · rw [e1] at e; cases e
      · rw [e1] at e; cases e; exact hb
    · simp at e; omega
  have f6 : Fr [] w0 w5 := (h.fr.trans fA).then f5 (by
    intro i hi e
    simp at e
    rcases h.ownS.2 with ⟨e1, _⟩ | ⟨g1, _, _, e1, hb, _⟩
    · rw [e1] at e; cases e
    · rw [e1] at e; cases e; have hi' : g1 < w0.heap.size := hi; omega)
  have hvn : ∀ g', v.ownBlock = some g' → g' ∉ u.ownBlock.toList := fun g' e e2 => by
    have e3 : u.ownBlock = some g' := by simpa using e2
    exact rows_ne owV owA g' e3 (by simp [e])
  have B6 : BagOwnT w0 (w5.setCell ⟨p, 7, none⟩ (.slice (some ⟨g, 0, none⟩) (k + 1) cap)) p v n xs (.slice (some ⟨g, 0, none⟩) (k + 1) cap) (k + 1) (ys ++ [.slice AD N CAP]) := by
    refine ⟨b5.set7 _, ?_, ?_, f6.setCell _ _ (fun e => by have := h.new; have e' : p < w0.heap.size := e; omega), h.new, h.ne, fun e => hgb.2 (by simpa [Value.ownBlock] using e)⟩
    · refine own_kept (own_kept owV f5 hvn) ((Fr.refl [p] w5).setCell _ _ (by simp)) ?_
      intro g' e e2
      simp at e2
      subst e2
      exact h.ne e
    · refine own_kept o5 ((Fr.refl [p] w5).setCell _ _ (by simp)) ?_
      intro g' e
      have : g = g' := by simpa [Value.ownBlock] using e
      subst this
      simpa using hgb.2
  generalize w5.setCell ⟨p, 7, none⟩ (.slice (some ⟨g, 0, none⟩) (k + 1) cap) = w6 at B6 ⊢
  clear o5 f5 at5 lt5 b5 c5 z5 f6 hgb hvn owA owV bgA fA cA c7 h hne hfr hpl
  go_loopw [4] (fun iv wr => ∃ (i : Nat) (v' : Value), i ≤ N ∧ iv = .int .i64 i ∧ BagOwnT w0 wr p v' (n + 2 * i) (xs ++ rowL A1 A2 M1 C1 M2 C2 i) (.slice (some ⟨g, 0, none⟩) (k + 1) cap) (k + 1) (ys ++ [.slice AD N CAP])) (fun iv _ => N - (intOf iv).toNat)
  case atStart => exact ⟨0, v, Nat.zero_le _, rfl, by simpa [rowL] using B6⟩
  case round =>
    obtain ⟨i, v', hi, rfl, B⟩ := hrel
    by_cases hlt : i < N
    · have hlt' : (i : Int) < (N : Int) := by omega
      have hi0 : (0 : Int) ≤ (i : Int) := by omega
      obtain ⟨gl, x, y, e, k0, k1, k2, k3⟩ := HR.out i hlt
      have HB : Hid (BagOwnT w0 wr p v' (n + 2 * i) (xs ++ rowL A1 A2 M1 C1 M2 C2 i) (.slice (some ⟨g, 0, none⟩) (k + 1) cap) (k + 1) (ys ++ [.slice AD N CAP])) := B
      have q0 := cell_keep k0 B.fr
      have q1 := cell_keep k1 B.fr
      have q2 := cell_keep k2 B.fr
      have q3 := cell_keep k3 B.fr
      clear k0 k1 k2 k3 B B6 HR
      subst e
      go_wp2_with fail
      refine (oneSpan_any w0 wr p v' _ _ _ _ _ HB.out (by omega) x y _ _ _ _ _ _).mono ?_
      rintro e w7 ⟨rfl, v7, B7⟩
      go_wp2_with fail
      refine ⟨⟨i + 1, v7, by omega, by go_num, ?_⟩, by simp [intOf]; omega⟩
      rw [rowL_succ, ← List.append_assoc, show n + 2 * (i + 1) = n + 2 * i + 2 by omega]
      exact B7
    · obtain rfl : i = N := by omega
      go_wp2_with fail
      go_end0
      exact ⟨rfl, v', _, B⟩

/-- Lists of bytes that lie apart, without a table. -/
structure Held (w : World) (G : List Nat) (K : Nat) (ad : Nat → Option Addr) (n cap : Nat → Nat) : Prop where
  few : K ≤ 250
  long : ∀ j, j < K → n j ≤ 100000
  own : ∀ j, j < K → ∃ xs, xs.length = n j ∧ w.ownsRow 0 5 1 (.slice (ad j) (n j) (cap j)) (n j) xs
  apart : ∀ i j, i < K → j < K → i ≠ j → ∀ g, (Value.slice (ad i) (n i) (cap i)).ownBlock = some g → (Value.slice (ad j) (n j) (cap j)).ownBlock ≠ some g
  within : ∀ j, j < K → ∀ g, (Value.slice (ad j) (n j) (cap j)).ownBlock = some g → g ∈ G
theorem Held.flat {w w' : World} {G : List Nat} {K : Nat} {ad : Nat → Option Addr} {n cap : Nat → Nat} (H : Held w G K ad n cap) (hG : ∀ g ∈ G, g < w.heap.size) (f : Fr [] w w') (v : Value) (hv : w'.ownsRow w.heap.size 22 1 v K ((List.range K).map fun j => .slice (ad j) (n j) (cap j))) :
    Calls Try.prog 62 #[v] w' fun e w'' => e = .returned (.bool true) ∧ Fr G w' w'' := by
  rcases hv.2 with ⟨rfl, h0⟩ | ⟨t', c', cur, rfl, hb, _⟩
  · exact (flatBytes_nil w').mono fun e w'' h => ⟨h.1, h.2.mono (fun _ _ e => nomatch e)⟩
  · refine flatBytes_any w' G K t' c' ad n cap ⟨H.few, H.long, ?_, ?_, H.apart, H.within, fun h => by have := hG t' h; omega⟩
    · intro j hj
      have := hv.cells (g := t') rfl j (.slice (ad j) (n j) (cap j)) (by simp [hj])
      rw [Addr.add_mid] at this
      simpa using this
    · intro j hj
      obtain ⟨xs, h1, h2⟩ := H.own j hj
      exact ⟨xs, h1, own_kept h2 f (by simp)⟩
/-- Rows of spans that lie apart, without a table. -/
structure HeldS (w : World) (G : List Nat) (K : Nat) (ad : Nat → Option Addr) (n cap : Nat → Nat) : Prop where
  few : K ≤ 20
  long : ∀ j, j < K → n j ≤ 1000
  own : ∀ j, j < K → ∃ xs, xs.length = n j * 4 ∧ OwnS w (.slice (ad j) (n j) (cap j)) (n j) xs
  apart : ∀ i j, i < K → j < K → i ≠ j → ∀ g, (Value.slice (ad i) (n i) (cap i)).ownBlock = some g → (Value.slice (ad j) (n j) (cap j)).ownBlock ≠ some g
  within : ∀ j, j < K → ∀ g, (Value.slice (ad j) (n j) (cap j)).ownBlock = some g → g ∈ G
theorem HeldS.flat {w w' : World} {G LB : List Nat} {K : Nat} {ad : Nat → Option Addr} {n cap : Nat → Nat} (H : HeldS w G K ad n cap) (hG : ∀ g ∈ G, g < w.heap.size) (f : Fr LB w w') (hLB : ∀ g ∈ G, g ∉ LB) (hK : 1 ≤ K) (v : Value) (hv : w'.ownsRow w.heap.size 37 1 v K ((List.range K).map fun j => .slice (ad j) (n j) (cap j))) :
    Calls Try.prog 65 #[v] w' fun e w'' => e = .returned (.bool true) ∧ Fr G w' w'' := by
  rcases hv.2 with ⟨rfl, h0⟩ | ⟨t', c', cur, rfl, hb, _⟩
  · omega
  · refine flatSpans_any w' G K t' c' ad n cap ⟨H.few, H.long, ?_, ?_, H.apart, H.within, fun h => by have := hG t' h; omega⟩
    · intro j hj
      have := hv.cells (g := t') rfl j (.slice (ad j) (n j) (cap j)) (by simp [hj])
      rw [Addr.add_mid] at this
      simpa using this
    · intro j hj
      obtain ⟨xs, h1, h2⟩ := H.own j hj
      exact ⟨xs, h1, ownS_kept h2 f (fun g hg => hLB g (H.within j hj g hg))⟩

/-- All lists of the rows so far. -/
def rowsL (A1 A2 : Nat → Nat → Option Addr) (M1 C1 M2 C2 : Nat → Nat → Nat) (N : Nat → Nat) (r : Nat) : List Value := (List.range r).flatMap fun j => rowL (A1 j) (A2 j) (M1 j) (C1 j) (M2 j) (C2 j) (N j)
def rowsN (N : Nat → Nat) : Nat → Nat
  | 0 => 0
  | r + 1 => rowsN N r + 2 * N r
theorem rowsN_le (N : Nat → Nat) (m : Nat) : ∀ r, (∀ j, j < r → N j ≤ m) → rowsN N r ≤ 2 * m * r
  | 0, _ => Nat.le_refl _
  | r + 1, h => by
    have h1 := rowsN_le N m r (fun j hj => h j (by omega))
    have h2 := h r (by omega)
    show rowsN N r + 2 * N r ≤ 2 * m * (r + 1)
    rw [Nat.mul_succ]
    omega

set_option maxHeartbeats 2000000 in
set_option maxRecDepth 100000 in
theorem apartSpans_any (w : World) (R t c : Nat) (AD : Nat → Option Addr) (N CAP : Nat → Nat) (A1 A2 : Nat → Nat → Option Addr) (M1 C1 M2 C2 : Nat → Nat → Nat) (hR0 : 1 ≤ R) (hR : R ≤ 20) (htab : ∀ r, r < R → w.cell? ⟨t, r, none⟩ = some (.slice (AD r) (N r) (CAP r))) (hrow : ∀ r, r < R → RowC w (AD r) (N r) (A1 r) (A2 r) (M1 r) (C1 r) (M2 r) (C2 r)) (hN : ∀ r, r < R → N r ≤ 1000)
    (GB GS : List Nat) (hGB : ∀ g ∈ GB, g < w.heap.size) (hGS : ∀ g ∈ GS, g < w.heap.size) (hno : ∀ g ∈ GS, g ∉ GB) (K : Nat) (ad : Nat → Option Addr) (n cap : Nat → Nat) (hK : rowsN N R = K) (hl : rowsL A1 A2 M1 C1 M2 C2 N R = (List.range K).map fun j => .slice (ad j) (n j) (cap j)) (HB : Held w GB K ad n cap) (HS : HeldS w GS R AD N CAP) :
    Calls Try.prog 23 #[.slice (some ⟨t, 0, none⟩) R c] w fun e w' => e = .returned (.bool true) ∧ Fr (GB ++ GS) w w' := by
  have hR1 : (R : Int) ≤ 20 := by omega
  have hRz : (0 : Int) ≤ (R : Int) := by omega
  have HH : Hid (Held w GB K ad n cap) := HB
  have HHS : Hid (HeldS w GS R AD N CAP) := HS
  have HROW : Hid (∀ r, r < R → RowC w (AD r) (N r) (A1 r) (A2 r) (M1 r) (C1 r) (M2 r) (C2 r)) := hrow
  have HT : Hid (∀ r, r < R → w.cell? ⟨t, r, none⟩ = some (.slice (AD r) (N r) (CAP r))) := htab
  have HN : Hid (∀ r, r < R → N r ≤ 1000) := hN
  clear HB HS hrow htab hN
  go_enter Try.func23, Try.ntmps23
  go_wp2_with fail
  go_loopw [4] (fun kv wx => ∃ r v u, r ≤ R ∧ kv = .int .i64 (r : Nat) ∧ BagOwnT w wx w.heap.size v (rowsN N r) (rowsL A1 A2 M1 C1 M2 C2 N r) u r ((List.range r).map fun j => .slice (AD j) (N j) (CAP j))) (fun kv _ => R - (intOf kv).toNat)
  case atStart => exact ⟨0, .slice none 0 0, .slice none 0 0, Nat.zero_le _, rfl, heap_alloc_new w _, World.ownsRow_nil _ _ _ 1, World.ownsRow_nil _ _ _ 1, (Fr.refl _ _).alloc _, Nat.le_refl _, by simp [Value.ownBlock], by simp [Value.ownBlock]⟩
  case round =>
    obtain ⟨r, v, u, hr, rfl, B⟩ := hrel
    by_cases hlt : r < R
    · have hlt' : (r : Int) < (R : Int) := by omega
      have hr0 : (0 : Int) ≤ (r : Int) := by omega
      have hct := cell_keep (HT.out r hlt) B.fr
      have hNr := HN.out r hlt
      have hle := rowsN_le N 1000 r (fun j hj => HN.out j (by omega))
      have HBB : Hid (BagOwnT w wr w.heap.size v (rowsN N r) (rowsL A1 A2 M1 C1 M2 C2 N r) u r ((List.range r).map fun j => .slice (AD j) (N j) (CAP j))) := B
      clear B
      go_wp2_with fail
      refine (putSpans_any w wr _ v _ _ u r _ HBB.out (by omega) (by omega) (AD r) (N r) (CAP r) (A1 r) (A2 r) (M1 r) (C1 r) (M2 r) (C2 r) (HROW.out r hlt) hNr).mono ?_
      rintro e w5 ⟨rfl, v5, u5, B5⟩
      go_wp2_with fail
      refine ⟨⟨r + 1, v5, u5, by omega, by go_num, ?_⟩, by simp [intOf]; omega⟩
      rw [List.range_succ, List.map_append]
      have e1 : rowsL A1 A2 M1 C1 M2 C2 N (r + 1) = rowsL A1 A2 M1 C1 M2 C2 N r ++ rowL (A1 r) (A2 r) (M1 r) (C1 r) (M2 r) (C2 r) (N r) := by simp [rowsL, List.range_succ]
      rw [e1]
      exact B5
    · obtain rfl : R = r := by omega
      have hv := B.own
      rw [hK, hl] at hv
      have hu := B.ownS
      have hpl := B.lt
      have HBB : Hid (BagOwnT w wr w.heap.size v (rowsN N R) (rowsL A1 A2 M1 C1 M2 C2 N R) u R ((List.range R).map fun j => .slice (AD j) (N j) (CAP j))) := B
      have hpB : w.heap.size ∉ GB := fun h => by have := hGB _ h; omega
      have hpS : w.heap.size ∉ GS := fun h => by have := hGS _ h; omega
      have hap := bag_apartT wr w.heap.size v u GB GS B.bag hpB hpS
        (fun w' f => HHS.out.flat hGS ((B.fr.mono (M := GB) (fun _ _ e => nomatch e)).trans f) hno hR0 u (own_kept hu f (fun g hg hm => by
          have h1 := (hu.lt g hg).1
          have h2 := hGB g hm
          omega)))
        (fun w' f => HH.out.flat hGB (B.fr.trans f) v (own_kept hv f (by simp)))
      have HAP := (show Hid (Calls Try.prog 45 #[.pointer (some ⟨w.heap.size, 0, none⟩)] wr fun e w' => e = .returned (.bool true) ∧ Fr (GB ++ GS) wr w') from hap)
      clear hap hv hu B
      go_wp2_with fail
      refine HAP.out.mono ?_
      rintro e w5 ⟨rfl, f5⟩
      go_wp2_with fail
      go_ret
      exact ⟨rfl, (HBB.out.fr.mono (M := GB ++ GS) (fun _ _ h => nomatch h)).trans f5⟩

end Go.Proofs.Ytlfpoeimgoikkaa.Ab
