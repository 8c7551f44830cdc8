/-
  The kit's ApartNodes: at rows that lie apart it answers true, and writes these alone.
-/
import Derived.Test.YtdfgmdddnehocabGreatDoorAbFlatN
namespace Go.Proofs.YtdfgmdddnehocabGreatDoor.Ab
open Go.RowKit Go.Maps

/-- A bag that holds rows of one kind alone. -/
def BagN (w : World) (p : Nat) (v : Value) : Prop := w.heap[p]? = some (.cells #[.slice none 0 0, .slice none 0 0, .slice none 0 0, .slice none 0 0, .slice none 0 0, v, .slice none 0 0, .slice none 0 0, .slice none 0 0, .slice none 0 0, .slice none 0 0, .slice none 0 0, .slice none 0 0, .slice none 0 0, .slice none 0 0, .slice none 0 0, .slice none 0 0, .slice none 0 0] 58)
theorem BagN.kept {w w' : World} {p : Nat} {v : Value} {L : List Nat} (h : BagN w p v) (k : Fr L w w') (hp : p ∉ L) : BagN w' p v := k.same hp h
theorem BagN.c0 {w : World} {p : Nat} {v : Value} (h : BagN w p v) : w.cell? ⟨p, 0, none⟩ = some (.slice none 0 0) := by rw [cell_of_row w p 0 _ _ _ h]; rfl
theorem BagN.c1 {w : World} {p : Nat} {v : Value} (h : BagN w p v) : w.cell? ⟨p, 1, none⟩ = some (.slice none 0 0) := by rw [cell_of_row w p 1 _ _ _ h]; rfl
theorem BagN.c2 {w : World} {p : Nat} {v : Value} (h : BagN w p v) : w.cell? ⟨p, 2, none⟩ = some (.slice none 0 0) := by rw [cell_of_row w p 2 _ _ _ h]; rfl
theorem BagN.c3 {w : World} {p : Nat} {v : Value} (h : BagN w p v) : w.cell? ⟨p, 3, none⟩ = some (.slice none 0 0) := by rw [cell_of_row w p 3 _ _ _ h]; rfl
theorem BagN.c4 {w : World} {p : Nat} {v : Value} (h : BagN w p v) : w.cell? ⟨p, 4, none⟩ = some (.slice none 0 0) := by rw [cell_of_row w p 4 _ _ _ h]; rfl
theorem BagN.c5 {w : World} {p : Nat} {v : Value} (h : BagN w p v) : w.cell? ⟨p, 5, none⟩ = some (v) := by rw [cell_of_row w p 5 _ _ _ h]; rfl
theorem BagN.c6 {w : World} {p : Nat} {v : Value} (h : BagN w p v) : w.cell? ⟨p, 6, none⟩ = some (.slice none 0 0) := by rw [cell_of_row w p 6 _ _ _ h]; rfl
theorem BagN.c7 {w : World} {p : Nat} {v : Value} (h : BagN w p v) : w.cell? ⟨p, 7, none⟩ = some (.slice none 0 0) := by rw [cell_of_row w p 7 _ _ _ h]; rfl
theorem BagN.c8 {w : World} {p : Nat} {v : Value} (h : BagN w p v) : w.cell? ⟨p, 8, none⟩ = some (.slice none 0 0) := by rw [cell_of_row w p 8 _ _ _ h]; rfl
theorem BagN.c9 {w : World} {p : Nat} {v : Value} (h : BagN w p v) : w.cell? ⟨p, 9, none⟩ = some (.slice none 0 0) := by rw [cell_of_row w p 9 _ _ _ h]; rfl
theorem BagN.c10 {w : World} {p : Nat} {v : Value} (h : BagN w p v) : w.cell? ⟨p, 10, none⟩ = some (.slice none 0 0) := by rw [cell_of_row w p 10 _ _ _ h]; rfl
theorem BagN.c11 {w : World} {p : Nat} {v : Value} (h : BagN w p v) : w.cell? ⟨p, 11, none⟩ = some (.slice none 0 0) := by rw [cell_of_row w p 11 _ _ _ h]; rfl
theorem BagN.c12 {w : World} {p : Nat} {v : Value} (h : BagN w p v) : w.cell? ⟨p, 12, none⟩ = some (.slice none 0 0) := by rw [cell_of_row w p 12 _ _ _ h]; rfl
theorem BagN.c13 {w : World} {p : Nat} {v : Value} (h : BagN w p v) : w.cell? ⟨p, 13, none⟩ = some (.slice none 0 0) := by rw [cell_of_row w p 13 _ _ _ h]; rfl
theorem BagN.c14 {w : World} {p : Nat} {v : Value} (h : BagN w p v) : w.cell? ⟨p, 14, none⟩ = some (.slice none 0 0) := by rw [cell_of_row w p 14 _ _ _ h]; rfl
theorem BagN.c15 {w : World} {p : Nat} {v : Value} (h : BagN w p v) : w.cell? ⟨p, 15, none⟩ = some (.slice none 0 0) := by rw [cell_of_row w p 15 _ _ _ h]; rfl
theorem BagN.c16 {w : World} {p : Nat} {v : Value} (h : BagN w p v) : w.cell? ⟨p, 16, none⟩ = some (.slice none 0 0) := by rw [cell_of_row w p 16 _ _ _ h]; rfl
theorem BagN.c17 {w : World} {p : Nat} {v : Value} (h : BagN w p v) : w.cell? ⟨p, 17, none⟩ = some (.slice none 0 0) := by rw [cell_of_row w p 17 _ _ _ h]; rfl

set_option maxHeartbeats 4000000 in
set_option maxRecDepth 100000 in
theorem bag_apartN (w : World) (p : Nat) (v : Value) (L : List Nat) (bg : BagN w p v) (hp : p ∉ L) (hf : ∀ w', Fr [] w w' → Calls Tryz.prog 40 #[v] w' fun e w'' => e = .returned (.bool true) ∧ Fr L w' w'') :
    Calls Tryz.prog 17 #[.pointer (some ⟨p, 0, none⟩)] w fun e w' => e = .returned (.bool true) ∧ Fr L w w' := by
  have hF : Hid (∀ w', Fr [] w w' → Calls Tryz.prog 40 #[v] w' fun e w'' => e = .returned (.bool true) ∧ Fr L w' w'') := hf
  clear hf
  have gg := Fr.refl [] w
  have d0 := bg.c0
  go_enter Tryz.func17, Tryz.ntmps17
  go_wp2_with (first | (go_at_call 35; refine (flatWords_nil _).mono ?_; rintro e w5 ⟨rfl, f5⟩; replace gg := gg.trans f5; have d1 := (bg.kept gg (by simp)).c1) | (go_at_call 36; refine (flatInts_nil _).mono ?_; rintro e w5 ⟨rfl, f5⟩; replace gg := gg.trans f5; have d2 := (bg.kept gg (by simp)).c2) | (go_at_call 37; refine (flatLongs_nil _).mono ?_; rintro e w5 ⟨rfl, f5⟩; replace gg := gg.trans f5; have d3 := (bg.kept gg (by simp)).c3) | (go_at_call 38; refine (flatTexts_nil _).mono ?_; rintro e w5 ⟨rfl, f5⟩; replace gg := gg.trans f5; have d4 := (bg.kept gg (by simp)).c4) | (go_at_call 39; refine (flatBytes_nil _).mono ?_; rintro e w5 ⟨rfl, f5⟩; replace gg := gg.trans f5; have d5 := (bg.kept gg (by simp)).c5) | (go_at_call 40; refine (hF.out _ gg).mono ?_; rintro e w5 ⟨rfl, f5⟩; have gl := (gg.mono (M := L) (fun _ _ h => nomatch h)).trans f5; clear gg; have gg := gl; have d6 := (bg.kept gg hp).c6) | (go_at_call 41; refine (flatFates_nil _).mono ?_; rintro e w5 ⟨rfl, f5⟩; replace gg := gg.then f5 (fun _ _ h => nomatch h); have d7 := (bg.kept gg hp).c7) | (go_at_call 42; refine (flatSpans_nil _).mono ?_; rintro e w5 ⟨rfl, f5⟩; replace gg := gg.then f5 (fun _ _ h => nomatch h); have d8 := (bg.kept gg hp).c8) | (go_at_call 43; refine (flatDirties_nil _).mono ?_; rintro e w5 ⟨rfl, f5⟩; replace gg := gg.then f5 (fun _ _ h => nomatch h); have d9 := (bg.kept gg hp).c9) | (go_at_call 44; refine (flatRecords_nil _).mono ?_; rintro e w5 ⟨rfl, f5⟩; replace gg := gg.then f5 (fun _ _ h => nomatch h); have d10 := (bg.kept gg hp).c10) | (go_at_call 45; refine (flatCells_nil _).mono ?_; rintro e w5 ⟨rfl, f5⟩; replace gg := gg.then f5 (fun _ _ h => nomatch h); have d11 := (bg.kept gg hp).c11) | (go_at_call 46; refine (flatHelds_nil _).mono ?_; rintro e w5 ⟨rfl, f5⟩; replace gg := gg.then f5 (fun _ _ h => nomatch h); have d12 := (bg.kept gg hp).c12) | (go_at_call 47; refine (flatTokens_nil _).mono ?_; rintro e w5 ⟨rfl, f5⟩; replace gg := gg.then f5 (fun _ _ h => nomatch h); have d13 := (bg.kept gg hp).c13) | (go_at_call 48; refine (flatExprs_nil _).mono ?_; rintro e w5 ⟨rfl, f5⟩; replace gg := gg.then f5 (fun _ _ h => nomatch h); have d14 := (bg.kept gg hp).c14) | (go_at_call 49; refine (flatItems_nil _).mono ?_; rintro e w5 ⟨rfl, f5⟩; replace gg := gg.then f5 (fun _ _ h => nomatch h); have d15 := (bg.kept gg hp).c15) | (go_at_call 50; refine (flatShowns_nil _).mono ?_; rintro e w5 ⟨rfl, f5⟩; replace gg := gg.then f5 (fun _ _ h => nomatch h); have d16 := (bg.kept gg hp).c16) | (go_at_call 51; refine (flatParts_nil _).mono ?_; rintro e w5 ⟨rfl, f5⟩; replace gg := gg.then f5 (fun _ _ h => nomatch h); have d17 := (bg.kept gg hp).c17) | (go_at_call 52; refine (flatCommands_nil _).mono ?_; rintro e w5 ⟨rfl, f5⟩; replace gg := gg.then f5 (fun _ _ h => nomatch h)))
  go_ret
  exact ⟨rfl, gg⟩

theorem infoTN : (Tryz.prog.info? 22).map (fun i => (i.zero, i.size, i.bytes)) = some (some (.slice none 0 0), 1, 24) := by kernel_rfl
theorem infoTN' : ∃ i, Tryz.prog.info? 22 = some i ∧ i.zero = some (.slice none 0 0) ∧ i.size = 1 ∧ i.bytes = 24 := by
  have h := infoTN
  cases hi : Tryz.prog.info? 22 with
  | none => rw [hi] at h; cases h
  | some i =>
    rw [hi] at h
    simp at h
    exact ⟨i, rfl, h.1, h.2.1, h.2.2⟩

/-- A bag that is new since w0, and whose lists of bytes are these. -/
structure BagOwnN (w0 w : World) (p : Nat) (v : Value) (n : Nat) (xs : List Value) : Prop where
  bag : BagN w p v
  own : w.ownsRow w0.heap.size 22 1 v n xs
  fr : Fr [] w0 w
  new : w0.heap.size ≤ p
  ne : v.ownBlock ≠ some p

theorem BagOwnN.lt {w0 w : World} {p : Nat} {v : Value} {n : Nat} {xs : List Value} (h : BagOwnN w0 w p v n xs) : p < w.heap.size := (Array.getElem?_eq_some_iff.1 h.bag).1
theorem BagN.set5 {w : World} {p : Nat} {v : Value} (h : BagN w p v) (u : Value) : BagN (w.setCell ⟨p, 5, none⟩ u) p u := by
  have := heap_setCell_same w p 5 _ _ u h
  unfold BagN
  rw [this]
  simp
section
variable {ops : Array Oper} {rest : List Oper} {o : Oper} {a : Act} {w : World} {Q : Exit → Act → World → Prop}
theorem wp_appTN (hgd : o.guard = none) (s x : Operand) (ho : o.op = .call { callee := .builtin .append, args := #[s, x], argTypes := #[27, 27] }) (B : Nat) (v : Value) (n : Nat) (xs : List Value) (hs : a.eval s = v) (hown : w.ownsRow B 22 1 v n xs) (hB : B ≤ w.heap.size)
    (b : Nat) (sv : Value) (hsv : sv.oneCell' = true) (hx : a.eval x = .slice (some ⟨b, 0, none⟩) 1 1) (hc : w.cell? ⟨b, 0, none⟩ = some sv) (hn : n ≤ 1000000)
    (h : ∀ g cap w', w'.ownsRow B 22 1 (.slice (some ⟨g, 0, none⟩) (n + 1) cap) (n + 1) (xs ++ [sv]) → Fr v.ownBlock.toList w w' → (v.ownBlock = some g ∨ g = w.heap.size) → g < w'.heap.size → wpList Tryz.prog ops Q rest (a.put o.dst (.slice (some ⟨g, 0, none⟩) (n + 1) cap)) w') : wpList Tryz.prog ops Q (o :: rest) a w :=
  wpList_plain hgd fun K hK => by
    obtain ⟨i, hi, hz, hsz, hb⟩ := infoTN'
    obtain ⟨g, cap, w', hrun, h2, h3, h5, h6⟩ := run_append_lies (P := Tryz.prog) w 27 o.type B 22 i (.slice none 0 0) 1 24 Tryz.underlying27 hi hz hsz hb rfl (by omega) v n xs hown ⟨b, 0, none⟩ 1 1 [sv] rfl
      (by
        intro j u hu
        cases j with
        | zero => simp at hu; subst hu; rw [Addr.add_mid]; exact hc
        | succ j => simp at hu) (by intro u hu; simp at hu; subst hu; exact hsv) (by omega) (by unfold maxLen; omega) (by omega) hB _ rfl
    unfold Oper.wp execOp
    simp [ho, resolve, invoke, builtin, hs, hx, hrun, Result.andThen]
    exact hK _ _ (h _ _ _ h2 (fr_grownN h3) h5 h6)
end

set_option maxHeartbeats 1000000 in
set_option maxRecDepth 100000 in
theorem put_anyN (w0 w : World) (p : Nat) (v : Value) (ad : Option Addr) (m c : Nat) (n : Nat) (xs : List Value) (h : BagOwnN w0 w p v n xs) (hn : n ≤ 1000000) :
    Calls Tryz.prog 16 #[.pointer (some ⟨p, 0, none⟩), .slice ad m c] w fun e w' => e = .returned (.tuple #[]) ∧ ∃ v', BagOwnN w0 w' p v' (n + 1) (xs ++ [.slice ad m c]) := by
  have c4 := h.bag.c5
  have hpl := h.lt
  have fA : Fr [] w (w.alloc (.cells #[.slice ad m c] 22)) := (Fr.refl [] w).alloc _
  have bgA := h.bag.kept fA (by simp)
  have owA := own_keptN h.own fA (by simp)
  have cA : (w.alloc (.cells #[.slice ad m c] 22)).cell? ⟨w.heap.size, 0, none⟩ = some (.slice ad m c) := by rw [cell_of_row _ _ _ _ _ _ (heap_alloc_new w _)]; rfl
  have hfr := h.fr.size
  have hne := h.ne
  go_enter Tryz.func16, Tryz.ntmps16
  go_wp2_with (refine wp_appTN rfl _ _ rfl w0.heap.size v n xs rfl owA (by simp; omega) w.heap.size _ rfl rfl cA hn ?_; intro g cap w5 o5 f5 at5 lt5; have b5 := bgA.kept f5 (by intro e; simp at e; exact hne e); have c5 := b5.c5; have z5 := frozen_of_row w5 p 5 _ _ b5)
  go_end0
  have hnew := h.own
  have hgb : w0.heap.size ≤ g ∧ g ≠ p := by
    rcases at5 with e | e
    · refine ⟨?_, fun e2 => hne (e2 ▸ e)⟩
      rcases h.own.2 with ⟨e1, _⟩ | ⟨g1, _, _, e1, hb, _⟩
      · rw [e1] at e; cases e
      · rw [e1] at e; cases e; exact hb
    · simp at e; omega
  have f6 : Fr [] w0 w5 := (h.fr.trans fA).then f5 (by
    intro i hi e
    simp at e
    rcases h.own.2 with ⟨e1, _⟩ | ⟨g1, _, _, e1, hb, _⟩
    · rw [e1] at e; cases e
    · rw [e1] at e; cases e; have hi' : g1 < w0.heap.size := hi; omega)
  refine ⟨rfl, _, ⟨b5.set5 _, ?_, f6.setCell _ _ (fun e => by have := h.new; have e' : p < w0.heap.size := e; omega), h.new, fun e => hgb.2 (by simpa [Value.ownBlock] using e)⟩⟩
  refine own_keptN o5 ((Fr.refl [p] w5).setCell _ _ (by simp)) ?_
  intro g' e
  have : g = g' := by simpa [Value.ownBlock] using e
  subst this
  simpa using hgb.2

theorem ListsN.moved {w w' : World} {G : List Nat} {K t : Nat} {ad : Nat → Option Addr} {n cap : Nat → Nat} (L : ListsN w G K t ad n cap) (f : Fr [] w w') (hG : ∀ g ∈ G, g < w.heap.size) (v : Value) (hK : 1 ≤ K) (hv : w'.ownsRow w.heap.size 22 1 v K ((List.range K).map fun j => .slice (ad j) (n j) (cap j))) :
    ∃ t' c', v = .slice (some ⟨t', 0, none⟩) K c' ∧ ListsN w' G K t' ad n cap := by
  obtain ⟨t', c', e, hb, _⟩ := hv.form (by omega)
  refine ⟨t', c', e, L.few, L.long, ?_, ?_, L.apart, L.within, fun h => by have := hG t' h; omega⟩
  · intro j hj
    have := hv.cells (g := t') (by rw [e]; rfl) j (.slice (ad j) (n j) (cap j)) (by simp [hj])
    rw [Addr.add_mid] at this
    simpa using this
  · intro j hj
    obtain ⟨xs, h1, h2⟩ := L.own j hj
    exact ⟨xs, h1, ownN_kept h2 f (by simp)⟩

set_option maxHeartbeats 2000000 in
set_option maxRecDepth 100000 in
theorem apartNodes_any (w : World) (G : List Nat) (K t c : Nat) (ad : Nat → Option Addr) (n cap : Nat → Nat) (L : ListsN w G K t ad n cap) (hK : 1 ≤ K) (hG : ∀ g ∈ G, g < w.heap.size) :
    Calls Tryz.prog 6 #[.slice (some ⟨t, 0, none⟩) K c] w fun e w' => e = .returned (.bool true) ∧ Fr G w w' := by
  have hK1 : (K : Int) ≤ 20 := by have := L.few; omega
  have hK0 : (0 : Int) ≤ (K : Int) := by omega
  go_enter Tryz.func6, Tryz.ntmps6
  go_wp2_with go_in
  go_loopw [4] (fun kv wx => ∃ k v, k ≤ K ∧ kv = .int .i64 (k : Nat) ∧ BagOwnN w wx w.heap.size v k ((List.range k).map fun j => .slice (ad j) (n j) (cap j))) (fun kv _ => K - (intOf kv).toNat)
  case atStart => exact ⟨0, .slice none 0 0, Nat.zero_le _, rfl, heap_alloc_new w _, World.ownsRow_nil _ _ _ 1, (Fr.refl _ _).alloc _, Nat.le_refl _, by simp [Value.ownBlock]⟩
  case round =>
    obtain ⟨k, v, hk, rfl, B⟩ := hrel
    by_cases hlt : k < K
    · have hlt' : (k : Int) < (K : Int) := by omega
      have hk0 : (0 : Int) ≤ (k : Int) := by omega
      have hct : wr.cell? ⟨t, k, none⟩ = some (.slice (ad k) (n k) (cap k)) := by
        have hc := L.table k hlt
        exact (World.cell?_of_block (B.fr.block t (block_lt_of_cell hc) (by simp))).trans hc
      go_wp2_with (go_at_call 16; refine (put_anyN w _ _ v _ _ _ k _ B (by omega)).mono ?_; rintro e w5 ⟨rfl, v5, B5⟩)
      refine ⟨⟨k + 1, v5, by omega, by go_num, ?_⟩, by simp [intOf]; omega⟩
      rw [List.range_succ, List.map_append]
      exact B5
    · obtain rfl : K = k := by omega
      obtain ⟨t', c', rfl, _⟩ := L.moved B.fr hG v hK B.own
      go_wp2_with (go_at_call 17; refine (bag_apartN _ _ _ G B.bag (fun h => by have := hG _ h; omega) (fun w' f => ?_)).mono ?_; (obtain ⟨t2, c2, e2, L2⟩ := L.moved (B.fr.trans f) hG _ hK (own_keptN B.own f (by simp)); cases e2; exact flatNodes_any w' G K _ _ ad n cap L2); rintro e w5 ⟨rfl, f5⟩)
      go_ret
      exact ⟨rfl, (B.fr.mono (M := G) (fun _ _ h => nomatch h)).trans f5⟩

end Go.Proofs.YtdfgmdddnehocabGreatDoor.Ab
