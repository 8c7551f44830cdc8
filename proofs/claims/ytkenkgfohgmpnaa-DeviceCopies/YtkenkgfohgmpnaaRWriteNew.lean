/-
  The document's device: Write of a block that was never written.
-/
import Derived.Test.YtkenkgfohgmpnaaRWrite
namespace Go.Proofs.Ytkenkgfohgmpnaa
open Go.RowKit Go.Maps

theorem info76 : (Try.prog.info? 76).map (fun i => (i.zero, i.size, i.bytes)) = some (some (.agg #[.int .i64 0, .slice none 0 0, .slice none 0 0, .bool false]), 4, 64) := by kernel_rfl
theorem info76' : ∃ i, Try.prog.info? 76 = some i ∧ i.zero = some (.agg #[.int .i64 0, .slice none 0 0, .slice none 0 0, .bool false]) ∧ i.size = 4 ∧ i.bytes = 64 := by
  have h := info76
  cases hi : Try.prog.info? 76 with
  | none => rw [hi] at h; cases h
  | some i =>
    rw [hi] at h
    simp at h
    exact ⟨i, rfl, h.1, h.2.1, h.2.2⟩

theorem step_make512 {ops : Array Oper} {o : Oper} {a : Act} {w : World} {K : Act → World → Prop} {Q : Exit → Act → World → Prop} {Ex : Prop} (hgd : o.guard = none)
    (ho : o.op = .makeSlice 38 (.const (.int .i64 512)) (.const (.int .i64 512)))
    (h : ∀ w', Blk w' w.heap.size 5 zeros → Fr [] w w' → w.heap.size < w'.heap.size → K (a.put o.dst (.slice (some ⟨w.heap.size, 0, none⟩) 512 512)) w') :
    if Region.wanted o (yielded ops a.tmps) = true then Oper.wp Try.prog o a w K Q else Ex := by
  have hw : Region.wanted o (yielded ops a.tmps) = true := by simp [Region.wanted, hgd]
  rw [if_pos hw]
  unfold Oper.wp execOp
  simp [ho, Act.eval, mk512 w, Result.andThen]
  exact h _ (heap_alloc_new w _) ((Fr.refl _ _).alloc _) (by simp)

theorem step_eapp {ops : Array Oper} {o : Oper} {a : Act} {w : World} {K : Act → World → Prop} {Q : Exit → Act → World → Prop} {Ex : Prop} (hgd : o.guard = none) (s x : Operand)
    (ho : o.op = .call { callee := .builtin .append, args := #[s, x], argTypes := #[63, 63] }) (v : Value) (n : Nat) (xs : List Value) (hs : a.eval s = v) (hown : w.ownsRow 0 76 4 v n xs)
    (b : Nat) (u0 u1 u2 u3 : Value) (hx : a.eval x = .slice (some ⟨b, 0, none⟩) 1 1) (hb : w.heap[b]? = some (.cells #[u0, u1, u2, u3] 76)) (h1 : ∀ u ∈ [u0, u1, u2, u3], u.oneCell' = true) (hn : n ≤ 70000)
    (h : ∀ g cap w', w'.ownsRow 0 76 4 (.slice (some ⟨g, 0, none⟩) (n + 1) cap) (n + 1) (xs ++ [u0, u1, u2, u3]) → Fr v.ownBlock.toList w w' → (v.ownBlock = some g ∨ g = w.heap.size) → g < w'.heap.size → K (a.put o.dst (.slice (some ⟨g, 0, none⟩) (n + 1) cap)) w') :
    if Region.wanted o (yielded ops a.tmps) = true then Oper.wp Try.prog o a w K Q else Ex := by
  have hw : Region.wanted o (yielded ops a.tmps) = true := by simp [Region.wanted, hgd]
  rw [if_pos hw]
  obtain ⟨i, hi, hz, hsz, hby⟩ := info76'
  refine wp_append_lies (P := Try.prog) w s x 63 ho 0 76 i _ 4 64 Try.underlying63 hi hz hsz hby rfl (by omega) v n xs hs hown ⟨b, 0, none⟩ 1 1 [u0, u1, u2, u3] hx rfl ?_ h1 (by omega) (by unfold maxLen; omega) (by omega) (by omega) w.heap.size rfl ?_
  · intro j u hu
    rw [Addr.add_mid, cell_of_row w b _ _ _ _ hb]
    simpa using hu
  · intro g cap w' r1 r2 r3 r4
    exact h g cap w' r1 ((Fr.refl _ _).grown r2 (fun j e _ => by simp [e])) r3 r4

/-- The document's device, while a block is new. -/
structure RMid (w : World) (r : Nat) (lv : Value) (N a : Int) (off : Bool) (n : Nat) (xs : List Value) : Prop where
  cells : w.heap[r]? = some (.cells #[.int .i64 N, lv, .int .i64 a, .bool off] 65)
  row : w.ownsRow 0 76 4 lv n xs
  ne : lv.ownBlock ≠ some r

theorem RMid.kept {w w' : World} {r : Nat} {lv : Value} {N a : Int} {off : Bool} {n : Nat} {xs : List Value} (h : RMid w r lv N a off n xs) {L : List Nat} (k : Fr L w w') (h1 : r ∉ L) (h2 : ∀ g, lv.ownBlock = some g → g ∉ L) : RMid w' r lv N a off n xs :=
  ⟨k.same h1 h.cells, ownsRow_kept h.row k h2, h.ne⟩
theorem RMid.cell1 {w : World} {r : Nat} {lv : Value} {N a : Int} {off : Bool} {n : Nat} {xs : List Value} (h : RMid w r lv N a off n xs) : w.cell? ⟨r, 1, none⟩ = some lv := by rw [cell_of_row w r 1 _ _ _ h.cells]; rfl

def freshCells (k : Int) (sg : Nat) : List Value := [.int .i64 k, .slice none 0 0, .slice (some ⟨sg, 0, none⟩) 512 512, .bool false]

theorem fresh_set (E : List Ent) (k : Int) (sg g2 c2 : Nat) (l : List UInt8) : (ecells E ++ freshCells k sg).set (E.length * 4 + 1) (.slice (some ⟨g2, 0, none⟩) 512 c2) = ecells (E ++ [⟨k, g2, c2, l, sg, 512, zeros, false⟩]) := by
  have e : E.length * 4 + 1 - (ecells E).length = 1 := by rw [ecells_length]; omega
  rw [List.set_append_right _ _ (by rw [ecells_length]; omega), e, ecells_append]
  rfl

theorem RMid.put {w : World} {r g cap n : Nat} {N a : Int} {off : Bool} {E : List Ent} {k : Int} {sg : Nat} (h : RMid w r (.slice (some ⟨g, 0, none⟩) n cap) N a off n (ecells E ++ freshCells k sg)) (hn : n = E.length + 1)
    (ents : ∀ e ∈ E, EntOk w e) (apart : ∀ e ∈ E, e.lg ≠ r ∧ e.sg ≠ r ∧ g ≠ e.lg ∧ g ≠ e.sg) (nd : (E.map Ent.n).Nodup) (hk : ∀ e ∈ E, e.n ≠ k) (n1 : 1 ≤ N) (n2 : N ≤ 65536) (a1 : 0 ≤ a) (a2 : a < 9223372036854775808)
    (g2 c2 : Nat) (l : List UInt8) (ok : EntOk w ⟨k, g2, c2, l, sg, 512, zeros, false⟩) (ap : g2 ≠ r ∧ sg ≠ r ∧ g ≠ g2 ∧ g ≠ sg) :
    RDev (w.setCell ⟨g, E.length * 4 + 1, none⟩ (.slice (some ⟨g2, 0, none⟩) 512 c2)) r (.slice (some ⟨g, 0, none⟩) n cap) N a off (E ++ [⟨k, g2, c2, l, sg, 512, zeros, false⟩]) := by
  have fr : Fr [g] w (w.setCell ⟨g, E.length * 4 + 1, none⟩ (.slice (some ⟨g2, 0, none⟩) 512 c2)) := (Fr.refl _ _).setCell _ _ (by simp)
  have hgr : g ≠ r := by rintro rfl; exact h.ne rfl
  have hst := (h.row.stored (E.length * 4 + 1) (.slice (some ⟨g2, 0, none⟩) 512 c2)).1
  rw [fresh_set E k sg g2 c2 l] at hst
  refine ⟨fr.same (by simpa using hgr.symm) h.cells, by simpa [hn] using hst, fun x hx => ?_, fun x hx => ?_, h.ne, ?_, n1, n2, a1, a2⟩
  · rcases List.mem_append.1 hx with hx | hx
    · have := apart x hx
      exact (ents x hx).kept fr (by simpa using Ne.symm this.2.2.1) (by simpa using Ne.symm this.2.2.2)
    · simp at hx
      subst hx
      exact ok.kept fr (by simpa using Ne.symm ap.2.2.1) (by simpa using Ne.symm ap.2.2.2)
  · rcases List.mem_append.1 hx with hx | hx
    · have := apart x hx
      exact ⟨this.1, this.2.1, by simpa [Value.ownBlock] using this.2.2.1, by simpa [Value.ownBlock] using this.2.2.2⟩
    · simp at hx
      subst hx
      exact ⟨ap.1, ap.2.1, by simpa [Value.ownBlock] using ap.2.2.1, by simpa [Value.ownBlock] using ap.2.2.2⟩
  · rw [List.map_append, List.nodup_append]
    refine ⟨nd, by simp, ?_⟩
    intro x hx y hy
    simp at hy
    obtain ⟨e, he, rfl⟩ := List.mem_map.1 hx
    rw [hy]
    exact hk e he

structure Newly (w wD : World) (r : Nat) (lv : Value) (N a : Int) (E : List Ent) (k : Int) (g cap : Nat) : Prop where
  mid : RMid wD r (.slice (some ⟨g, 0, none⟩) (E.length + 1) cap) N a false (E.length + 1) (ecells E ++ freshCells k w.heap.size)
  fr : Fr (r :: lv.ownBlock.toList) w wD
  blk : Blk wD w.heap.size 5 zeros
  ents : ∀ e ∈ E, EntOk wD e
  apart : ∀ e ∈ E, e.lg ≠ r ∧ e.sg ≠ r ∧ g ≠ e.lg ∧ g ≠ e.sg
  gr : g ≠ r
  gw : g ≠ w.heap.size
  own : lv.ownBlock = some g ∨ w.heap.size ≤ g
  gl : g < wD.heap.size

theorem newly {w wA wC : World} {r : Nat} {lv : Value} {N a : Int} {E : List Ent} {k : Int} {g cap : Nat} (h : RDev w r lv N a false E) (bA : Blk wA w.heap.size 5 zeros) (fA : Fr [] w wA) (sA : w.heap.size < wA.heap.size)
    (rC : wC.ownsRow 0 76 4 (.slice (some ⟨g, 0, none⟩) (E.length + 1) cap) (E.length + 1) (ecells E ++ freshCells k w.heap.size)) (fC : Fr lv.ownBlock.toList (wA.alloc (.cells #[.int .i64 k, .slice none 0 0, .slice (some ⟨w.heap.size, 0, none⟩) 512 512, .bool false] 76)) wC)
    (gC : lv.ownBlock = some g ∨ g = (wA.alloc (.cells #[.int .i64 k, .slice none 0 0, .slice (some ⟨w.heap.size, 0, none⟩) 512 512, .bool false] 76)).heap.size) (hlt : g < wC.heap.size) :
    Newly w (wC.setCell ⟨r, 1, none⟩ (.slice (some ⟨g, 0, none⟩) (E.length + 1) cap)) r lv N a E k g cap := by
  have gC' : lv.ownBlock = some g ∨ g = wA.heap.size + 1 := by
    rcases gC with gC | gC
    · exact Or.inl gC
    · exact Or.inr (by simpa using gC)
  have hr := h.lt
  have hrne : r ∉ lv.ownBlock.toList := by
    have := h.ne
    simp
    exact this
  have hrg : g ≠ r := by
    rintro rfl
    rcases gC' with gC | gC
    · exact h.ne gC
    · omega
  have hgb : ∀ x, x < w.heap.size → lv.ownBlock ≠ some x → g ≠ x := by
    intro x hx hne
    rintro rfl
    rcases gC' with gC | gC
    · exact hne gC
    · omega
  have fBC : Fr lv.ownBlock.toList w wC := ((fA.alloc _).mono (M := lv.ownBlock.toList) (by simp)).then fC (fun i _ hm => hm)
  have fD : Fr (r :: lv.ownBlock.toList) w (wC.setCell ⟨r, 1, none⟩ (.slice (some ⟨g, 0, none⟩) (E.length + 1) cap)) := (fBC.mono (M := r :: lv.ownBlock.toList) (fun i _ hm => List.mem_cons_of_mem _ hm)).setCell _ _ (by simp)
  refine ⟨⟨heap_setCell_same wC r 1 _ _ _ (fBC.same hrne h.cells), ownsRow_kept rC ((Fr.refl [r] wC).setCell _ _ (by simp)) ?_, ?_⟩, fD, ?_, ?_, ?_, hrg, ?_, ?_, by simpa [World.setCell] using hlt⟩
  · intro x hx
    have : g = x := by simpa [Value.ownBlock] using hx
    subst this
    simpa using hrg
  · intro hx
    exact hrg (by simpa [Value.ownBlock] using hx)
  · have b1 := (bA.kept ((Fr.refl [] wA).alloc (.cells #[.int .i64 k, .slice none 0 0, .slice (some ⟨w.heap.size, 0, none⟩) 512 512, .bool false] 76)) (by simp))
    have b2 := b1.kept fC (by
      intro hm
      have := (h.row.lt w.heap.size (by simpa using hm)).2
      omega)
    exact b2.kept ((Fr.refl [r] wC).setCell _ _ (by simp)) (by simp; omega)
  · intro e he
    have := h.apart e he
    exact (h.ents e he).kept fD (by simp; exact ⟨this.1, this.2.2.1⟩) (by simp; exact ⟨this.2.1, this.2.2.2⟩)
  · intro e he
    have := h.apart e he
    have hl := (h.ents e he).lt
    exact ⟨this.1, this.2.1, hgb _ hl.1 this.2.2.1, hgb _ hl.2 this.2.2.2⟩
  · rintro rfl
    rcases gC' with gC | gC
    · have := (h.row.lt w.heap.size gC).2
      omega
    · omega
  · rcases gC' with gC | gC
    · exact Or.inl gC
    · exact Or.inr (by omega)

theorem RMid.fresh {w : World} {r g cap : Nat} {N a : Int} {off : Bool} {E : List Ent} {k : Int} {sg : Nat} (h : RMid w r (.slice (some ⟨g, 0, none⟩) (E.length + 1) cap) N a off (E.length + 1) (ecells E ++ freshCells k sg)) :
    w.cell? ⟨g, E.length * 4 + 1, none⟩ = some (.slice none 0 0) ∧ w.frozen? ⟨g, E.length * 4 + 1, none⟩ = false := by
  refine ⟨?_, h.row.frozenAt _⟩
  have e : E.length * 4 + 1 - (ecells E).length = 1 := by rw [ecells_length]; omega
  rw [h.row.cellAt _ (by omega), List.getElem?_append_right (by rw [ecells_length]; omega), e]
  rfl

theorem Newly.put {w wD w2 : World} {r : Nat} {lv : Value} {N a : Int} {E : List Ent} {k : Int} {g cap : Nat} (h : RDev w r lv N a false E) (nw : Newly w wD r lv N a E k g cap) (f2 : Fr [] wD w2) (h0 : 0 ≤ k) (h1 : k < N) (hno : ∀ en ∈ E, en.n ≠ k)
    (g2 c2 : Nat) (l : List UInt8) (hl : l.length = 512) (b2 : BytesAt w2 (some ⟨g2, 0, none⟩) l) (hg2 : wD.heap.size ≤ g2) :
    RDev (w2.setCell ⟨g, E.length * 4 + 1, none⟩ (.slice (some ⟨g2, 0, none⟩) 512 c2)) r (.slice (some ⟨g, 0, none⟩) (E.length + 1) cap) N a false (E ++ [⟨k, g2, c2, l, w.heap.size, 512, zeros, false⟩]) := by
  have hN := h.n2
  have hr : r < wD.heap.size := by
    have := h.lt
    have := nw.fr.size
    omega
  have hg := nw.gl
  have bz := nw.blk.kept f2 (by simp)
  exact (nw.mid.kept f2 (by simp) (by simp)).put rfl (fun e he => (nw.ents e he).kept f2 (by simp) (by simp)) nw.apart h.nd hno h.n1 h.n2 h.a1 h.a2 g2 c2 l
    ⟨hl, zeros_length, b2, fun j v hv => ⟨_, 0, rfl, bz.src j v hv⟩, h0, by show k < 65536; omega⟩ ⟨by omega, by have := h.lt; omega, by omega, nw.gw⟩

theorem fresh_open {w : World} {r g cap : Nat} {N a : Int} {E : List Ent} {k : Int} {g2 c2 sg : Nat} {l : List UInt8} (h : RDev w r (.slice (some ⟨g, 0, none⟩) (E.length + 1) cap) N a false (E ++ [⟨k, g2, c2, l, sg, 512, zeros, false⟩])) :
    w.cell? ⟨r, 1, none⟩ = some (.slice (some ⟨g, 0, none⟩) (E.length + 1) cap) ∧ w.frozen? ⟨g, E.length * 4 + 3, none⟩ = false ∧ w.cell? ⟨g, E.length * 4 + 3, none⟩ = some (.bool false) ∧
    RDev (w.setCell ⟨g, E.length * 4 + 3, none⟩ (.bool true)) r (.slice (some ⟨g, 0, none⟩) (E.length + 1) cap) N a false (E ++ [⟨k, g2, c2, l, sg, 512, zeros, true⟩]) := by
  have hat : (E ++ [(⟨k, g2, c2, l, sg, 512, zeros, false⟩ : Ent)])[E.length]? = some ⟨k, g2, c2, l, sg, 512, zeros, false⟩ := by simp
  have hmem := List.mem_of_getElem? hat
  have ok := h.ents _ hmem
  have ap := h.apart' hmem
  have d := h.put (by simp) E.length _ ⟨k, g2, c2, l, sg, 512, zeros, true⟩ hat rfl ⟨ok.l5, ok.s5, ok.lb, ok.sb, ok.n0, ok.n1⟩ ap (E.length * 4 + 3) (.bool true) (ecells_putO _ _ _ _ hat)
  refine ⟨h.cell1, h.frz (by simp) _, (h.at (by simp) E.length _ hat).2.2.2, ?_⟩
  have e : (E ++ [(⟨k, g2, c2, l, sg, 512, zeros, false⟩ : Ent)]).set E.length ⟨k, g2, c2, l, sg, 512, zeros, true⟩ = E ++ [⟨k, g2, c2, l, sg, 512, zeros, true⟩] := by
    rw [List.set_append_right _ _ (by omega)]
    simp
  rw [e] at d
  exact d

set_option maxHeartbeats 2000000 in
set_option maxRecDepth 100000 in
theorem rwrite_no {w : World} {r : Nat} {lv : Value} {N a : Int} {E : List Ent} (h : RDev w r lv N a false E) (k : Int) (h0 : 0 ≤ k) (h1 : k < N) (hno : ∀ en ∈ E, en.n ≠ k) (ad : Option Addr) (c : Nat) (l : List UInt8) (hl : l.length = 512) (hsrc : BytesAt w ad l)
    (hsn : ∀ b off, ad = some ⟨b, off, none⟩ → b ∉ rblocks r lv E) :
    Calls Try.prog 34 #[.pointer (some ⟨r, 0, none⟩), .int .i64 k, .slice ad 512 c] w fun e w' => e = .returned (.int .i64 (told (crash a))) ∧
      (∃ lv' g c' sg, RDev w' r lv' N (left a) (crash a) (E ++ [⟨k, g, c', l, sg, 512, zeros, true⟩]) ∧ w.heap.size ≤ g ∧ w.heap.size ≤ sg ∧ ∀ x, lv'.ownBlock = some x → lv.ownBlock = some x ∨ w.heap.size ≤ x) ∧ Fr (r :: lv.ownBlock.toList) w w' := by
  have c0 := h.cell0
  have c1 := h.cell1
  have c3 := h.cell3
  have z1 := h.frozen 1
  have hfew : (E.length : Int) ≤ 65536 := by have := h.few; omega
  have hfew' := h.few
  have hN := h.n2
  have n0 : ¬ k < 0 := by omega
  have n1 : ¬ N ≤ k := by omega
  have hrne : r ∉ lv.ownBlock.toList := by
    have := h.ne
    simp
    exact this
  go_enter Try.func34, Try.ntmps34
  go_wp2_with (first
    | (go_at_call 52; refine (rfind_no h k hno).mono ?_; rintro e w1 ⟨rfl, rfl⟩)
    | go_in)
  obtain ⟨wA, hmk, bA, fA, sA⟩ : ∃ wA, (Instr.makeSlice 38 (.int .i64 512) (.int .i64 512)).run Try.prog w.drew = .ok (.slice (some ⟨w.heap.size, 0, none⟩) 512 512) wA ∧ Blk wA w.heap.size 5 zeros ∧ Fr [] w wA ∧ w.heap.size < wA.heap.size :=
    ⟨_, mk512 w.drew, heap_alloc_new w.drew _, (Fr.refl [] w).drew.alloc _, by simp⟩
  have dA := h.kept fA (by simp)
  have cA := dA.cell1
  have zA := dA.frozen 1
  have dB := (dA.alloc (.cells #[.int .i64 k, .slice none 0 0, .slice (some ⟨w.heap.size, 0, none⟩) 512 512, .bool false] 76))
  have cB := dB.cell1
  have zB := dB.frozen 1
  refine wp_region_noPanic ?_
  refine wp_region_held_drew (S := fun _ => True) (by kernel_rfl) trivial (fun _ => ?_)
  refine wpAnyH_take (i := 0) (v := ?_) rfl (by kernel_rfl) (by kernel_rfl) (by kernel_rfl) (fun _ _ _ h => h) (Or.inl ⟨by kernel_rfl, ?_⟩) trivial ?_
  rotate_left
  · intro w' _
    go_simp
    try with_reducible rfl
  try simp only [Act.put, List.setIfInBounds_toArray]
  refine wpAnyH_take (i := 1) (v := ?_) rfl (by kernel_rfl) (by kernel_rfl) (by kernel_rfl) (fun _ _ _ h => h) (Or.inl ⟨by kernel_rfl, ?_⟩) trivial ?_
  rotate_left
  · intro w' _
    go_simp
    try with_reducible rfl
  try simp only [Act.put]
  refine wpAnyH_take (i := 2) (v := ?_) rfl (by kernel_rfl) (by kernel_rfl) (by kernel_rfl) (fun _ _ _ h => h) (Or.inl ⟨by kernel_rfl, ?_⟩) trivial ?_
  rotate_left
  · intro w' _
    go_simp
    try with_reducible rfl
  try simp only [Act.put]
  refine wpAnyH_take (i := 3) (v := ?_) rfl (by kernel_rfl) (by kernel_rfl) (by kernel_rfl) (fun _ _ _ h => h) (Or.inl ⟨by kernel_rfl, ?_⟩) trivial ?_
  rotate_left
  · intro w' _
    go_simp
    try with_reducible rfl
  try simp only [Act.put]
  refine wpAnyH_take (i := 5) (v := ?_) rfl (by kernel_rfl) (by kernel_rfl) (by kernel_rfl) (fun _ _ _ h => h) (Or.inl ⟨by kernel_rfl, ?_⟩) trivial ?_
  rotate_left
  · intro w' _
    go_simp
    try with_reducible rfl
  try simp only [Act.put]
  refine wpAnyH_ready (rs := [4, 6]) (by kernel_rfl) (by simp) ?_
  refine AllReadyH.cons rfl (fun K hK => ?_) ?_
  · go_simp
    refine hK.out _ _ trivial (fun _ => ?_)
    clear hK K
    try simp only [Act.put, List.setIfInBounds_toArray, List.set_cons_zero, List.set_cons_succ]
    refine wpAnyH_ready (rs := [6]) (by kernel_rfl) (by simp) ?_
    refine AllReadyH.cons rfl (fun K hK => ?_) AllReadyH.nil
    go_simp
    refine hK.out _ _ trivial (fun _ => ?_)
    clear hK K
    try simp only [Act.put, List.setIfInBounds_toArray, List.set_cons_zero, List.set_cons_succ]
    refine wpAnyH_take (i := 7) (v := ?_) rfl (by kernel_rfl) (by kernel_rfl) (by kernel_rfl) (fun _ _ _ h => h) (Or.inl ⟨by kernel_rfl, ?_⟩) trivial ?_
    rotate_left
    · intro w' _
      go_simp
      try with_reducible rfl
    try simp only [Act.put, List.setIfInBounds_toArray]
    refine wpAnyH_ready (rs := [8]) (by kernel_rfl) (by simp) ?_
    refine AllReadyH.cons rfl (fun K hK => ?_) AllReadyH.nil
    go_simp
    refine hK.out _ _ trivial (fun _ => ?_)
    clear hK K
    try simp only [Act.put, List.setIfInBounds_toArray, List.set_cons_zero, List.set_cons_succ]
    refine wpAnyH_ready (rs := [9]) (by kernel_rfl) (by simp) ?_
    refine AllReadyH.cons rfl (fun K hK => ?_) AllReadyH.nil
    refine step_eapp (by rfl) _ _ (by rfl) lv E.length (ecells E) (by rfl) dB.row wA.heap.size _ _ _ _ (by rfl) (heap_alloc_new wA _) (by simp [Value.oneCell']) (by omega) ?_
    intro g cap wC rC fC gC ltC
    have dC := fC.same hrne dB.cells
    have cC : wC.cell? ⟨r, 1, none⟩ = some lv := cell_of_row wC r 1 _ _ (0, 0) dC
    have zC := frozen_of_row wC r 1 _ _ dC
    refine hK.out _ _ trivial (fun _ => ?_)
    clear hK K
    try simp only [Act.put, List.setIfInBounds_toArray]
    refine wpAnyH_take (i := 10) (v := ?_) rfl (by kernel_rfl) (by kernel_rfl) (by kernel_rfl) (fun _ _ _ h => h) (Or.inl ⟨by kernel_rfl, ?_⟩) trivial ?_
    rotate_left
    · intro w' _
      go_simp
      try with_reducible rfl
    try simp only [Act.put]
    refine wpAnyH_take (i := 11) (v := ?_) rfl (by kernel_rfl) (by kernel_rfl) (by kernel_rfl) (fun _ _ _ h => h) (Or.inl ⟨by kernel_rfl, ?_⟩) trivial ?_
    rotate_left
    · intro w' _
      go_simp
      try with_reducible rfl
    try simp only [Act.put]
    refine wpAnyH_ready (rs := [12]) (by kernel_rfl) (by simp) ?_
    refine AllReadyH.cons rfl (fun K hK => ?_) AllReadyH.nil
    go_simp
    refine hK.out _ _ trivial (fun _ => ?_)
    clear hK K
    try simp only [Act.put, List.setIfInBounds_toArray, List.set_cons_zero, List.set_cons_succ]
    refine wpAnyH_done (by kernel_rfl) ?_ _
    refine NoPanic.normal ?_
    have nw := newly (k := k) h bA fA sA rC fC gC ltC
    generalize wC.setCell ⟨r, 1, none⟩ (.slice (some ⟨g, 0, none⟩) (E.length + 1) cap) = wD at nw
    clear c0 c1 c3 z1 hmk dA cA zA dB cB zB rC fC gC dC cC zC ltC
    have cD := nw.mid.cell1
    obtain ⟨qD, zD⟩ := nw.mid.fresh
    have mA := nw.mid.kept ((Fr.refl [] wD).alloc (.cells #[] 5)) (by simp) (by simp)
    have cA := mA.cell1
    obtain ⟨qA, zA⟩ := mA.fresh
    have hE0 : (0 : Int) ≤ (E.length : Int) := by omega
    have hE1 : (E.length : Int) < (E.length : Int) + 1 := by omega
    have hsD : BytesAt wD ad l := hsrc.kept nw.fr (fun b off he hm => hsn b off he (by simp only [rblocks, List.mem_cons, List.mem_append] at hm ⊢; rcases hm with hm | hm <;> simp [hm]))
    go_wp2
    go_region_held3 (fun w' => w'.cell? ⟨r, 1, none⟩ = some (.slice (some ⟨g, 0, none⟩) (E.length + 1) cap) ∧ w'.frozen? ⟨g, E.length * 4 + 1, none⟩ = false) (first | exact ⟨cD, zD⟩ | exact ⟨cA, zA⟩ | exact ⟨cB, zB⟩ | exact ⟨d5.cell1, d5.frz (by simp) _⟩)
      ((refine step_app512 (by rfl) _ _ (by rfl) wD wD.heap.size (by rfl) ((own_empty wD).kept (Fr.refl [] _).drew) ad c l (by rfl) hl (hsD.kept ((Fr.refl [] wD).alloc _).drew (by simp)) ?_; intro g2 c2 w2 b2 f2 hg2 hlt2; have d5 := nw.put h f2 h0 h1 hno g2 c2 l hl b2 hg2; have mB := nw.mid.kept f2 (by simp) (by simp); have cB := mB.cell1; have qB := mB.fresh.1; have zB := mB.fresh.2))
    have f5 : Fr [g] w2 (w2.setCell ⟨g, E.length * 4 + 1, none⟩ (.slice (some ⟨g2, 0, none⟩) 512 c2)) := (Fr.refl _ _).setCell _ _ (by simp)
    generalize w2.setCell ⟨g, E.length * 4 + 1, none⟩ (.slice (some ⟨g2, 0, none⟩) 512 c2) = w5 at d5 f5
    clear cD qD zD mA cA qA zA mB cB qB zB hsD
    obtain ⟨c5, z5, q5, d6⟩ := fresh_open d5
    have f6 := f5.setCell ⟨g, E.length * 4 + 3, none⟩ (.bool true) (by simp)
    have fin : ∀ w7, Fr [r] (w5.setCell ⟨g, E.length * 4 + 3, none⟩ (.bool true)) w7 → Fr (r :: lv.ownBlock.toList) w w7 := fun w7 f7 =>
      ((nw.fr.then f2 (by simp)).then f6 (fun i hi hm => by simp at hm; subst hm; rcases nw.own with ho | ho; · simp [ho]
                                                            · omega)).then f7 (fun i _ hm => by simp at hm; simp [hm])
    have hgge : w.heap.size ≤ g2 := by have := nw.fr.size; omega
    cases hc : crash a
    · go_wp2_with (go_at_call 53; refine (rcrashes d6).mono ?_; rw [hc]; rintro e w7 ⟨rfl, d7, f7⟩)
      go_ret
      exact ⟨by rw [hc]; rfl, ⟨_, g2, c2, w.heap.size, by rw [hc]; exact d7, hgge, Nat.le_refl _, fun x hx => by cases hx; exact nw.own⟩, fin _ f7⟩
    · go_wp2_with (go_at_call 53; refine (rcrashes d6).mono ?_; rw [hc]; rintro e w7 ⟨rfl, d7, f7⟩)
      go_ret
      exact ⟨by rw [hc]; rfl, ⟨_, g2, c2, w.heap.size, by rw [hc]; exact d7, hgge, Nat.le_refl _, fun x hx => by cases hx; exact nw.own⟩, fin _ f7⟩
  · refine AllReadyH.cons rfl (fun K hK => ?_) AllReadyH.nil
    go_simp
    refine hK.out _ _ trivial (fun _ => ?_)
    clear hK K
    try simp only [Act.put, List.setIfInBounds_toArray, List.set_cons_zero, List.set_cons_succ]
    refine wpAnyH_take (i := 7) (v := ?_) rfl (by kernel_rfl) (by kernel_rfl) (by kernel_rfl) (fun _ _ _ h => h) (Or.inl ⟨by kernel_rfl, ?_⟩) trivial ?_
    rotate_left
    · intro w' _
      go_simp
      try with_reducible rfl
    try simp only [Act.put, List.setIfInBounds_toArray]
    refine wpAnyH_ready (rs := [4, 8]) (by kernel_rfl) (by simp) ?_
    refine AllReadyH.cons rfl (fun K hK => ?_) ?_
    · go_simp
      refine hK.out _ _ trivial (fun _ => ?_)
      clear hK K
      try simp only [Act.put, List.setIfInBounds_toArray, List.set_cons_zero, List.set_cons_succ]
      refine wpAnyH_ready (rs := [8]) (by kernel_rfl) (by simp) ?_
      refine AllReadyH.cons rfl (fun K hK => ?_) AllReadyH.nil
      go_simp
      refine hK.out _ _ trivial (fun _ => ?_)
      clear hK K
      try simp only [Act.put, List.setIfInBounds_toArray, List.set_cons_zero, List.set_cons_succ]
      refine wpAnyH_ready (rs := [9]) (by kernel_rfl) (by simp) ?_
      refine AllReadyH.cons rfl (fun K hK => ?_) AllReadyH.nil
      refine step_eapp (by rfl) _ _ (by rfl) lv E.length (ecells E) (by rfl) dB.row wA.heap.size _ _ _ _ (by rfl) (heap_alloc_new wA _) (by simp [Value.oneCell']) (by omega) ?_
      intro g cap wC rC fC gC ltC
      have dC := fC.same hrne dB.cells
      have cC : wC.cell? ⟨r, 1, none⟩ = some lv := cell_of_row wC r 1 _ _ (0, 0) dC
      have zC := frozen_of_row wC r 1 _ _ dC
      refine hK.out _ _ trivial (fun _ => ?_)
      clear hK K
      try simp only [Act.put, List.setIfInBounds_toArray]
      refine wpAnyH_take (i := 10) (v := ?_) rfl (by kernel_rfl) (by kernel_rfl) (by kernel_rfl) (fun _ _ _ h => h) (Or.inl ⟨by kernel_rfl, ?_⟩) trivial ?_
      rotate_left
      · intro w' _
        go_simp
        try with_reducible rfl
      try simp only [Act.put]
      refine wpAnyH_take (i := 11) (v := ?_) rfl (by kernel_rfl) (by kernel_rfl) (by kernel_rfl) (fun _ _ _ h => h) (Or.inl ⟨by kernel_rfl, ?_⟩) trivial ?_
      rotate_left
      · intro w' _
        go_simp
        try with_reducible rfl
      try simp only [Act.put]
      refine wpAnyH_ready (rs := [12]) (by kernel_rfl) (by simp) ?_
      refine AllReadyH.cons rfl (fun K hK => ?_) AllReadyH.nil
      go_simp
      refine hK.out _ _ trivial (fun _ => ?_)
      clear hK K
      try simp only [Act.put, List.setIfInBounds_toArray, List.set_cons_zero, List.set_cons_succ]
      refine wpAnyH_done (by kernel_rfl) ?_ _
      refine NoPanic.normal ?_
      have nw := newly (k := k) h bA fA sA rC fC gC ltC
      generalize wC.setCell ⟨r, 1, none⟩ (.slice (some ⟨g, 0, none⟩) (E.length + 1) cap) = wD at nw
      clear c0 c1 c3 z1 hmk dA cA zA dB cB zB rC fC gC dC cC zC ltC
      have cD := nw.mid.cell1
      obtain ⟨qD, zD⟩ := nw.mid.fresh
      have mA := nw.mid.kept ((Fr.refl [] wD).alloc (.cells #[] 5)) (by simp) (by simp)
      have cA := mA.cell1
      obtain ⟨qA, zA⟩ := mA.fresh
      have hE0 : (0 : Int) ≤ (E.length : Int) := by omega
      have hE1 : (E.length : Int) < (E.length : Int) + 1 := by omega
      have hsD : BytesAt wD ad l := hsrc.kept nw.fr (fun b off he hm => hsn b off he (by simp only [rblocks, List.mem_cons, List.mem_append] at hm ⊢; rcases hm with hm | hm <;> simp [hm]))
      go_wp2
      go_region_held3 (fun w' => w'.cell? ⟨r, 1, none⟩ = some (.slice (some ⟨g, 0, none⟩) (E.length + 1) cap) ∧ w'.frozen? ⟨g, E.length * 4 + 1, none⟩ = false) (first | exact ⟨cD, zD⟩ | exact ⟨cA, zA⟩ | exact ⟨cB, zB⟩ | exact ⟨d5.cell1, d5.frz (by simp) _⟩)
        ((refine step_app512 (by rfl) _ _ (by rfl) wD wD.heap.size (by rfl) ((own_empty wD).kept (Fr.refl [] _).drew) ad c l (by rfl) hl (hsD.kept ((Fr.refl [] wD).alloc _).drew (by simp)) ?_; intro g2 c2 w2 b2 f2 hg2 hlt2; have d5 := nw.put h f2 h0 h1 hno g2 c2 l hl b2 hg2; have mB := nw.mid.kept f2 (by simp) (by simp); have cB := mB.cell1; have qB := mB.fresh.1; have zB := mB.fresh.2))
      have f5 : Fr [g] w2 (w2.setCell ⟨g, E.length * 4 + 1, none⟩ (.slice (some ⟨g2, 0, none⟩) 512 c2)) := (Fr.refl _ _).setCell _ _ (by simp)
      generalize w2.setCell ⟨g, E.length * 4 + 1, none⟩ (.slice (some ⟨g2, 0, none⟩) 512 c2) = w5 at d5 f5
      clear cD qD zD mA cA qA zA mB cB qB zB hsD
      obtain ⟨c5, z5, q5, d6⟩ := fresh_open d5
      have f6 := f5.setCell ⟨g, E.length * 4 + 3, none⟩ (.bool true) (by simp)
      have fin : ∀ w7, Fr [r] (w5.setCell ⟨g, E.length * 4 + 3, none⟩ (.bool true)) w7 → Fr (r :: lv.ownBlock.toList) w w7 := fun w7 f7 =>
        ((nw.fr.then f2 (by simp)).then f6 (fun i hi hm => by simp at hm; subst hm; rcases nw.own with ho | ho; · simp [ho]
                                                              · omega)).then f7 (fun i _ hm => by simp at hm; simp [hm])
      have hgge : w.heap.size ≤ g2 := by have := nw.fr.size; omega
      cases hc : crash a
      · go_wp2_with (go_at_call 53; refine (rcrashes d6).mono ?_; rw [hc]; rintro e w7 ⟨rfl, d7, f7⟩)
        go_ret
        exact ⟨by rw [hc]; rfl, ⟨_, g2, c2, w.heap.size, by rw [hc]; exact d7, hgge, Nat.le_refl _, fun x hx => by cases hx; exact nw.own⟩, fin _ f7⟩
      · go_wp2_with (go_at_call 53; refine (rcrashes d6).mono ?_; rw [hc]; rintro e w7 ⟨rfl, d7, f7⟩)
        go_ret
        exact ⟨by rw [hc]; rfl, ⟨_, g2, c2, w.heap.size, by rw [hc]; exact d7, hgge, Nat.le_refl _, fun x hx => by cases hx; exact nw.own⟩, fin _ f7⟩
    · refine AllReadyH.cons rfl (fun K hK => ?_) AllReadyH.nil
      go_simp
      refine hK.out _ _ trivial (fun _ => ?_)
      clear hK K
      try simp only [Act.put, List.setIfInBounds_toArray, List.set_cons_zero, List.set_cons_succ]
      refine wpAnyH_ready (rs := [4]) (by kernel_rfl) (by simp) ?_
      refine AllReadyH.cons rfl (fun K hK => ?_) AllReadyH.nil
      go_simp
      refine hK.out _ _ trivial (fun _ => ?_)
      clear hK K
      try simp only [Act.put, List.setIfInBounds_toArray, List.set_cons_zero, List.set_cons_succ]
      refine wpAnyH_ready (rs := [9]) (by kernel_rfl) (by simp) ?_
      refine AllReadyH.cons rfl (fun K hK => ?_) AllReadyH.nil
      refine step_eapp (by rfl) _ _ (by rfl) lv E.length (ecells E) (by rfl) dB.row wA.heap.size _ _ _ _ (by rfl) (heap_alloc_new wA _) (by simp [Value.oneCell']) (by omega) ?_
      intro g cap wC rC fC gC ltC
      have dC := fC.same hrne dB.cells
      have cC : wC.cell? ⟨r, 1, none⟩ = some lv := cell_of_row wC r 1 _ _ (0, 0) dC
      have zC := frozen_of_row wC r 1 _ _ dC
      refine hK.out _ _ trivial (fun _ => ?_)
      clear hK K
      try simp only [Act.put, List.setIfInBounds_toArray]
      refine wpAnyH_take (i := 10) (v := ?_) rfl (by kernel_rfl) (by kernel_rfl) (by kernel_rfl) (fun _ _ _ h => h) (Or.inl ⟨by kernel_rfl, ?_⟩) trivial ?_
      rotate_left
      · intro w' _
        go_simp
        try with_reducible rfl
      try simp only [Act.put]
      refine wpAnyH_take (i := 11) (v := ?_) rfl (by kernel_rfl) (by kernel_rfl) (by kernel_rfl) (fun _ _ _ h => h) (Or.inl ⟨by kernel_rfl, ?_⟩) trivial ?_
      rotate_left
      · intro w' _
        go_simp
        try with_reducible rfl
      try simp only [Act.put]
      refine wpAnyH_ready (rs := [12]) (by kernel_rfl) (by simp) ?_
      refine AllReadyH.cons rfl (fun K hK => ?_) AllReadyH.nil
      go_simp
      refine hK.out _ _ trivial (fun _ => ?_)
      clear hK K
      try simp only [Act.put, List.setIfInBounds_toArray, List.set_cons_zero, List.set_cons_succ]
      refine wpAnyH_done (by kernel_rfl) ?_ _
      refine NoPanic.normal ?_
      have nw := newly (k := k) h bA fA sA rC fC gC ltC
      generalize wC.setCell ⟨r, 1, none⟩ (.slice (some ⟨g, 0, none⟩) (E.length + 1) cap) = wD at nw
      clear c0 c1 c3 z1 hmk dA cA zA dB cB zB rC fC gC dC cC zC ltC
      have cD := nw.mid.cell1
      obtain ⟨qD, zD⟩ := nw.mid.fresh
      have mA := nw.mid.kept ((Fr.refl [] wD).alloc (.cells #[] 5)) (by simp) (by simp)
      have cA := mA.cell1
      obtain ⟨qA, zA⟩ := mA.fresh
      have hE0 : (0 : Int) ≤ (E.length : Int) := by omega
      have hE1 : (E.length : Int) < (E.length : Int) + 1 := by omega
      have hsD : BytesAt wD ad l := hsrc.kept nw.fr (fun b off he hm => hsn b off he (by simp only [rblocks, List.mem_cons, List.mem_append] at hm ⊢; rcases hm with hm | hm <;> simp [hm]))
      go_wp2
      go_region_held3 (fun w' => w'.cell? ⟨r, 1, none⟩ = some (.slice (some ⟨g, 0, none⟩) (E.length + 1) cap) ∧ w'.frozen? ⟨g, E.length * 4 + 1, none⟩ = false) (first | exact ⟨cD, zD⟩ | exact ⟨cA, zA⟩ | exact ⟨cB, zB⟩ | exact ⟨d5.cell1, d5.frz (by simp) _⟩)
        ((refine step_app512 (by rfl) _ _ (by rfl) wD wD.heap.size (by rfl) ((own_empty wD).kept (Fr.refl [] _).drew) ad c l (by rfl) hl (hsD.kept ((Fr.refl [] wD).alloc _).drew (by simp)) ?_; intro g2 c2 w2 b2 f2 hg2 hlt2; have d5 := nw.put h f2 h0 h1 hno g2 c2 l hl b2 hg2; have mB := nw.mid.kept f2 (by simp) (by simp); have cB := mB.cell1; have qB := mB.fresh.1; have zB := mB.fresh.2))
      have f5 : Fr [g] w2 (w2.setCell ⟨g, E.length * 4 + 1, none⟩ (.slice (some ⟨g2, 0, none⟩) 512 c2)) := (Fr.refl _ _).setCell _ _ (by simp)
      generalize w2.setCell ⟨g, E.length * 4 + 1, none⟩ (.slice (some ⟨g2, 0, none⟩) 512 c2) = w5 at d5 f5
      clear cD qD zD mA cA qA zA mB cB qB zB hsD
      obtain ⟨c5, z5, q5, d6⟩ := fresh_open d5
      have f6 := f5.setCell ⟨g, E.length * 4 + 3, none⟩ (.bool true) (by simp)
      have fin : ∀ w7, Fr [r] (w5.setCell ⟨g, E.length * 4 + 3, none⟩ (.bool true)) w7 → Fr (r :: lv.ownBlock.toList) w w7 := fun w7 f7 =>
        ((nw.fr.then f2 (by simp)).then f6 (fun i hi hm => by simp at hm; subst hm; rcases nw.own with ho | ho; · simp [ho]
                                                              · omega)).then f7 (fun i _ hm => by simp at hm; simp [hm])
      have hgge : w.heap.size ≤ g2 := by have := nw.fr.size; omega
      cases hc : crash a
      · go_wp2_with (go_at_call 53; refine (rcrashes d6).mono ?_; rw [hc]; rintro e w7 ⟨rfl, d7, f7⟩)
        go_ret
        exact ⟨by rw [hc]; rfl, ⟨_, g2, c2, w.heap.size, by rw [hc]; exact d7, hgge, Nat.le_refl _, fun x hx => by cases hx; exact nw.own⟩, fin _ f7⟩
      · go_wp2_with (go_at_call 53; refine (rcrashes d6).mono ?_; rw [hc]; rintro e w7 ⟨rfl, d7, f7⟩)
        go_ret
        exact ⟨by rw [hc]; rfl, ⟨_, g2, c2, w.heap.size, by rw [hc]; exact d7, hgge, Nat.le_refl _, fun x hx => by cases hx; exact nw.own⟩, fin _ f7⟩

end Go.Proofs.Ytkenkgfohgmpnaa
