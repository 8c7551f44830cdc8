/-
  PageDiffs: the spans by which two pages differ, as the document tells them; they lie apart.
-/
import Derived.Test.YtlfpoeimgoikkaaGRefDf
import Derived.Test.YtlfpoeimgoikkaaGLent
import Derived.Test.YtlfpoeimgoikkaaAbBagT
namespace Go.Proofs.Ytlfpoeimgoikkaa
open Go.RowKit Go.Maps

/-- A row of spans as the program hands it out. -/
structure DOut (w w' : World) (AD : Option Addr) (N CAP : Nat) (S : List SpE) (D : List (Nat × Nat)) (la lb : List UInt8) : Prop where
  own : w'.ownsRow w.heap.size 52 4 (.slice AD N CAP) N (spv S)
  map : S.map (fun e => (e.off, e.off + e.n)) = D
  oks : ∀ e ∈ S, Blk w' e.bo ((la.drop e.off).take e.n) ∧ Blk w' e.bn ((lb.drop e.off).take e.n)
  rise : Rise w.heap.size w'.heap.size S
  fr : Fr [] w w'
theorem DOut.len {w w' : World} {AD : Option Addr} {N CAP : Nat} {S : List SpE} {D : List (Nat × Nat)} {la lb : List UInt8} (h : DOut w w' AD N CAP S D la lb) : S.length = N := by
  have := h.own.1
  rw [spv_length] at this
  omega
def dd (la lb : List UInt8) : List (Nat × Nat) := if la.length = 512 ∧ lb.length = 512 then diffS la lb else []
theorem diff_any (w : World) (g1 k1 n1 g2 k2 n2 : Nat) (la lb : List UInt8) (h1 : SlAt w (some ⟨g1, 0, none⟩) n1 k1 la) (h2 : SlAt w (some ⟨g2, 0, none⟩) n2 k2 lb) :
    Calls Try.prog 19 #[.slice (some ⟨g1, 0, none⟩) n1 k1, .slice (some ⟨g2, 0, none⟩) n2 k2] w fun r w' => ∃ AD N CAP S, r = .returned (.slice AD N CAP) ∧ DOut w w' AD N CAP S (dd la lb) la lb := by
  have e1 := h1.len
  have e2 := h2.len
  by_cases h : la.length = 512 ∧ lb.length = 512
  · unfold dd
    rw [if_pos h]
    rw [h.1] at e1
    rw [h.2] at e2
    subst e1 e2
    refine (diff_512r w g1 0 k1 g2 0 k2 la lb ⟨h.1, h1.bytes, h1.cap⟩ ⟨h.2, h2.bytes, h2.cap⟩).mono ?_
    rintro r w' ⟨AD, N, CAP, S, rfl, a, b, c, d, e⟩
    exact ⟨AD, N, CAP, S, rfl, b, a, c, e, d⟩
  · unfold dd
    rw [if_neg h]
    refine (diff_len w _ _ n1 k1 n2 k2 (by omega)).mono ?_
    rintro r w' ⟨rfl, f⟩
    exact ⟨none, 0, 0, [], rfl, World.ownsRow_nil _ _ _ _, rfl, fun e he => (nomatch he), ⟨List.Pairwise.nil, fun b hb => nomatch hb⟩, f⟩
theorem dd_len (la lb : List UInt8) : (dd la lb).length ≤ 60 := by
  unfold dd
  split
  · unfold diffS
    have ok := dwalk_ok la lb 512
    generalize dwalk la lb 512 = x at ok ⊢
    obtain ⟨d, f, t⟩ := x
    have h1 : 9 * d.length ≤ f := ok.few
    have h3 : t ≤ 512 := ok.le
    unfold spansOf
    split
    · have h2 : f = 0 := (ok.none (by assumption)).2
      dsimp only
      omega
    · rename_i hh
      have h2 : f < t := (ok.cur hh).1
      rw [List.length_append]
      simp
      omega
  · simp

theorem rspan_at {w0 wr : World} {AD : Option Addr} {N CAP : Nat} {S : List RSp} (ow : wr.ownsRow w0.heap.size 52 4 (.slice AD N CAP) N (rsv S)) (i : Nat) (hi : i < S.length) (hN : S.length = N) :
    ∃ gl, AD = some ⟨gl, 0, none⟩ ∧ wr.cell? ⟨gl, i * 4, none⟩ = some (.int .i64 0) ∧ wr.cell? ⟨gl, i * 4 + 1, none⟩ = some (.int .i64 (S[i].off : Int)) ∧ wr.cell? ⟨gl, i * 4 + 2, none⟩ = some (.slice S[i].a1 S[i].n S[i].c1) ∧ wr.cell? ⟨gl, i * 4 + 3, none⟩ = some (.slice S[i].a2 S[i].n S[i].c2) := by
  rcases ow.2 with ⟨hv, h0⟩ | ⟨g, cap, cur, hv, _, hh, hnc, _, hcs, ht⟩
  · omega
  · cases hv
    have key : ∀ k, k < 4 → ∀ v, S[i].vals[k]? = some v → wr.cell? ⟨g, i * 4 + k, none⟩ = some v := by
      intro k hk v hv
      refine cells_vals hh (m := N * 4) ?_ _ v (by rw [rsv_at S i hi k hk]; exact hv)
      simpa using ht
    exact ⟨g, rfl, key 0 (by omega) _ rfl, key 1 (by omega) _ rfl, key 2 (by omega) _ rfl, key 3 (by omega) _ rfl⟩
theorem rdiff_any (w : World) (a1 a2 : Option Addr) (n1 c1 n2 c2 : Nat) (la lb : List UInt8) (h1 : SlAt w a1 n1 c1 la) (h2 : SlAt w a2 n2 c2 lb) :
    Calls Try.prog 22 #[.slice a1 n1 c1, .slice a2 n2 c2] w fun r w' => ∃ AD N CAP, r = .returned (.slice AD N CAP) ∧ (dd la lb).length = N ∧ SpsAt w' AD (dd la lb) la lb ∧ Fr [] w w' := by
  have e1 := h1.len
  have e2 := h2.len
  by_cases h : la.length = 512 ∧ lb.length = 512
  · unfold dd
    rw [if_pos h]
    rw [h.1] at e1
    rw [h.2] at e2
    subst e1 e2
    obtain ⟨g1, o1, rfl, -⟩ := h1.bytes.at 0 (by omega)
    obtain ⟨g2, o2, rfl, -⟩ := h2.bytes.at 0 (by omega)
    refine (rdiff_512 w g1 o1 c1 g2 o2 c2 la lb h.1 h.2 h1.cap h2.cap h1.bytes h2.bytes).mono ?_
    rintro r w' ⟨AD, N, CAP, S, rfl, inv, hm⟩
    have hlen := inv.len
    refine ⟨AD, N, CAP, rfl, by rw [← hm, List.length_map, hlen], ?_, inv.fr⟩
    intro i f t hi
    obtain ⟨hlt, he⟩ := List.getElem?_eq_some_iff.1 hi
    have tok := diff_tok la lb i hlt
    rw [he] at tok
    rw [← hm, List.getElem?_map] at hi
    have hiS : i < S.length := by
      have := hlt
      rw [← hm, List.length_map] at this
      exact this
    rw [List.getElem?_eq_getElem hiS] at hi
    have h2' : S[i].off = f ∧ S[i].off + S[i].n = t := by simpa [ends] using hi
    obtain ⟨gl, rfl, r0, r1, r2, r3⟩ := rspan_at inv.own i hiS hlen
    have bks := inv.oks S[i] (List.getElem_mem hiS)
    unfold cutL at bks
    have hn : S[i].n = t - f := by omega
    rw [hn] at r2 r3 bks
    rw [h2'.1] at r1 bks
    exact ⟨gl, _, _, _, _, rfl, r0, r1, r2, r3, bks.1.1, bks.2.1, tok.lt, tok.le⟩
  · unfold dd
    rw [if_neg h]
    refine (rdiff_len w a1 a2 n1 n2 c1 c2 (by omega)).mono ?_
    rintro r w' ⟨rfl, rfl⟩
    exact ⟨none, 0, 0, rfl, rfl, fun i f t hi => by simp at hi, Fr.refl _ _⟩

set_option maxHeartbeats 400000 in
set_option maxRecDepth 100000 in
theorem sameSpans_zero (w : World) (a1 a2 : Option Addr) (c1 c2 : Nat) :
    Calls Try.prog 21 #[.slice a1 0 c1, .slice a2 0 c2] w fun r w' => r = .returned (.bool true) ∧ Fr [] w w' := by
  go_enter Try.func21, Try.ntmps21
  go_wp2_with fail
  go_loopw [5] (fun iv wr => iv = .int .i64 0 ∧ wr = w) (fun _ _ => 0)
  case atStart => exact ⟨rfl, rfl⟩
  case round =>
    obtain ⟨rfl, rfl⟩ := hrel
    go_wp2_with fail
    go_ret
    exact ⟨rfl, Fr.refl _ _⟩
theorem sameSpans_dd (w : World) (a1 a2 : Option Addr) (n c1 c2 : Nat) (la lb : List UInt8) (hD : (dd la lb).length = n) (h1 : SpsAt w a1 (dd la lb) la lb) (h2 : SpsAt w a2 (dd la lb) la lb) :
    Calls Try.prog 21 #[.slice a1 n c1, .slice a2 n c2] w fun r w' => r = .returned (.bool true) ∧ Fr [] w w' := by
  by_cases h : la.length = 512 ∧ lb.length = 512
  · have := dd_len la lb
    exact sameSpans_yes w a1 a2 n c1 c2 _ la lb hD (by omega) h.1 h.2 h1 h2
  · unfold dd at hD
    rw [if_neg h] at hD
    simp at hD
    subst hD
    exact sameSpans_zero w a1 a2 c1 c2
theorem DOut.sps {w w' : World} {AD : Option Addr} {N CAP : Nat} {S : List SpE} {la lb : List UInt8} (h : DOut w w' AD N CAP S (dd la lb) la lb) : SpsAt w' AD (dd la lb) la lb := by
  by_cases hh : la.length = 512 ∧ lb.length = 512
  · have hm := h.map
    unfold dd at hm ⊢
    rw [if_pos hh] at hm ⊢
    exact diff_sps h.own hm h.oks
  · unfold dd
    rw [if_neg hh]
    exact fun i f t hi => by simp at hi

/-! ### the lists of two rows lie apart -/
def dz : SpE := ⟨0, 0, 0, 0⟩
def vsOf (S : List SpE) : List (Nat × Nat) := S.flatMap fun e => [(e.bo, e.n), (e.bn, e.n)]
def sv (x : Nat × Nat) : Value := .slice (some ⟨x.1, 0, none⟩) x.2 x.2
theorem vs_fst (S : List SpE) : (vsOf S).map (·.1) = blksOf S := by simp [vsOf, blksOf, List.map_flatMap]
theorem vs_len (S : List SpE) : (vsOf S).length = 2 * S.length := by
  induction S with
  | nil => rfl
  | cons e r ih => simp [vsOf] at ih ⊢; omega
theorem range_getD {α : Type} (S : List α) (d : α) : (List.range S.length).map (fun i => S.getD i d) = S := by
  apply List.ext_getElem
  · simp
  · intro i h1 h2
    simp [h2]
theorem rowL_eq (S : List SpE) : Ab.rowL (fun i => some ⟨(S.getD i dz).bo, 0, none⟩) (fun i => some ⟨(S.getD i dz).bn, 0, none⟩) (fun i => (S.getD i dz).n) (fun i => (S.getD i dz).n) (fun i => (S.getD i dz).n) (fun i => (S.getD i dz).n) S.length = (vsOf S).map sv := by
  have e1 : (vsOf S).map sv = S.flatMap fun e => [sv (e.bo, e.n), sv (e.bn, e.n)] := by simp [vsOf, List.map_flatMap]
  rw [e1]
  conv => rhs; rw [← range_getD S dz]
  rw [List.flatMap_map]
  rfl
theorem vs_map (vs : List (Nat × Nat)) : (List.range vs.length).map (fun j => Value.slice (some ⟨(vs.getD j (0, 0)).1, 0, none⟩) (vs.getD j (0, 0)).2 (vs.getD j (0, 0)).2) = vs.map sv := by
  have h := congrArg (List.map sv) (range_getD vs (0, 0))
  rw [List.map_map] at h
  exact h

theorem span_atB {B : Nat} {wr : World} {AD : Option Addr} {N CAP : Nat} {S : List SpE} (ow : wr.ownsRow B 52 4 (.slice AD N CAP) N (spv S)) (i : Nat) (hi : i < S.length) (hN : S.length = N) :
    ∃ gl, AD = some ⟨gl, 0, none⟩ ∧ wr.cell? ⟨gl, i * 4, none⟩ = some (.int .i64 0) ∧ wr.cell? ⟨gl, i * 4 + 1, none⟩ = some (.int .i64 (S[i].off : Int)) ∧ wr.cell? ⟨gl, i * 4 + 2, none⟩ = some (.slice (some ⟨S[i].bo, 0, none⟩) S[i].n S[i].n) ∧ wr.cell? ⟨gl, i * 4 + 3, none⟩ = some (.slice (some ⟨S[i].bn, 0, none⟩) S[i].n S[i].n) := by
  rcases ow.2 with ⟨hv, h0⟩ | ⟨g, cap, cur, hv, _, hh, hnc, _, hcs, ht⟩
  · omega
  · cases hv
    have key : ∀ k, k < 4 → ∀ v, S[i].vals[k]? = some v → wr.cell? ⟨g, i * 4 + k, none⟩ = some v := by
      intro k hk v hv
      refine cells_vals hh (m := N * 4) ?_ _ v (by rw [spv_at S i hi k hk]; exact hv)
      simpa using ht
    exact ⟨g, rfl, key 0 (by omega) _ rfl, key 1 (by omega) _ rfl, key 2 (by omega) _ rfl, key 3 (by omega) _ rfl⟩

set_option maxHeartbeats 1000000 in
theorem two_apart (w : World) (lo mid hi : Nat) (AD1 AD2 : Option Addr) (N1 N2 CAP1 CAP2 : Nat) (S1 S2 : List SpE) (la lb : List UInt8) (hla : la.length ≤ 5000)
    (o1 : w.ownsRow lo 52 4 (.slice AD1 N1 CAP1) N1 (spv S1)) (o2 : w.ownsRow mid 52 4 (.slice AD2 N2 CAP2) N2 (spv S2)) (b1 : ∀ g, (Value.slice AD1 N1 CAP1).ownBlock = some g → g < mid)
    (k1 : ∀ e ∈ S1, Blk w e.bo ((la.drop e.off).take e.n) ∧ Blk w e.bn ((lb.drop e.off).take e.n)) (k2 : ∀ e ∈ S2, Blk w e.bo ((la.drop e.off).take e.n) ∧ Blk w e.bn ((lb.drop e.off).take e.n))
    (t1 : ∀ e ∈ S1, e.off + e.n ≤ la.length ∧ e.off + e.n ≤ lb.length) (t2 : ∀ e ∈ S2, e.off + e.n ≤ la.length ∧ e.off + e.n ≤ lb.length)
    (r1 : Rise lo mid S1) (r2 : Rise mid hi S2) (hlm : lo ≤ mid) (hN1 : N1 ≤ 60) (hN2 : N2 ≤ 60) :
    Calls Try.prog 23 #[.slice (some ⟨w.heap.size, 0, none⟩) 2 2] (w.alloc (.cells #[.slice AD1 N1 CAP1, .slice AD2 N2 CAP2] 37)) fun e w' => e = .returned (.bool true) ∧ ∃ G, (∀ g ∈ G, lo ≤ g) ∧ Fr G (w.alloc (.cells #[.slice AD1 N1 CAP1, .slice AD2 N2 CAP2] 37)) w' := by
  have l1 : S1.length = N1 := by have := o1.1; rw [spv_length] at this; omega
  have l2 : S2.length = N2 := by have := o2.1; rw [spv_length] at this; omega
  have fA := (Fr.refl [] w).alloc (.cells #[.slice AD1 N1 CAP1, .slice AD2 N2 CAP2] 37)
  have hs1 : (w.alloc (.cells #[.slice AD1 N1 CAP1, .slice AD2 N2 CAP2] 37)).heap.size = w.heap.size + 1 := by simp
  have htb := heap_alloc_new w (.cells #[.slice AD1 N1 CAP1, .slice AD2 N2 CAP2] 37)
  generalize w.alloc (.cells #[.slice AD1 N1 CAP1, .slice AD2 N2 CAP2] 37) = wm at fA hs1 htb ⊢
  have ownK : ∀ {B : Nat} {v : Value} {n : Nat} {xs : List Value}, w.ownsRow B 52 4 v n xs → wm.ownsRow B 52 4 v n xs := by
    intro B v n xs h
    obtain ⟨h1, h2⟩ := h
    refine ⟨h1, ?_⟩
    rcases h2 with hn | ⟨g, cap, cur, rfl, hb, hg, r⟩
    · exact Or.inl hn
    · exact Or.inr ⟨g, cap, cur, rfl, hb, fA.same (by simp) hg, r⟩
  have p1 := ownK o1
  have p2 := ownK o2
  have vall : ∀ x ∈ vsOf S1 ++ vsOf S2, x.2 ≤ 5000 ∧ ∃ l : List UInt8, l.length = x.2 ∧ Blk wm x.1 l := by
    have one : ∀ S : List SpE, (∀ e ∈ S, Blk w e.bo ((la.drop e.off).take e.n) ∧ Blk w e.bn ((lb.drop e.off).take e.n)) → (∀ e ∈ S, e.off + e.n ≤ la.length ∧ e.off + e.n ≤ lb.length) → ∀ x ∈ vsOf S, x.2 ≤ 5000 ∧ ∃ l : List UInt8, l.length = x.2 ∧ Blk wm x.1 l := by
      intro S k t x hx
      obtain ⟨e, he, hx⟩ := List.mem_flatMap.1 hx
      obtain ⟨ka, kb⟩ := k e he
      obtain ⟨ta, tb⟩ := t e he
      simp at hx
      rcases hx with rfl | rfl
      · exact ⟨by dsimp only; omega, _, by rw [List.length_take, List.length_drop]; dsimp only; omega, ka.kept fA (by simp)⟩
      · exact ⟨by dsimp only; omega, _, by rw [List.length_take, List.length_drop]; dsimp only; omega, kb.kept fA (by simp)⟩
    intro x hx
    rcases List.mem_append.1 hx with h | h
    · exact one S1 k1 t1 x h
    · exact one S2 k2 t2 x h
  have hblk : (vsOf S1 ++ vsOf S2).map (·.1) = blksOf S1 ++ blksOf S2 := by rw [List.map_append, vs_fst, vs_fst]
  have hpw : ((vsOf S1 ++ vsOf S2).map (·.1)).Pairwise (· < ·) := by
    rw [hblk]
    exact List.pairwise_append.2 ⟨r1.1, r2.1, fun a ha b hb => by have h1 := (r1.2 a ha).2; have h2 := (r2.2 b hb).1; omega⟩
  have hge : ∀ b ∈ blksOf S1 ++ blksOf S2, lo ≤ b := by
    intro b hb
    rcases List.mem_append.1 hb with h | h
    · exact (r1.2 b h).1
    · have := (r2.2 b h).1; omega
  obtain ⟨VS, hVS⟩ : ∃ VS, vsOf S1 ++ vsOf S2 = VS := ⟨_, rfl⟩
  rw [hVS] at vall hpw hblk
  have hVL : VS.length = 2 * N1 + 2 * N2 := by rw [← hVS, List.length_append, vs_len, vs_len, l1, l2]
  have vget : ∀ j, j < VS.length → VS.getD j (0, 0) ∈ VS ∧ (VS.map (·.1))[j]? = some (VS.getD j (0, 0)).1 := by
    intro j hj
    simp [hj]
  have ownB : ∀ {v : Value} {n : Nat} {xs : List Value} {B : Nat} {g : Nat}, wm.ownsRow B 52 4 v n xs → v.ownBlock = some g → ∃ cur, wm.heap[g]? = some (.cells cur 52) := by
    intro v n xs B g h hg
    rcases h.2 with ⟨hv, _⟩ | ⟨g', c, cur, hv, _, hh, _⟩
    · rw [hv] at hg; cases hg
    · rw [hv] at hg
      have : g' = g := by simpa [Value.ownBlock] using hg
      subst this
      exact ⟨cur, hh⟩
  have lowO : ∀ {B : Nat} {v : Value} {n : Nat} {xs : List Value}, wm.ownsRow B 52 4 v n xs → wm.ownsRow 0 52 4 v n xs := by
    intro B v n xs h
    obtain ⟨h1, h2⟩ := h
    refine ⟨h1, ?_⟩
    rcases h2 with hn | ⟨g, cap, cur, rfl, hb, hg, r⟩
    · exact Or.inl hn
    · exact Or.inr ⟨g, cap, cur, rfl, Nat.zero_le _, hg, r⟩
  refine (Ab.apartSpans_any wm 2 w.heap.size 2 (fun r => if r = 0 then AD1 else AD2) (fun r => if r = 0 then N1 else N2) (fun r => if r = 0 then CAP1 else CAP2)
    (fun r i => some ⟨((if r = 0 then S1 else S2).getD i dz).bo, 0, none⟩) (fun r i => some ⟨((if r = 0 then S1 else S2).getD i dz).bn, 0, none⟩) (fun r i => ((if r = 0 then S1 else S2).getD i dz).n) (fun r i => ((if r = 0 then S1 else S2).getD i dz).n) (fun r i => ((if r = 0 then S1 else S2).getD i dz).n) (fun r i => ((if r = 0 then S1 else S2).getD i dz).n)
    (by omega) (by omega) ?_ ?_ ?_ (VS.map (·.1)) ((Value.slice AD1 N1 CAP1).ownBlock.toList ++ (Value.slice AD2 N2 CAP2).ownBlock.toList) ?_ ?_ ?_ VS.length (fun j => some ⟨(VS.getD j (0, 0)).1, 0, none⟩) (fun j => (VS.getD j (0, 0)).2) (fun j => (VS.getD j (0, 0)).2) ?_ ?_ ?_ ?_).mono ?_
  · intro r hr
    rcases (by omega : r = 0 ∨ r = 1) with rfl | rfl
    · rw [cell_of_row wm w.heap.size 0 _ _ _ htb]; rfl
    · rw [cell_of_row wm w.heap.size 1 _ _ _ htb]; rfl
  · intro r hr
    rcases (by omega : r = 0 ∨ r = 1) with rfl | rfl
    · intro i hi
      have hi' : i < S1.length := by rw [l1]; exact hi
      obtain ⟨gl, e, q0, q1, q2, q3⟩ := span_atB p1 i hi' l1
      have eg : S1.getD i dz = S1[i] := by simp [hi']
      rw [← eg] at q2 q3
      exact ⟨gl, _, _, e, q0, q1, q2, q3⟩
    · intro i hi
      have hi' : i < S2.length := by rw [l2]; exact hi
      obtain ⟨gl, e, q0, q1, q2, q3⟩ := span_atB p2 i hi' l2
      have eg : S2.getD i dz = S2[i] := by simp [hi']
      rw [← eg] at q2 q3
      exact ⟨gl, _, _, e, q0, q1, q2, q3⟩
  · intro r hr
    rcases (by omega : r = 0 ∨ r = 1) with rfl | rfl
    · show N1 ≤ 1000; omega
    · show N2 ≤ 1000; omega
  · intro g hg
    obtain ⟨x, hx, rfl⟩ := List.mem_map.1 hg
    obtain ⟨-, l, -, hb⟩ := vall x hx
    exact hb.lt
  · intro g hg
    rcases List.mem_append.1 hg with h | h
    · exact (p1.lt g (by simpa using h)).2
    · exact (p2.lt g (by simpa using h)).2
  · intro g hg hm
    obtain ⟨x, hx, rfl⟩ := List.mem_map.1 hm
    obtain ⟨-, l, -, hb⟩ := vall x hx
    have : ∃ cur, wm.heap[x.1]? = some (.cells cur 52) := by
      rcases List.mem_append.1 hg with h | h
      · exact ownB p1 (by simpa using h)
      · exact ownB p2 (by simpa using h)
    obtain ⟨cur, hc⟩ := this
    unfold Blk at hb
    rw [hc] at hb
    cases hb
  · show Ab.rowsN _ 2 = _
    rw [hVL]
    show 0 + 2 * N1 + 2 * N2 = _
    omega
  · have e2 : List.range 2 = [0, 1] := rfl
    have q1 := rowL_eq S1
    have q2 := rowL_eq S2
    rw [l1] at q1
    rw [l2] at q2
    rw [vs_map, ← hVS, List.map_append, ← q1, ← q2]
    unfold Ab.rowsL
    rw [e2]
    simp only [List.flatMap_cons, List.flatMap_nil, List.append_nil]
    rfl
  · refine ⟨by rw [hVL]; omega, fun j hj => ?_, fun j hj => ?_, fun i j hi hj hij g e1 e2 => ?_, fun j hj g e => ?_⟩
    · have := (vall _ (vget j hj).1).1
      omega
    · obtain ⟨h5, l, hl, hb⟩ := vall _ (vget j hj).1
      have ho := hb.own (by omega)
      rw [hl] at ho
      exact ⟨(arr l).toList, by simp [arr, hl], ho⟩
    · have a1 : (VS.getD i (0, 0)).1 = g := by simpa [Value.ownBlock] using e1
      have a2 : (VS.getD j (0, 0)).1 = g := by simpa [Value.ownBlock] using e2
      have v1 := (vget i hi).2
      have v2 := (vget j hj).2
      rw [a1] at v1
      rw [a2] at v2
      obtain ⟨x1, y1⟩ := List.getElem?_eq_some_iff.1 v1
      obtain ⟨x2, y2⟩ := List.getElem?_eq_some_iff.1 v2
      rcases Nat.lt_or_gt_of_ne hij with h | h
      · have := List.pairwise_iff_getElem.1 hpw i j x1 x2 h
        omega
      · have := List.pairwise_iff_getElem.1 hpw j i x2 x1 h
        omega
    · have a2 : (VS.getD j (0, 0)).1 = g := by simpa [Value.ownBlock] using e
      rw [← a2]
      exact List.mem_map.2 ⟨_, (vget j hj).1, rfl⟩
  · refine ⟨by omega, fun j hj => ?_, fun j hj => ?_, fun i j hi hj hij g e1 e2 => ?_, fun j hj g e => ?_⟩
    · rcases (by omega : j = 0 ∨ j = 1) with rfl | rfl
      · show N1 ≤ 1000; omega
      · show N2 ≤ 1000; omega
    · rcases (by omega : j = 0 ∨ j = 1) with rfl | rfl
      · exact ⟨spv S1, by rw [spv_length, l1]; rfl, lowO p1⟩
      · exact ⟨spv S2, by rw [spv_length, l2]; rfl, lowO p2⟩
    · rcases (by omega : i = 0 ∨ i = 1) with rfl | rfl
      · rcases (by omega : j = 0 ∨ j = 1) with rfl | rfl
        · exact hij rfl
        · have h1 := b1 g e1
          have h2 := (p2.lt g e2).1
          omega
      · rcases (by omega : j = 0 ∨ j = 1) with rfl | rfl
        · have h1 := b1 g e2
          have h2 := (p2.lt g e1).1
          omega
        · exact hij rfl
    · rcases (by omega : j = 0 ∨ j = 1) with rfl | rfl
      · exact List.mem_append_left _ (by have e' : (Value.slice AD1 N1 CAP1).ownBlock = some g := e; simp [e'])
      · exact List.mem_append_right _ (by have e' : (Value.slice AD2 N2 CAP2).ownBlock = some g := e; simp [e'])
  · rintro e w' ⟨rfl, f⟩
    refine ⟨rfl, _, ?_, fr_ab f⟩
    intro g hg
    rcases List.mem_append.1 hg with h | h
    · rw [hblk] at h
      exact hge g h
    · rcases List.mem_append.1 h with h | h
      · exact (p1.lt g (by simpa using h)).1
      · have := (p2.lt g (by simpa using h)).1
        omega

end Go.Proofs.Ytlfpoeimgoikkaa
