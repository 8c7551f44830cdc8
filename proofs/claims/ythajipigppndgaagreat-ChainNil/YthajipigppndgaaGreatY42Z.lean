/-
  A link's page.
-/
import Derived.Test.YthajipigppndgaaGreatY41Z
import Derived.Test.YthajipigppndgaaGreatY25Z
namespace Go.Proofs.YthajipigppndgaaGreat
open Go.RowKit Go.Maps Go.Lib Go.Shelf
attribute [local go_sem] Oper.semAt_some
theorem info3n : ∃ i, Tryz.prog.info? 3 = some i ∧ i.zero = some (.int .i64 0) ∧ i.size = 1 ∧ i.bytes = 8 := by
  have h : (Tryz.prog.info? 3).map (fun i => (i.zero, i.size, i.bytes)) = some (some (.int .i64 0), 1, 8) := by kernel_rfl
  obtain ⟨i, hi, hx⟩ := Option.map_eq_some_iff.1 h
  simp only [Prod.mk.injEq] at hx
  exact ⟨i, hi, hx.1, hx.2.1, hx.2.2⟩
def pgT (xs : List Tl) : List Value := xs.flatMap fun x => match x with
  | some (q, _) => [.int .i64 (q : Int)]
  | none => []
theorem pgT_snoc (xs : List Tl) (q pb : Nat) : pgT (xs ++ [some (q, pb)]) = pgT xs ++ [.int .i64 (q : Int)] := by simp [pgT]
theorem pgT_len : ∀ {xs : List Tl}, (∀ x ∈ xs, x ≠ none) → (pgT xs).length = xs.length
  | [], _ => rfl
  | x :: xs, h => by
    have ih := pgT_len (xs := xs) (fun y hy => h y (List.mem_cons_of_mem _ hy))
    cases x with
    | none => exact absurd rfl (h none (by simp))
    | some p =>
      obtain ⟨q, pb⟩ := p
      unfold pgT at ih ⊢
      simp only [List.flatMap_cons, List.length_append, List.length_cons, List.length_nil, ih]
      omega
theorem pgT_some : ∀ (xs : List Tl) (l : List Nat), pgs xs = l.map some → pgT xs = l.map fun q : Nat => Value.int .i64 (q : Int)
  | [], [], _ => rfl
  | [], q :: l, h => by simp [pgs] at h
  | x :: xs, [], h => by simp [pgs] at h
  | x :: xs, q :: l, h => by
    simp only [pgs, List.map_cons, List.cons.injEq] at h
    have ih := pgT_some xs l h.2
    cases x with
    | none => simp at h
    | some p =>
      obtain ⟨q2, pb⟩ := p
      simp at h
      unfold pgT at ih ⊢
      simp only [List.flatMap_cons, ih, h.1, List.map_cons]
      rfl
theorem wk_len {n : Nat} {V : Pages} (hl : ∀ q, q < n → (V q).length = 512) {k : Int} {kind : Nat} {want : Option Int} {l : List Nat} {t : Bool} (h : Wk n V k kind want l t) : l.length ≤ (valOf V l).length := by
  have hk := (wk_val h).2.2
  clear h
  induction l with
  | nil => simp
  | cons q l ih =>
    have h1 := hk q (by simp)
    have h2 := (lk_cell h1 (hl q h1.hi)).2.1
    have h3 := ih (fun q hq => hk q (by simp [hq]))
    unfold valOf at h3 ⊢
    simp only [List.flatMap_cons, List.length_cons, List.length_append, List.length_drop]
    omega
def BlkJ (w0 : World) (K : KL) (b4 b5 b6 : Nat) (pre : List Tl) (KJ : KL) : Prop :=
  ∃ v KR, RowK w0.heap.size 3 v (pgT pre) KR ∧ (∀ x ∈ pre, x ≠ none) ∧ Dj KR ((b6, .cells #[v] 45) :: (b4, .cells #[.slice none 0 0] 45) :: (b5, .cells #[.int .i64 0] 40) :: K) ∧ KJ = KR ++ ((b6, .cells #[v] 45) :: (b4, .cells #[.slice none 0 0] 45) :: (b5, .cells #[.int .i64 0] 40) :: K)
section
variable {w0 w : World} {bp : Nat} {b : Bk} {K : KL} (h : Ab w0 w bp b K)
include h
set_option maxRecDepth 100000 in
set_option maxHeartbeats 4000000 in
theorem nblocks_any {V : Pages} (hv : Shows b.x V) (hp3 : 3 ≤ b.x.pages) (hp : b.x.pages ≤ 1000000) (hd : IsHd b.x.pages (V 0)) (first : Int) {l : List Nat} {t : Bool} (hw : ChW b.x.pages V first l t) :
    Calls Tryz.prog 14 #[.pointer (some ⟨bp, 0, none⟩), .int .i64 first] w fun e w' => ∃ v ev, e = .returned (.tuple #[v, .int .i64 ev]) ∧ ∃ KR, Hid (RdK w0 bp b (KR ++ K) w' ∧ Dj KR K ∧ ((t = false ∧ v = .slice none 0 0 ∧ ev = 4 ∧ KR = []) ∨ (t = true ∧ ev = 0 ∧ RowK w0.heap.size 3 v (l.map fun q : Nat => Value.int .i64 (q : Int)) KR))) := by
  have S0 : RdK w0 bp b K w := ⟨b, Rd.refl h⟩
  have hpos : 0 < b.x.pages := by omega
  have IT := fun n hn bF bB => nlinks_iter (w0 := w0) (bp := bp) n hn hv hp3 hp hd bF bB first hw
  have hlt : ∀ p ∈ K, p.1 < w.heap.size := fun p hp => (Array.getElem?_eq_some_iff.1 (h.kp p hp).1).1
  have S1 := (rd_keeper w0 bp b).new (.cells #[.int .i64 0] 40) ((rd_keeper w0 bp b).new (.cells #[.slice none 0 0] 45) S0)
  rw [World.size_alloc] at S1
  obtain ⟨b4, hb4⟩ : ∃ b4, w.heap.size = b4 := ⟨_, rfl⟩
  rw [hb4] at S1 hlt
  obtain ⟨w1, hw1⟩ : ∃ w1, (w.alloc (.cells #[.slice none 0 0] 45)).alloc (.cells #[.int .i64 0] 40) = w1 := ⟨_, rfl⟩
  have hs1 : w1.heap.size = b4 + 2 := by rw [← hw1]; simp [World.size_alloc, hb4]
  rw [hw1] at S1
  obtain ⟨bk1, r1⟩ := S1
  have MD := nmade_yes r1.ab (by rw [r1.tr.pages]; exact hpos)
  have S2 := (rd_keeper w0 bp b).new (.cells #[.slice none 0 0] 45) ⟨bk1, r1⟩
  rw [hs1] at S2
  obtain ⟨w2, hw2⟩ : ∃ w2, w1.alloc (.cells #[.slice none 0 0] 45) = w2 := ⟨_, rfl⟩
  have hs2 : w2.heap.size = b4 + 3 := by rw [← hw2, World.size_alloc, hs1]
  rw [hw2] at S2
  have LK := nlinks_mk w2 bp first
  rw [hs2] at LK
  have HS2 := hidI (And.intro S2 (And.intro hs2 hlt))
  have HB4 : Hid (w0.heap.size ≤ b4) := hidI (by rw [← hb4]; exact (h.fresh (Nat.le_refl _)).1)
  have HCL : Hid (∀ q, LkAt b.x.pages V q (Pg.kindOf (V q)) → 2 < (cellOf (V q)).length ∧ (cellOf (V q)).length ≤ 1000) := hidI (fun q hk => by
    have := lk_cell hk (h.len hv hk.hi)
    exact ⟨this.2.1, this.2.2.1⟩)
  have HVL : Hid (l.length ≤ 70000) := hidI (by
    rcases hw with ⟨-, rfl, -⟩ | ⟨-, hw⟩
    · simp
    · have h0 := wk_len (V := V) (fun q hq => h.len hv hq) hw
      cases l with
      | nil => simp
      | cons q l =>
        have h1 := (wk_val hw).2.1 q l rfl
        have h2 := (wk_val hw).2.2 q (by simp)
        have h3 := (lk_cell h2 (h.len hv h2.hi)).2.2.1
        have h4 := (restOf_nn (cellOf (V q))).2
        unfold alOf rsOf at h1
        omega)
  clear r1 S0 S2 hlt h hv hp3 hp hd hw
  refine (callsIn_wide (n := 8)).1 ?_
  refine callsIn_of_wp_marks Tryz.func14 rfl trivial ?_
  simp only [Tryz.ntmps14, List.size_toArray, List.length_cons, List.length_nil, Nat.reduceAdd, Nat.reduceSub, Array.replicate_succ, Array.replicate_zero, List.push_toArray, List.append_toArray, List.nil_append, List.cons_append]
  gi_wp2_with (first
    | (refine ⟨trivial, ?_⟩
       gi_at_call 39
       refine (callsIn_wide.2 MD).mono ?_
       rintro e w3 ⟨rfl, rfl⟩)
    | (refine ⟨trivial, ?_⟩
       gi_at_call 40
       refine (callsIn_wide.2 LK).mono ?_
       rintro e w4 ⟨rfl, q1, q2, f4⟩))
  have hS4 : RdK w0 bp b (((b4 + 2, .cells #[.slice none 0 0] 45) :: (b4, .cells #[.slice none 0 0] 45) :: (b4 + 1, .cells #[.int .i64 0] 40) :: K) ++ kiOf bp first (b4 + 3 + 1) (b4 + 3)) w4 := by
    obtain ⟨⟨bk2, r2⟩, e2, -⟩ := HS2.out
    have a1 := (r2.ab.quiet f4).add q2 (r2.ab.fresh (Nat.le_of_eq e2)).2.1
    have a2 := a1.add q1 (r2.ab.fresh (by omega)).2.1
    refine ⟨bk2, (r2.quiet f4).on (a2.less (fun p hp => ?_))⟩
    simp only [kiOf, List.mem_append, List.mem_cons, List.not_mem_nil, or_false] at hp ⊢
    rcases hp with (h | h | h | h) | h | h <;> simp [h]
  have hlK : ∀ p ∈ K, p.1 < b4 := HS2.out.2.2
  have dj0 : Dj ((b4 + 2, .cells #[.slice none 0 0] 45) :: (b4, .cells #[.slice none 0 0] 45) :: (b4 + 1, .cells #[.int .i64 0] 40) :: K) (kiOf bp first (b4 + 3 + 1) (b4 + 3)) := fun p hp q hq => by
    simp only [kiOf, List.mem_cons, List.not_mem_nil, or_false] at hp hq
    have : p.1 < b4 + 3 := by
      rcases hp with h | h | h | h
      · rw [h]; show b4 + 2 < _; omega
      · rw [h]; show b4 < _; omega
      · rw [h]; show b4 + 1 < _; omega
      · have := hlK p h; omega
    rcases hq with rfl | rfl
    · show p.1 ≠ b4 + 3 + 1; omega
    · show p.1 ≠ b4 + 3; omega
  have hB4 : w0.heap.size ≤ b4 := HB4.out
  refine wpIn_rangeFunc_K (n := 8) rfl (by omega) (gf := 90) (lb := #[.pointer (some ⟨b4 + 3 + 1, 0, none⟩), .pointer (some ⟨b4 + 3, 0, none⟩)]) rfl trivial (enters_of Tryz.func90 (by kernel_rfl) rfl) (rd_keeper w0 bp b) (xt_mono b.x.pages V) (IT 7 (by omega) (b4 + 3 + 1) (b4 + 3)) (fun x => encT_size V x)
    (BlkJ w0 K b4 (b4 + 1) (b4 + 2))
    (fun c _ KJ => c = .ret ∧ t = false ∧ ∃ v KR, KJ = KR ++ ((b4 + 2, .cells #[v] 45) :: (b4, .cells #[.slice none 0 0] 45) :: (b4 + 1, .cells #[.int .i64 4] 40) :: K))
    (fun pre x KJ a' => ∃ KJ0 b7 cs ev, BlkJ w0 K b4 (b4 + 1) (b4 + 2) pre KJ0 ∧ encT V x = #[.agg cs, .int .i64 ev] ∧ KJ = (b7, .cells cs 79) :: KJ0 ∧ (∀ p ∈ KJ0, p.1 ≠ b7) ∧ a' = { tmps := #[.pointer (some ⟨bp, 0, none⟩), .int .i64 first, undef, undef, .pointer (some ⟨b4, 0, none⟩), .pointer (some ⟨b4 + 1, 0, none⟩), .pointer (some ⟨b4 + 2, 0, none⟩), .pointer (some ⟨b7, 0, none⟩), .int .i64 ev, .pointer (some ⟨bp, 0, none⟩), .bool true, .bool false, .pointer (some ⟨bp, 0, none⟩), .int .i64 first, .func (.func 90) #[] #[.pointer (some ⟨b4 + 3 + 1, 0, none⟩), .pointer (some ⟨b4 + 3, 0, none⟩)], .agg cs, .int .i64 ev, undef, undef, undef, undef, undef, undef, undef, undef, undef], defers := [] })
    hS4 dj0 ⟨.slice none 0 0, [], .inl ⟨rfl, rfl, rfl⟩, fun x hx => (nomatch hx), fun p hp => (nomatch hp), rfl⟩ ?assign ?body ?done ?stop
  case assign =>
    rintro lp pre x KJ KO W Kont hJ hs hd hx hsp hK
    obtain ⟨cs, ev, hE, h5, h1⟩ := encT_cs V x
    rw [hE]
    have Z := heap_alloc_new W (.cells noLink 79)
    unfold noLink at Z
    gi_wp2_with (refine wpIn_storeL rfl _ _ rfl W.heap.size _ cs rfl h5 h1 rfl rfl Z ?_; intro W2 b2 f2)
    obtain ⟨v, KR, hrow, hnn, hdj, rfl⟩ := hJ
    have f0 : Fr [] W W2 := ((Fr.refl [] W).alloc (.cells noLink 79)).then f2 (fun i hi hm => by
      have e := List.mem_singleton.1 hm
      omega)
    have S2 := hs.newF f0 (Nat.le_refl _) b2
    have hlW : ∀ p ∈ (KR ++ ((b4 + 2, .cells #[v] 45) :: (b4, .cells #[.slice none 0 0] 45) :: (b4 + 1, .cells #[.int .i64 0] 40) :: K)) ++ KO, p.1 ≠ W.heap.size := fun p hp => Nat.ne_of_lt (Array.getElem?_eq_some_iff.1 (hs.lies p hp)).1
    refine hK _ _ _ ⟨_, W.heap.size, cs, ev, ⟨v, KR, hrow, hnn, hdj, rfl⟩, hE, rfl, fun p hp => hlW p (List.mem_append.2 (.inl hp)), rfl⟩ S2 ?_
    intro p hp q hq
    rcases List.mem_cons.1 hp with rfl | hp
    · exact fun e => hlW q (List.mem_append.2 (.inr hq)) e.symm
    · exact hd p hp q hq
  case body =>
    rintro lp pre x a' KJ KO W ⟨KJ0, b7, cs, ev, ⟨v, KR, hrow, hnn, hdj, rfl⟩, hE, rfl, h7, rfl⟩ hs hd hx hsp
    have e4 := hs.lies (b4, .cells #[.slice none 0 0] 45) (by simp)
    have e5 := hs.lies (b4 + 1, .cells #[.int .i64 0] 40) (by simp)
    have e6 := hs.lies (b4 + 2, .cells #[v] 45) (by simp)
    have e7 := hs.lies (b7, .cells cs 79) (by simp)
    simp only at e4 e5 e6 e7
    have nR : ∀ p ∈ KR ++ (K ++ KO), p.1 ≠ b4 ∧ p.1 ≠ b4 + 1 ∧ p.1 ≠ b4 + 2 := fun p hp => by
      simp only [List.mem_append] at hp
      rcases hp with h | h | h
      · exact ⟨hdj p h (b4, .cells #[.slice none 0 0] 45) (by simp), hdj p h (b4 + 1, .cells #[.int .i64 0] 40) (by simp), hdj p h (b4 + 2, .cells #[v] 45) (by simp)⟩
      · have := hlK p h
        omega
      · exact ⟨fun e => hd (b4, .cells #[.slice none 0 0] 45) (by simp) p h e.symm, fun e => hd (b4 + 1, .cells #[.int .i64 0] 40) (by simp) p h e.symm, fun e => hd (b4 + 2, .cells #[v] 45) (by simp) p h e.symm⟩
    cases x with
    | none =>
      obtain ⟨rfl, rfl⟩ : cs = noLink ∧ ev = 4 := by unfold encT at hE; simp at hE; exact ⟨hE.1.symm, hE.2.symm⟩
      have c4 := cell_of_row W b4 0 _ _ _ e4
      have g4 := frozen_of_row W b4 0 _ _ e4
      have e5' : (W.setCell ⟨b4, 0, none⟩ (.slice none 0 0)).heap[b4 + 1]? = some (.cells #[.int .i64 0] 40) := (heap_setCell_other W ⟨b4, 0, none⟩ _ _ (by show b4 + 1 ≠ b4; omega)).trans e5
      have c5 := cell_of_row _ (b4 + 1) 0 _ _ _ e5'
      have g5 := frozen_of_row _ (b4 + 1) 0 _ _ e5'
      have e4' := heap_setCell_same W b4 0 _ _ (.slice none 0 0) e4
      gi_wp2
      refine ⟨KR ++ ((b4 + 2, .cells #[v] 45) :: (b4, .cells #[.slice none 0 0] 45) :: (b4 + 1, .cells #[.int .i64 4] 40) :: K), ⟨rfl, told_none hsp, v, KR, rfl⟩, ?_, ?_⟩
      · have s1 : RdK w0 bp b ((b4, .cells #[.slice none 0 0] 45) :: (b4 + 1, .cells #[.int .i64 0] 40) :: (b4 + 2, .cells #[v] 45) :: (KR ++ (K ++ KO))) W := hs.less (fun p hp => by
          simp only [List.mem_append, List.mem_cons] at hp ⊢
          rcases hp with h | h | h | h | h | h <;> simp [h])
        have s2 := s1.setK (.slice none 0 0) hB4 (fun p hp => by
          simp only [List.mem_cons] at hp
          rcases hp with rfl | rfl | hp
          · show b4 + 1 ≠ b4; omega
          · show b4 + 2 ≠ b4; omega
          · exact (nR p hp).1) (by decide) (by decide)
        have s3 : RdK w0 bp b ((b4 + 1, .cells #[.int .i64 0] 40) :: (b4, .cells #[.slice none 0 0] 45) :: (b4 + 2, .cells #[v] 45) :: (KR ++ (K ++ KO))) _ := s2.less (fun p hp => by
          simp only [List.mem_cons] at hp ⊢
          rcases hp with h | h | h | h <;> simp [h])
        have s4 := s3.setK (.int .i64 4) (by omega) (fun p hp => by
          simp only [List.mem_cons] at hp
          rcases hp with rfl | rfl | hp
          · show b4 ≠ b4 + 1; omega
          · show b4 + 2 ≠ b4 + 1; omega
          · exact (nR p hp).2.1) (by decide) (by decide)
        exact s4.less (fun p hp => by
          simp only [List.mem_append, List.mem_cons] at hp ⊢
          rcases hp with (h | h | h | h | h) | h <;> simp [h])
      · intro p hp q hq
        simp only [List.mem_append, List.mem_cons] at hp
        rcases hp with h | rfl | rfl | rfl | h
        · exact hd p (by simp [h]) q hq
        · exact hd (b4 + 2, .cells #[v] 45) (by simp) q hq
        · exact hd (b4, .cells #[.slice none 0 0] 45) (by simp) q hq
        · exact hd (b4 + 1, .cells #[.int .i64 0] 40) (by simp) q hq
        · exact hd p (by simp [h]) q hq
    | some pq =>
      obtain ⟨q, pb⟩ := pq
      obtain ⟨rfl, rfl⟩ : cs = lkC V q pb ∧ ev = 0 := by unfold encT at hE; simp at hE; exact ⟨hE.1.symm, hE.2.symm⟩
      have c6 : W.cell? ⟨b4 + 2, 0, none⟩ = some v := cell_of_row W (b4 + 2) 0 _ _ _ e6
      have g6 := frozen_of_row W (b4 + 2) 0 _ _ e6
      have c7 : W.cell? ⟨b7, 0, none⟩ = some (.int .i64 (q : Int)) := cell_of_row W b7 0 _ _ _ e7
      have hlen := hsp.length_le
      rw [pgs_snoc] at hlen
      have hpl := pgT_len hnn
      obtain ⟨i3, hi3, hz3, hs3, hb3⟩ := info3n
      have f1 : Fr [] W (W.alloc (.cells #[.int .i64 (q : Int)] 3)) := (Fr.refl [] W).alloc _
      have hR1 : RdK w0 bp b (KR ++ ((b4 + 2, .cells #[v] 45) :: (b4, .cells #[.slice none 0 0] 45) :: (b4 + 1, .cells #[.int .i64 0] 40) :: (K ++ KO))) (W.alloc (.cells #[.int .i64 (q : Int)] 3)) := (hs.less (fun p hp => by
        simp only [List.mem_append, List.mem_cons] at hp ⊢
        rcases hp with h | h | h | h | h | h <;> simp [h])).quiet f1
      have hD1 : Dj KR ((b4 + 2, .cells #[v] 45) :: (b4, .cells #[.slice none 0 0] 45) :: (b4 + 1, .cells #[.int .i64 0] 40) :: (K ++ KO)) := fun p hp q hq => by
        simp only [List.mem_append, List.mem_cons] at hq
        rcases hq with h | h | h | h | h
        · exact hdj p hp q (by simp [h])
        · exact hdj p hp q (by simp [h])
        · exact hdj p hp q (by simp [h])
        · exact hdj p hp q (by simp [h])
        · exact hd p (by simp [hp]) q h
      have hZ := heap_alloc_new W (.cells #[.int .i64 (q : Int)] 3)
      have hnc : ∀ j u, [Value.int .i64 (q : Int)][j]? = some u → (W.alloc (.cells #[.int .i64 (q : Int)] 3)).cell? ((⟨W.heap.size, 0, none⟩ : Addr).add j) = some u := fun j u hu => by
        rw [Addr.add_mid]
        refine (cell_of_row _ W.heap.size (0 + j) _ _ _ hZ).trans ?_
        rw [Nat.zero_add]
        simpa using hu
      have hone : ∀ u ∈ [Value.int .i64 (q : Int)], u.oneCell' = true := fun u hu => by
        rw [List.mem_singleton.1 hu]
        rfl
      have HN := hidI (And.intro hnc hone)
      have hbd : (pgT pre).length + [Value.int .i64 (q : Int)].length ≤ 16777216 := by
        have := HVL.out
        unfold told at hlen
        simp only [List.length_append, List.length_map, List.length_cons, List.length_nil, pgs] at hlen ⊢
        cases t <;> simp at hlen <;> omega
      clear hZ hpl
      gi_wp2_with (first
        | (gi_at_builtin
           refine wpIn_appK rfl _ _ rfl Tryz.underlying45 hi3 hz3 hs3 hb3 rfl (by decide) (by decide) hrow hR1 hD1 ⟨W.heap.size, 0, none⟩ _ _ [.int .i64 (q : Int)] rfl rfl rfl HN.out.1 HN.out.2 (by simp) hbd (by decide) ?_
           intro g cap w5 KR5 hrow5 hs5 hd5
           have e6' := hs5.lies (b4 + 2, .cells #[v] 45) (by simp)
           have c6' : w5.cell? ⟨b4 + 2, 0, none⟩ = some v := cell_of_row w5 (b4 + 2) 0 _ _ _ e6'
           have g6' := frozen_of_row w5 (b4 + 2) 0 _ _ e6'))
      have hn5 : ∀ p ∈ KR5 ++ (K ++ KO), p.1 ≠ b4 + 2 := fun p hp => by
        simp only [List.mem_append] at hp
        rcases hp with h | h | h
        · exact hd5 p h (b4 + 2, .cells #[v] 45) (by simp)
        · exact (nR p (by simp [h])).2.2
        · exact (nR p (by simp [h])).2.2
      have s1 : RdK w0 bp b ((b4 + 2, .cells #[v] 45) :: (b4, .cells #[.slice none 0 0] 45) :: (b4 + 1, .cells #[.int .i64 0] 40) :: (KR5 ++ (K ++ KO))) w5 := hs5.less (fun p hp => by
        simp only [List.mem_append, List.mem_cons] at hp ⊢
        rcases hp with h | h | h | h | h | h <;> simp [h])
      have s2 := s1.setK (.slice (some ⟨g, 0, none⟩) ((pgT pre).length + 1) cap) (by omega) (fun p hp => by
        simp only [List.mem_cons] at hp
        rcases hp with rfl | rfl | hp
        · show b4 ≠ b4 + 2; omega
        · show b4 + 1 ≠ b4 + 2; omega
        · exact hn5 p hp) (by decide) (by decide)
      refine ⟨_, ⟨.slice (some ⟨g, 0, none⟩) ((pgT pre).length + 1) cap, KR5, ?_, ?_, ?_, rfl⟩, s2.less (fun p hp => ?_), ?_⟩
      · rw [pgT_snoc]
        exact hrow5
      · intro x hx
        rcases List.mem_append.1 hx with h | h
        · exact hnn x h
        · rw [List.mem_singleton.1 h]
          exact fun e => nomatch e
      · intro p hp q hq
        simp only [List.mem_cons] at hq
        rcases hq with rfl | rfl | rfl | hq
        · exact hd5 p hp (b4 + 2, .cells #[v] 45) (by simp)
        · exact hd5 p hp (b4, .cells #[.slice none 0 0] 45) (by simp)
        · exact hd5 p hp (b4 + 1, .cells #[.int .i64 0] 40) (by simp)
        · exact hd5 p hp q (by simp [hq])
      · simp only [List.mem_append, List.mem_cons] at hp ⊢
        rcases hp with (h | h | h | h | h) | h
        · exact .inr (.inr (.inr (.inl h)))
        · exact .inl (by simpa using h)
        · exact .inr (.inl h)
        · exact .inr (.inr (.inl h))
        · exact .inr (.inr (.inr (.inr (.inl h))))
        · exact .inr (.inr (.inr (.inr (.inr h))))
      · intro p hp q hq
        simp only [List.mem_append, List.mem_cons] at hp
        rcases hp with h | rfl | rfl | rfl | h
        · exact hd5 p h q (by simp [hq])
        · exact hd (b4 + 2, .cells #[v] 45) (by simp) q hq
        · exact hd (b4, .cells #[.slice none 0 0] 45) (by simp) q hq
        · exact hd (b4 + 1, .cells #[.int .i64 0] 40) (by simp) q hq
        · exact hd p (by simp [h]) q hq
  case done =>
    rintro D xs KJ W hS ⟨v, KR, hrow, hnn, hdj, rfl⟩ hs hd hB
    have e4 := hs.lies (b4, .cells #[.slice none 0 0] 45) (by simp)
    have e5 := hs.lies (b4 + 1, .cells #[.int .i64 0] 40) (by simp)
    have e6 := hs.lies (b4 + 2, .cells #[v] 45) (by simp)
    have eD := hs.lies (D, .deferred (some [])) (by simp)
    simp only at e4 e5 e6 eD
    obtain ⟨va, vn, vc, rfl⟩ := hrow.form
    have c6 : W.cell? ⟨b4 + 2, 0, none⟩ = some (.slice va vn vc) := cell_of_row W (b4 + 2) 0 _ _ _ e6
    have c4 : W.cell? ⟨b4, 0, none⟩ = some (.slice none 0 0) := cell_of_row W b4 0 _ _ _ e4
    have g4 := frozen_of_row W b4 0 _ _ e4
    have e5' : (W.setCell ⟨b4, 0, none⟩ (.slice va vn vc)).heap[b4 + 1]? = some (.cells #[.int .i64 0] 40) := (heap_setCell_other W ⟨b4, 0, none⟩ _ _ (by show b4 + 1 ≠ b4; omega)).trans e5
    have c5 : (W.setCell ⟨b4, 0, none⟩ (.slice va vn vc)).cell? ⟨b4 + 1, 0, none⟩ = some (.int .i64 0) := cell_of_row _ (b4 + 1) 0 _ _ _ e5'
    have g5 := frozen_of_row _ (b4 + 1) 0 _ _ e5'
    gi_wp2
    obtain ⟨W2, hW2⟩ : ∃ W2, (W.setCell ⟨b4, 0, none⟩ (.slice va vn vc)).setCell ⟨b4 + 1, 0, none⟩ (.int .i64 0) = W2 := ⟨_, rfl⟩
    rw [hW2]
    have nR : ∀ p ∈ KR ++ (K ++ ((D, .deferred (some [])) :: kiOf bp first (b4 + 3 + 1) (b4 + 3))), p.1 ≠ b4 ∧ p.1 ≠ b4 + 1 ∧ p.1 ≠ b4 + 2 := fun p hp => by
      simp only [List.mem_append] at hp
      rcases hp with h | h | h
      · exact ⟨hdj p h (b4, .cells #[.slice none 0 0] 45) (by simp), hdj p h (b4 + 1, .cells #[.int .i64 0] 40) (by simp), hdj p h (b4 + 2, .cells #[.slice va vn vc] 45) (by simp)⟩
      · have := hlK p h
        omega
      · exact ⟨fun e => hd (b4, .cells #[.slice none 0 0] 45) (by simp) p h e.symm, fun e => hd (b4 + 1, .cells #[.int .i64 0] 40) (by simp) p h e.symm, fun e => hd (b4 + 2, .cells #[.slice va vn vc] 45) (by simp) p h e.symm⟩
    have s1 : RdK w0 bp b ((b4, .cells #[.slice none 0 0] 45) :: (b4 + 1, .cells #[.int .i64 0] 40) :: (KR ++ (K ++ ((D, .deferred (some [])) :: kiOf bp first (b4 + 3 + 1) (b4 + 3))))) W := hs.less (fun p hp => by
      simp only [List.mem_append, List.mem_cons] at hp ⊢
      rcases hp with h | h | h | h | h | h <;> simp [h])
    have s2 := s1.setK (.slice va vn vc) hB4 (fun p hp => by
      simp only [List.mem_cons] at hp
      rcases hp with rfl | hp
      · show b4 + 1 ≠ b4; omega
      · exact (nR p hp).1) (by decide) (by decide)
    have s3 : RdK w0 bp b ((b4 + 1, .cells #[.int .i64 0] 40) :: (b4, .cells #[.slice va vn vc] 45) :: (KR ++ (K ++ ((D, .deferred (some [])) :: kiOf bp first (b4 + 3 + 1) (b4 + 3))))) _ := s2.less (fun p hp => by
      simp only [List.mem_cons] at hp ⊢
      rcases hp with h | h | h <;> simp [h])
    have s4 := s3.setK (.int .i64 0) (by omega) (fun p hp => by
      simp only [List.mem_cons] at hp
      rcases hp with rfl | hp
      · show b4 ≠ b4 + 1; omega
      · exact (nR p hp).2.1) (by decide) (by decide)
    rw [hW2] at s4
    have s5 : RdK w0 bp b ((D, .deferred (some [])) :: (b4 + 1, .cells #[.int .i64 0] 40) :: (b4, .cells #[.slice va vn vc] 45) :: (KR ++ K)) W2 := s4.less (fun p hp => by
      simp only [List.mem_append, List.mem_cons] at hp ⊢
      rcases hp with h | h | h | h | h <;> simp [h])
    have hKD := s5.lies _ (List.mem_cons_self ..)
    have s6 := (rd_keeper w0 bp b).put (.deferred none) s5 hB rfl (fun p hp => by
      simp only [List.mem_append, List.mem_cons] at hp
      rcases hp with rfl | rfl | h | h
      · exact hd (b4 + 1, .cells #[.int .i64 0] 40) (by simp) (D, .deferred (some [])) (by simp)
      · exact hd (b4, .cells #[.slice none 0 0] 45) (by simp) (D, .deferred (some [])) (by simp)
      · exact hd p (by simp [h]) (D, .deferred (some [])) (by simp)
      · exact hd p (by simp [h]) (D, .deferred (some [])) (by simp))
    have x4 := s6.cell (g := b4) (v := .slice va vn vc) (t := 45) (by simp)
    have x5 := s6.cell (g := b4 + 1) (v := .int .i64 0) (t := 40) (by simp)
    have ht := told_done hS hnn
    subst ht
    have hval : pgT xs = l.map fun q : Nat => Value.int .i64 (q : Int) := pgT_some xs l (by have := hS; unfold STold told at this; simpa using this)
    rw [hval] at hrow
    refine ⟨by simp, .inl ⟨_, _, rfl, run_takeDeferred hKD, ?_⟩⟩
    refine ⟨_, resCC rfl _ _ b4 (b4 + 1) (.slice va vn vc) (.int .i64 0) rfl rfl ?_ ?_, _, _, rfl, KR, hidI ⟨s6.less (fun p hp => by simp only [List.mem_append, List.mem_cons] at hp ⊢; rcases hp with h | h <;> simp [h]), hdj.mono (fun _ h => h) (fun p hp => by simp [hp]), .inr ⟨rfl, rfl, hrow⟩⟩⟩
    · unfold loadVar
      go_simp
    · unfold loadVar
      go_simp
  case stop =>
    rintro D c pre KJ W hSp ⟨rfl, rfl, v, KR, rfl⟩ hs hd hB
    have s5 : RdK w0 bp b ((D, .deferred (some [])) :: (b4 + 1, .cells #[.int .i64 4] 40) :: (b4, .cells #[.slice none 0 0] 45) :: K) W := hs.less (fun p hp => by
      simp only [List.mem_append, List.mem_cons] at hp ⊢
      rcases hp with h | h | h | h <;> simp [h])
    have hKD := s5.lies _ (List.mem_cons_self ..)
    have s6 := (rd_keeper w0 bp b).put (.deferred none) s5 hB rfl (fun p hp => by
      simp only [List.mem_cons] at hp
      rcases hp with rfl | rfl | h
      · exact hd (b4 + 1, .cells #[.int .i64 4] 40) (by simp) (D, .deferred (some [])) (by simp)
      · exact hd (b4, .cells #[.slice none 0 0] 45) (by simp) (D, .deferred (some [])) (by simp)
      · exact hd p (by simp [h]) (D, .deferred (some [])) (by simp))
    have x4 := s6.cell (g := b4) (v := .slice none 0 0) (t := 45) (by simp)
    have x5 := s6.cell (g := b4 + 1) (v := .int .i64 4) (t := 40) (by simp)
    gi_wp2
    refine ⟨by simp, .inl ⟨_, _, rfl, run_takeDeferred hKD, ?_⟩⟩
    refine ⟨_, resCC rfl _ _ b4 (b4 + 1) (.slice none 0 0) (.int .i64 4) rfl rfl ?_ ?_, _, _, rfl, [], hidI ⟨s6.less (fun p hp => by simp at hp; simp [hp]), fun p hp => (nomatch hp), by simp⟩⟩
    · unfold loadVar
      go_simp
    · unfold loadVar
      go_simp
end
end Go.Proofs.YthajipigppndgaaGreat

namespace Go.Proofs.YthajipigppndgaaGreat
open Go.RowKit Go.Maps
def lkCell (rest : Nat) (piece : List UInt8) : List UInt8 := [UInt8.ofNat (rest / 256), UInt8.ofNat rest] ++ piece
theorem lkCell_length (rest : Nat) (piece : List UInt8) : (lkCell rest piece).length = piece.length + 2 := by simp [lkCell]
set_option maxHeartbeats 4000000 in
set_option maxRecDepth 100000 in
theorem nbytes_any (w : World) (pg : Int) (k : UInt8) (nx rest : Nat) (ad : Option Addr) (n c : Nat) (piece : List UInt8) (hp : piece.length = n) (hb : BytesAt w ad piece) (h0 : 0 < n) (hn : n ≤ 502) (hx : nx < 4294967296) (hr : rest < 65536) :
    Calls Tryz.prog 38 #[.agg (lkV pg k.toNat nx rest ad n c)] w fun e w' => ∃ g, e = .returned (.slice (some ⟨g, 0, none⟩) 512 512) ∧ Hid (Blk w' g (Pg.pgB k nx [lkCell rest piece]) ∧ w.heap.size ≤ g ∧ Fr [] w w') := by
  have f0 : Fr [] w (w.alloc (.cells (lkV pg k.toNat nx rest ad n c) 79)) := (Fr.refl [] w).alloc _
  have z0 := heap_alloc_new w (.cells (lkV pg k.toNat nx rest ad n c) 79)
  obtain ⟨z, hz⟩ : ∃ z, w.heap.size = z := ⟨_, rfl⟩
  rw [hz] at z0
  obtain ⟨w1, hw1⟩ : ∃ w1, w.alloc (.cells (lkV pg k.toNat nx rest ad n c) 79) = w1 := ⟨_, rfl⟩
  rw [hw1] at f0 z0
  have c1 : w1.cell? ⟨z, 1, none⟩ = some (.int .u8 k.toNat) := cell_of_row w1 z 1 _ _ _ z0
  have NX := Pg.new_any w1 k
  have HZ := hidI z0
  have HF := hidI f0
  have HB := hidI hb
  have HP := hidI hp
  have HNE : Hid (ad = none → n = 0 ∧ c = 0) := hidI (fun e => by
    exfalso
    have h1 : 0 < piece.length := by omega
    obtain ⟨b, off, he, _⟩ := hb 0 (.int .u8 (piece[0]).toNat) (by simp [arr, h1])
    rw [e] at he
    cases he)
  clear hb f0 z0 hp
  unfold lkV at hw1 ⊢
  go_enter Tryz.func38, Tryz.ntmps38
  go_wp2_with (first
    | (go_at_call 87
       refine NX.mono ?_
       rintro e w2 ⟨g, rfl, b2, hg2, f2⟩
       have z2 := f2.same (by simp) HZ.out
       have c2 : w2.cell? ⟨z, 2, none⟩ = some (.int .i64 nx) := cell_of_row w2 z 2 _ _ _ z2
       have SX := Pg.setNext_yes w2 g 512 (Pg.pgB k 0 []) k 0 nx [] (by have := b2.row; rwa [show (Pg.pgB k 0 []).length = 512 from Pg.pgB_length k 0 [] (by simp [Pg.elen, Pg.enc])] at this) ⟨rfl, by simp [Pg.elen, Pg.enc], by omega⟩ hx)
    | (go_at_call 88
       refine SX.mono ?_
       rintro e w3 ⟨rfl, r3, f3⟩
       have z3 := f3.same (by simp; intro e; exact absurd (Array.getElem?_eq_some_iff.1 HZ.out).1 (by omega)) z2
       have c3 : w3.cell? ⟨z, 3, none⟩ = some (.int .i64 rest) := cell_of_row w3 z 3 _ _ _ z3
       have c4 : w3.cell? ⟨z, 4, none⟩ = some (.slice ad n c) := cell_of_row w3 z 4 _ _ _ z3
       have fB : Fr [] w3 (w3.alloc (.cells #[.int .u8 ((rest : Int) / 256), .int .u8 ((rest : Int) % 256)] 5)) := (Fr.refl [] w3).alloc _
       have z4 := fB.same (by simp) z3
       have c4' : (w3.alloc (.cells #[.int .u8 ((rest : Int) / 256), .int .u8 ((rest : Int) % 256)] 5)).cell? ⟨z, 4, none⟩ = some (.slice ad n c) := cell_of_row _ z 4 _ _ _ z4
       have zB := heap_alloc_new w3 (.cells #[.int .u8 ((rest : Int) / 256), .int .u8 ((rest : Int) % 256)] 5)
       have OW : Hid (Own w3 (w3.alloc (.cells #[.int .u8 ((rest : Int) / 256), .int .u8 ((rest : Int) % 256)] 5)) (.slice (some ⟨w3.heap.size, 0, none⟩) 2 2) 2 (arr [UInt8.ofNat (rest / 256), UInt8.ofNat rest]).toList) := hidI ⟨⟨by simp [arr], .inr ⟨w3.heap.size, 2, _, rfl, Nat.le_refl _, zB, by omega, by unfold maxLen; omega, rfl, by
         simp [arr]
         omega⟩⟩, fB⟩
       have F23 : Hid (Fr [] w w3) := hidI (HF.out.trans ((fr_pg f2).then (fr_pg f3) (fun i hi hm => by
         have e := List.mem_singleton.1 hm
         omega)))
       have BA : Hid (BytesAt (w3.alloc (.cells #[.int .u8 ((rest : Int) / 256), .int .u8 ((rest : Int) % 256)] 5)) ad piece) := hidI (HB.out.kept (F23.out.trans fB) (by intro b off _; simp))
       clear zB z4 fB)
    | (refine wp_appB rfl _ _ rfl w3 w3.heap.size 2 2 _ rfl OW.out ad n c piece rfl HP.out BA.out (by omega) (by omega) (fun e => HNE.out e) ?_
       intro g4 cap4 w4 ow4
       have hla : (arr [UInt8.ofNat (rest / 256), UInt8.ofNat rest]).toList ++ (arr piece).toList = (arr (lkCell rest piece)).toList := arr_append _ _
       rw [hla] at ow4
       obtain ⟨g5, c5, hv5, ba5, hg5, hc5⟩ := own_at ow4 (by omega) (by rw [lkCell_length, HP.out]; omega)
       cases hv5
       have IX := Pg.insert_ok w4 g 512 (Pg.pgB k nx []) k nx [] 0 (some ⟨g4, 0, none⟩) (2 + n) cap4 (lkCell rest piece) (r3.kept (pg_fr ow4.2) (by simp)) ⟨rfl, by simp [Pg.elen, Pg.enc], hx⟩ (by simp) (by rw [lkCell_length, HP.out]; omega) ba5 (by simp [Pg.elen, Pg.enc]; omega))
    | (go_at_call 89
       refine IX.mono ?_
       rintro e w5 ⟨rfl, r5, f5⟩))
  go_ret
  refine ⟨g, rfl, hidI ⟨?_, by have := HF.out.size; omega, (F23.out.trans ow4.2).then (fr_pg f5) (fun i hi hm => by
    have e := List.mem_singleton.1 hm
    have := HF.out.size
    omega)⟩⟩
  obtain ⟨tl, h1, h2⟩ := r5
  have hl : (Pg.pgB k nx (Pg.insC [] 0 (lkCell rest piece))).length = 512 := Pg.pgB_length k nx _ (by simp [Pg.insC, Pg.elen, Pg.enc, Pg.be2, lkCell_length, HP.out]; omega)
  have ht : tl = [] := List.eq_nil_of_length_eq_zero (by omega)
  subst ht
  show w5.heap[g]? = some (.cells (arr (Pg.pgB k nx [lkCell rest piece])) 5)
  rw [h1]
  simp [Pg.insC]
  rfl
end Go.Proofs.YthajipigppndgaaGreat

