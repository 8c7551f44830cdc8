/-
  The document's own Diff: a row of the spans at which two pages differ.
-/
import Derived.Test.YtlfpoeimgoikkaaGDiffsB
import Derived.Deep.CutRange
import Derived.Laws.OwnMore
namespace Go.Proofs.Ytlfpoeimgoikkaa
open Go.RowKit Go.Maps

/-- A span of the document's: where, how long, where its lists lie. -/
structure RSp where
  off : Nat
  n : Nat
  a1 : Option Addr
  c1 : Nat
  a2 : Option Addr
  c2 : Nat
def RSp.vals (e : RSp) : List Value := [.int .i64 0, .int .i64 (e.off : Int), .slice e.a1 e.n e.c1, .slice e.a2 e.n e.c2]
def rsv (S : List RSp) : List Value := S.flatMap RSp.vals
theorem rsv_length (S : List RSp) : (rsv S).length = S.length * 4 := by
  induction S with
  | nil => rfl
  | cons e r ih => simp [rsv, RSp.vals] at ih ⊢; omega
theorem rsv_snoc (S : List RSp) (e : RSp) : rsv (S ++ [e]) = rsv S ++ e.vals := by simp [rsv]
theorem rsv_at (S : List RSp) (i : Nat) (h : i < S.length) (k : Nat) (hk : k < 4) : (rsv S)[i * 4 + k]? = S[i].vals[k]? := by
  induction S generalizing i with
  | nil => simp at h
  | cons e r ih =>
    have hv : e.vals.length = 4 := rfl
    have he : rsv (e :: r) = e.vals ++ rsv r := by simp [rsv]
    rw [he]
    cases i with
    | zero =>
      rw [List.getElem?_append_left (by omega)]
      simp
    | succ i =>
      rw [List.getElem?_append_right (by omega), hv, show (i + 1) * 4 + k - 4 = i * 4 + k by omega]
      exact ih i (by simpa using h)
theorem tail_set {xs : List Value} {p q x y u : Value} {m : Nat} (h : xs.length = m) : (xs ++ [p, q, x, y]).set (m + 2) u = xs ++ [p, q, u, y] ∧ (xs ++ [p, q, x, y]).set (m + 3) u = xs ++ [p, q, x, u] := by
  subst h
  constructor
  · rw [List.set_append_right _ _ (by omega), Nat.add_sub_cancel_left]; rfl
  · rw [List.set_append_right _ _ (by omega), Nat.add_sub_cancel_left]; rfl
theorem tail_at {xs : List Value} {p q x y : Value} {m : Nat} (h : xs.length = m) : (xs ++ [p, q, x, y])[m + 1]? = some q ∧ (xs ++ [p, q, x, y])[m + 2]? = some x ∧ (xs ++ [p, q, x, y])[m + 3]? = some y := by
  subst h
  refine ⟨?_, ?_, ?_⟩ <;> (rw [List.getElem?_append_right (by omega), Nat.add_sub_cancel_left]; rfl)

/-- Bytes in a block of bytes. -/
def Bts (w : World) (ad : Option Addr) (l : List UInt8) : Prop := BytesAt w ad l ∧ ∀ a, ad = some a → ∃ cur, w.heap[a.block]? = some (.cells cur 5)
theorem Bts.kept {w w' : World} {ad : Option Addr} {l : List UInt8} {L : List Nat} (h : Bts w ad l) (f : Fr L w w') (hL : ∀ g ∈ L, ∀ cur, w.heap[g]? ≠ some (.cells cur 5)) : Bts w' ad l := by
  refine ⟨h.1.kept f (fun b off e hb => ?_), fun a e => ?_⟩
  · obtain ⟨cur, hc⟩ := h.2 _ e
    exact hL b hb cur hc
  · obtain ⟨cur, hc⟩ := h.2 a e
    exact ⟨cur, f.same (fun hb => hL _ hb cur hc) hc⟩
theorem Bts.keep {w w' : World} {ad : Option Addr} {l : List UInt8} (h : Bts w ad l) (f : Fr [] w w') : Bts w' ad l := h.kept f (fun _ hg => nomatch hg)
theorem bts_own {w0 w : World} {v : Value} {n : Nat} {l : List UInt8} (h : Own w0 w v n (arr l).toList) (hn : 0 < n) (hl : l.length = n) : ∃ a c, v = .slice (some a) n c ∧ Bts w (some a) l := by
  rcases h.1.2 with ⟨_, h0⟩ | ⟨g, cap, cur, hv, hb, hg, hcap, hmx, hsz, htk⟩
  · omega
  · refine ⟨⟨g, 0, none⟩, cap, hv, ?_, fun a e => by cases e; exact ⟨cur, hg⟩⟩
    intro j u hu
    refine ⟨g, 0, rfl, ?_⟩
    rw [Nat.zero_add, cell_of_row w g j _ _ _ hg]
    have hj : j < n := by
      have := (List.getElem?_eq_some_iff.1 hu).1
      simp [arr, hl] at this
      omega
    rw [← hu, ← htk, List.getElem?_take]
    simp [hj]
theorem own_made0 (w : World) : Own w (w.alloc (.cells #[] 5)) (.slice (some ⟨w.heap.size, 0, none⟩) 0 0) 0 [] :=
  ⟨⟨rfl, Or.inr ⟨w.heap.size, 0, #[], rfl, Nat.le_refl _, heap_alloc_new w _, Nat.le_refl _, by unfold maxLen; omega, rfl, rfl⟩⟩, (Fr.refl [] w).alloc _⟩
def cutL (l : List UInt8) (e : RSp) : List UInt8 := (l.drop e.off).take e.n
/-- The document's row behind i places. -/
structure RInv (w wr : World) (la lb : List UInt8) (AD : Option Addr) (N CAP : Nat) (S : List RSp) : Prop where
  own : wr.ownsRow w.heap.size 52 4 (.slice AD N CAP) N (rsv S)
  oks : ∀ e ∈ S, Bts wr e.a1 (cutL la e) ∧ Bts wr e.a2 (cutL lb e)
  fr : Fr [] w wr
theorem RInv.kept {w wr wt : World} {la lb : List UInt8} {AD : Option Addr} {N CAP : Nat} {S : List RSp} (h : RInv w wr la lb AD N CAP S) (f : Fr [] wr wt) : RInv w wt la lb AD N CAP S :=
  ⟨ownSp_kept h.own f (by simp), fun e he => ⟨(h.oks e he).1.keep f, (h.oks e he).2.keep f⟩, h.fr.trans f⟩
theorem RInv.len {w wr : World} {la lb : List UInt8} {AD : Option Addr} {N CAP : Nat} {S : List RSp} (h : RInv w wr la lb AD N CAP S) : S.length = N := by
  have := h.own.1
  rw [rsv_length] at this
  omega
/-- .. and while its last span is made. -/
structure RCut (w wr : World) (la lb : List UInt8) (g N CAP : Nat) (S : List RSp) (F : Nat) (x y : Value) : Prop where
  own : wr.ownsRow w.heap.size 52 4 (.slice (some ⟨g, 0, none⟩) (N + 1) CAP) (N + 1) (rsv S ++ [.int .i64 0, .int .i64 (F : Int), x, y])
  oks : ∀ e ∈ S, Bts wr e.a1 (cutL la e) ∧ Bts wr e.a2 (cutL lb e)
  fr : Fr [] w wr
theorem RCut.kept {w wr wt : World} {la lb : List UInt8} {g N CAP : Nat} {S : List RSp} {F : Nat} {x y : Value} (h : RCut w wr la lb g N CAP S F x y) (f : Fr [] wr wt) : RCut w wt la lb g N CAP S F x y :=
  ⟨ownSp_kept h.own f (by simp), fun e he => ⟨(h.oks e he).1.keep f, (h.oks e he).2.keep f⟩, h.fr.trans f⟩
theorem RCut.len {w wr : World} {la lb : List UInt8} {g N CAP : Nat} {S : List RSp} {F : Nat} {x y : Value} (h : RCut w wr la lb g N CAP S F x y) : S.length = N := by
  have := h.own.1
  rw [List.length_append, rsv_length] at this
  simp at this
  omega
theorem RCut.blk {w wr : World} {la lb : List UInt8} {g N CAP : Nat} {S : List RSp} {F : Nat} {x y : Value} (h : RCut w wr la lb g N CAP S F x y) : w.heap.size ≤ g ∧ ∃ cur, wr.heap[g]? = some (.cells cur 52) ∧ cur.toList.take ((N + 1) * 4) = rsv S ++ [.int .i64 0, .int .i64 (F : Int), x, y] := by
  rcases h.own.2 with ⟨hv, _⟩ | ⟨g', c, cur, hv, hb, hh, _, _, _, ht⟩
  · cases hv
  · cases hv
    exact ⟨hb, cur, hh, ht⟩
theorem RCut.cells {w wr : World} {la lb : List UInt8} {g N CAP : Nat} {S : List RSp} {F : Nat} {x y : Value} (h : RCut w wr la lb g N CAP S F x y) :
    wr.cell? ⟨g, N * 4 + 1, none⟩ = some (.int .i64 (F : Int)) ∧ wr.cell? ⟨g, N * 4 + 2, none⟩ = some x ∧ wr.cell? ⟨g, N * 4 + 3, none⟩ = some y ∧ (∀ j, wr.frozen? ⟨g, j, none⟩ = false) := by
  obtain ⟨-, cur, hg, ht⟩ := h.blk
  have hl := h.len
  have hlen : (rsv S).length = N * 4 := by rw [rsv_length, hl]
  obtain ⟨t1, t2, t3⟩ := tail_at (p := .int .i64 0) (q := .int .i64 (F : Int)) (x := x) (y := y) hlen
  have key : ∀ k v, (rsv S ++ [.int .i64 0, .int .i64 (F : Int), x, y])[k]? = some v → wr.cell? ⟨g, k, none⟩ = some v := fun k v hv => cells_vals hg ht k v hv
  exact ⟨key _ _ t1, key _ _ t2, key _ _ t3, fun j => frozen_of_row wr g j _ _ hg⟩
theorem RCut.set {w wr : World} {la lb : List UInt8} {g N CAP : Nat} {S : List RSp} {F : Nat} {x y : Value} (h : RCut w wr la lb g N CAP S F x y) (u : Value) :
    RCut w (wr.setCell ⟨g, N * 4 + 2, none⟩ u) la lb g N CAP S F u y ∧ RCut w (wr.setCell ⟨g, N * 4 + 3, none⟩ u) la lb g N CAP S F x u := by
  have hl := h.len
  have hlen : (rsv S).length = N * 4 := by rw [rsv_length, hl]
  obtain ⟨e1, e2⟩ := tail_set (p := .int .i64 0) (q := .int .i64 (F : Int)) (x := x) (y := y) (u := u) hlen
  obtain ⟨hb, cur, hg, -⟩ := h.blk
  have hno : ∀ g' ∈ [g], ∀ c, wr.heap[g']? ≠ some (.cells c 5) := by
    intro g' hg' c hc
    simp at hg'
    subst hg'
    rw [hg] at hc
    cases hc
  have mk : ∀ j, Fr [g] wr (wr.setCell ⟨g, j, none⟩ u) := fun j => (Fr.refl [g] wr).setCell _ _ (fun _ => by simp)
  refine ⟨⟨?_, fun e he => ⟨(h.oks e he).1.kept (mk _) hno, (h.oks e he).2.kept (mk _) hno⟩, h.fr.then (mk _) (fun i hi hm => by simp at hm; omega)⟩, ⟨?_, fun e he => ⟨(h.oks e he).1.kept (mk _) hno, (h.oks e he).2.kept (mk _) hno⟩, h.fr.then (mk _) (fun i hi hm => by simp at hm; omega)⟩⟩
  · have := (h.own.stored (N * 4 + 2) u).1
    rw [e1] at this
    exact this
  · have := (h.own.stored (N * 4 + 3) u).1
    rw [e2] at this
    exact this

theorem dwalk_succ (a b : List UInt8) (i : Nat) : dwalk a b (i + 1) = if byteAt a i = byteAt b i then dwalk a b i else if (dwalk a b i).2.2 = 0 then ((dwalk a b i).1, i, i + 1) else if 7 < i - (dwalk a b i).2.2 then ((dwalk a b i).1 ++ [((dwalk a b i).2.1, (dwalk a b i).2.2)], i, i + 1) else ((dwalk a b i).1, (dwalk a b i).2.1, i + 1) := by
  rw [dwalk]

set_option maxHeartbeats 400000 in
set_option maxRecDepth 100000 in
theorem rdiff_len (w : World) (a1 a2 : Option Addr) (n1 n2 c1 c2 : Nat) (h : ¬ (n1 = 512 ∧ n2 = 512)) :
    Calls Try.prog 22 #[.slice a1 n1 c1, .slice a2 n2 c2] w fun e w' => e = .returned (.slice none 0 0) ∧ w' = w := by
  by_cases h1 : n1 = 512
  · have q1 : ((n1 : Int) != 512) = false := by rw [bne_eq_false_iff_eq]; omega
    have q2 : ((n2 : Int) != 512) = true := by rw [bne_iff_ne]; omega
    clear h1 h
    go_enter Try.func22, Try.ntmps22
    go_wp2_with fail
    go_ret
    exact ⟨rfl, rfl⟩
  · have q1 : ((n1 : Int) != 512) = true := by rw [bne_iff_ne]; omega
    clear h1 h
    go_enter Try.func22, Try.ntmps22
    go_wp2_with fail
    go_ret
    exact ⟨rfl, rfl⟩

section
variable {ops : Array Oper} {rest : List Oper} {o : Oper} {a : Act} {w : World} {Q : Exit → Act → World → Prop}
theorem wp_appSp (hgd : o.guard = none) (s x : Operand) (ho : o.op = .call { callee := .builtin .append, args := #[s, x], argTypes := #[37, 37] }) (w0 : World) (ad0 : Option Addr) (n cap : Nat) (xs : List Value) (b : Nat) (us : List Value) (hs : a.eval s = .slice ad0 n cap) (hx : a.eval x = .slice (some ⟨b, 0, none⟩) 1 1)
    (hown : w.ownsRow w0.heap.size 52 4 (.slice ad0 n cap) n xs) (f0 : Fr [] w0 w) (hb : w.heap[b]? = some (.cells us.toArray 52)) (hu : us.length = 4) (h1 : ∀ u ∈ us, u.oneCell' = true) (hm : n + 1 ≤ 10000)
    (h : ∀ g cap' w', w'.ownsRow w0.heap.size 52 4 (.slice (some ⟨g, 0, none⟩) (n + 1) cap') (n + 1) (xs ++ us) → Fr (Value.ownBlock (.slice ad0 n cap)).toList w w' → Fr [] w0 w' → wpList Try.prog ops Q rest (a.put o.dst (.slice (some ⟨g, 0, none⟩) (n + 1) cap')) w') : wpList Try.prog ops Q (o :: rest) a w :=
  wpList_plain hgd fun K hK => by
    obtain ⟨g, c', w', hrun, h2, h3, h4⟩ := run_appSp o.type w0 ad0 n cap xs hown f0 b us hb hu h1 hm
    unfold Oper.wp execOp
    simp [ho, resolve, invoke, builtin, hs, hx, hrun, Result.andThen]
    exact hK _ _ (h _ _ _ h2 h3 h4)
end
def ends (e : RSp) : Nat × Nat := (e.off, e.off + e.n)

set_option maxHeartbeats 2000000 in
set_option maxRecDepth 100000 in
theorem rdiff_512 (w : World) (g1 o1 c1 g2 o2 c2 : Nat) (la lb : List UInt8) (hla : la.length = 512) (hlb : lb.length = 512) (hc1 : 512 ≤ c1) (hc2 : 512 ≤ c2) (h1 : BytesAt w (some ⟨g1, o1, none⟩) la) (h2 : BytesAt w (some ⟨g2, o2, none⟩) lb) :
    Calls Try.prog 22 #[.slice (some ⟨g1, o1, none⟩) 512 c1, .slice (some ⟨g2, o2, none⟩) 512 c2] w fun e w' => ∃ AD N CAP S, e = .returned (.slice AD N CAP) ∧ RInv w w' la lb AD N CAP S ∧ S.map ends = diffS la lb := by
  have HA := (show Hid (la.length = 512) from hla)
  have HB := (show Hid (lb.length = 512) from hlb)
  have H1 := (show Hid (BytesAt w (some ⟨g1, o1, none⟩) la) from h1)
  have H2 := (show Hid (BytesAt w (some ⟨g2, o2, none⟩) lb) from h2)
  clear hla hlb h1 h2
  go_enter Try.func22, Try.ntmps22
  go_wp2_with fail
  go_loopw [5, 6, 7] (fun v5 v6 v7 wr => ∃ (i : Nat) (AD : Option Addr) (N CAP : Nat) (S : List RSp), i ≤ 512 ∧ v7 = .int .i64 i ∧ v5 = .slice AD N CAP ∧ RInv w wr la lb AD N CAP S ∧ S.map ends = spansOf (dwalk la lb i) ∧ v6 = .int .i64 (if (dwalk la lb i).2.2 = 0 then -100 else ((dwalk la lb i).2.2 : Int) - 1)) (fun _ _ v7 _ => 512 - (intOf v7).toNat)
  case atStart => exact ⟨0, none, 0, 0, [], by omega, rfl, rfl, ⟨⟨rfl, Or.inl ⟨rfl, rfl⟩⟩, fun e he => (nomatch he), Fr.refl _ _⟩, rfl, rfl⟩
  case round =>
    obtain ⟨i, AD, N, CAP, S, hi, rfl, rfl, inv, hmap, rfl⟩ := hrel
    have ok := dwalk_ok la lb i
    have hdw := dwalk_succ la lb i
    obtain ⟨⟨D, F, t⟩, HDW⟩ : ∃ x, Hid (dwalk la lb i = x) := ⟨_, rfl⟩
    rw [HDW.out] at ok hdw hmap ⊢
    have hle : t ≤ i := ok.le
    have INV := (show Hid (RInv w wr la lb AD N CAP S) from inv)
    have HMAP := (show Hid (S.map ends = spansOf (D, F, t)) from hmap)
    have hSN : S.length = N := inv.len
    have hfew : 9 * D.length ≤ F := ok.few
    have HOK := (show Hid (DOk la lb i (D, F, t)) from ok)
    have HSU := (show Hid (dwalk la lb (i + 1) = _) from hdw)
    have hDN : N ≤ D.length + 1 := by
      have := congrArg List.length hmap
      rw [List.length_map, hSN] at this
      unfold spansOf at this
      split at this
      · dsimp only at this
        omega
      · dsimp only at this
        rw [List.length_append] at this
        simp at this
        omega
    have hFi : F ≤ i := by
      by_cases h0 : t = 0
      · have := (ok.none h0).2
        dsimp only at this
        omega
      · have := (ok.cur h0).1
        dsimp only at this
        omega
    obtain ⟨La, HLa⟩ : ∃ La : Int, Hid ((if t = 0 then (-100 : Int) else (t : Int) - 1) = La) := ⟨_, rfl⟩
    have e0 : (if (D, F, t).2.2 = 0 then (-100 : Int) else (((D, F, t).2.2 : Nat) : Int) - 1) = La := HLa.out
    rw [e0]
    have hLa : -100 ≤ La ∧ La < 512 := by rw [← HLa.out]; split <;> omega
    clear inv hmap ok hdw e0
    by_cases hlt : i < 512
    · have hlt' : (i : Int) < 512 := by omega
      have hi0 : (0 : Int) ≤ (i : Int) := by omega
      obtain ⟨_, _, e1, q1⟩ := (H1.out.kept INV.out.fr (by simp)).at i (by rw [HA.out]; exact hlt)
      cases e1
      obtain ⟨_, _, e2, q2⟩ := (H2.out.kept INV.out.fr (by simp)).at i (by rw [HB.out]; exact hlt)
      cases e2
      obtain ⟨X, HX⟩ : ∃ X, Hid ((byteAt la i).toNat = X) := ⟨_, rfl⟩
      obtain ⟨Y, HY⟩ : ∃ Y, Hid ((byteAt lb i).toNat = Y) := ⟨_, rfl⟩
      rw [HX.out] at q1
      rw [HY.out] at q2
      by_cases hxy : X = Y
      · have hxy' : ((X : Int) == (Y : Int)) = true := by rw [beq_iff_eq]; omega
        have HE : Hid (dwalk la lb (i + 1) = (D, F, t)) := by
          have e : byteAt la i = byteAt lb i := by
            apply UInt8.toNat_inj.1
            rw [HX.out, HY.out, hxy]
          show _ = _
          rw [HSU.out, if_pos e]
        clear hxy
        go_wp2_with fail
        go_quiet (fail)
        go_wp2_with fail
        refine ⟨⟨i + 1, AD, N, CAP, S, by omega, by go_num, rfl, INV.out.kept ((Fr.refl [] _).drewN nq), by rw [HE.out]; exact HMAP.out, by rw [HE.out]; show _ = Value.int .i64 (if t = 0 then (-100 : Int) else (t : Int) - 1); rw [HLa.out]⟩, by simp [intOf]; omega⟩
      · have hxy' : ((X : Int) == (Y : Int)) = false := by rw [beq_eq_false_iff_ne]; omega
        have HSV : Hid (dwalk la lb (i + 1) = if t = 0 then (D, i, i + 1) else if 7 < i - t then (D ++ [(F, t)], i, i + 1) else (D, F, i + 1)) := by
          have e : ¬ byteAt la i = byteAt lb i := by
            intro e
            apply hxy
            rw [← HX.out, ← HY.out, e]
          show _ = _
          rw [HSU.out, if_neg e]
        clear hxy
        go_wp2_with fail
        go_quiet (fail)
        have INVQ := (show Hid (RInv w (wr.drewN nq) la lb AD N CAP S) from INV.out.kept ((Fr.refl [] _).drewN nq))
        clear q1 q2
        generalize wr.drewN nq = wq at INVQ ⊢
        have hw1 : IntKind.i64.wrap ((i : Int) - La) = (i : Int) - La := by simp [IntKind.wrap, IntKind.signed, IntKind.bits]; omega
        have hw2 : IntKind.i64.wrap ((i : Int) - La - 1) = (i : Int) - La - 1 := by simp [IntKind.wrap, IntKind.signed, IntKind.bits]; omega
        go_upto_if 34 with fail
        go_cut [5] from 17 to 71 (fun s5 wx => ∃ (g N' CAP' : Nat) (S0 : List RSp) (F' : Nat) (x y : Value), s5 = .slice (some ⟨g, 0, none⟩) (N' + 1) CAP' ∧ RCut w wx la lb g N' CAP' S0 F' x y ∧ F' ≤ i ∧ N' ≤ 60 ∧ dwalk la lb (i + 1) = (S0.map ends, F', i + 1))
        case first =>
          by_cases hnew : t = 0 ∨ 7 < i - t
          · have hge : (8 : Int) ≤ (i : Int) - La - 1 := by rw [← HLa.out]; split <;> omega
            have HST : Hid (dwalk la lb (i + 1) = (S.map ends, i, i + 1)) := by
              show _ = _
              rw [HSV.out, HMAP.out]
              unfold spansOf
              by_cases h0 : t = 0
              · rw [if_pos h0, if_pos h0]
              · rw [if_neg h0, if_pos (by omega), if_neg h0]
            clear hnew
            go_wp2_with ((refine wp_appSp rfl _ _ rfl w AD N CAP (rsv S) wq.heap.size [.int .i64 0, .int .i64 (i : Int), .slice none 0 0, .slice none 0 0] rfl rfl (INVQ.out.kept ((Fr.refl [] wq).alloc _)).own (INVQ.out.fr.alloc _) (heap_alloc_new wq _) rfl (by intro u hu; simp at hu; rcases hu with rfl | rfl | rfl | rfl <;> rfl) (by omega) ?_; intro g6 cap6 w6 ow6 f6 F06))
            go_meet
            case rel =>
              have k5 := INVQ.out.kept ((Fr.refl [] wq).alloc (.cells #[.int .i64 0, .int .i64 (i : Int), .slice none 0 0, .slice none 0 0] 52))
              have hno : ∀ g ∈ (Value.ownBlock (.slice AD N CAP)).toList, ∀ c, (wq.alloc (.cells #[.int .i64 0, .int .i64 (i : Int), .slice none 0 0, .slice none 0 0] 52)).heap[g]? ≠ some (.cells c 5) := by
                intro g hg c hc
                obtain ⟨cur, hh⟩ := ownSp_cells k5.own hg
                rw [hh] at hc
                cases hc
              exact ⟨g6, N, cap6, S, i, _, _, rfl, ⟨ow6, fun e he => ⟨(k5.oks e he).1.kept f6 hno, (k5.oks e he).2.kept f6 hno⟩, F06⟩, Nat.le_refl _, by omega, HST.out⟩
          · have hge : ¬ (8 : Int) ≤ (i : Int) - La - 1 := by rw [← HLa.out, if_neg (by omega)]; omega
            have hge' : (i : Int) - La - 1 < 8 := by omega
            have HST : Hid (dwalk la lb (i + 1) = (D, F, i + 1) ∧ S.map ends = D ++ [(F, t)]) := by
              refine ⟨?_, ?_⟩
              · rw [HSV.out, if_neg (by omega), if_neg (by omega)]
              · rw [HMAP.out]
                unfold spansOf
                rw [if_neg (by show ¬ t = 0; omega)]
            clear hnew
            go_wp2_with fail
            go_meet
            case rel =>
              obtain ⟨hs1, hs2⟩ := HST.out
              have hne : S ≠ [] := by
                rintro rfl
                simp at hs2
              obtain ⟨S0, e, rfl⟩ : ∃ S0 e, S = S0 ++ [e] := ⟨_, _, (List.dropLast_concat_getLast hne).symm⟩
              rw [List.map_append] at hs2
              have hs3 := List.append_inj' hs2 rfl
              have he : ends e = (F, t) := by simpa using hs3.2
              have hoff : e.off = F := congrArg Prod.fst he
              have hN1 : S0.length + 1 = N := by simpa using hSN
              have ow := INVQ.out.own
              have hAD : ∃ g, AD = some ⟨g, 0, none⟩ := by
                rcases ow.2 with ⟨hv, h0⟩ | ⟨g, c, cur, hv, _⟩
                · omega
                · cases hv
                  exact ⟨g, rfl⟩
              obtain ⟨g, rfl⟩ := hAD
              subst hN1
              rw [rsv_snoc] at ow
              refine ⟨g, S0.length, CAP, S0, F, .slice e.a1 e.n e.c1, .slice e.a2 e.n e.c2, rfl, ⟨?_, fun e' he' => INVQ.out.oks e' (List.mem_append_left _ he'), INVQ.out.fr⟩, hFi, by omega, by rw [hs1, hs3.1]⟩
              rw [← hoff]
              exact ow
        case rest =>
          obtain ⟨g, N', CAP', S0, F', x, y, rfl, rc, hF', hN', hdw'⟩ := hcut
          have RC := (show Hid (RCut w wc la lb g N' CAP' S0 F' x y) from rc)
          have HDW' := (show Hid (dwalk la lb (i + 1) = (S0.map ends, F', i + 1)) from hdw')
          obtain ⟨k1, -, -, -⟩ := (rc.kept ((Fr.refl [] wc).alloc (.cells #[] 5))).cells
          have hwn : IntKind.i64.wrap ((N' : Int) + 1 - 1) = (N' : Int) := by simp [IntKind.wrap, IntKind.signed, IntKind.bits]; omega
          have hwi : IntKind.i64.wrap ((i : Int) + 1) = (i : Int) + 1 := by simp [IntKind.wrap, IntKind.signed, IntKind.bits]; omega
          have hE1 : F' < i + 1 := by omega
          have hE2 : i + 1 ≤ 512 := by omega
          have b0 : (0 : Int) ≤ (F' : Int) := by omega
          have b1 : (F' : Int) ≤ (i : Int) + 1 := by omega
          have b2 : (i : Int) + 1 ≤ (c1 : Int) := by omega
          have b3 : (i : Int) + 1 ≤ (c2 : Int) := by omega
          have ne1 : ¬ c1 = F' := by omega
          have ne2 : ¬ c2 = F' := by omega
          have hN0 : (0 : Int) ≤ (N' : Int) := by omega
          have hN1 : (N' : Int) < (N' : Int) + 1 := by omega
          have HLA : Hid (((la.drop F').take (i + 1 - F')).length = i + 1 - F') := by show _ = _; rw [List.length_take, List.length_drop, HA.out]; omega
          have HLB : Hid (((lb.drop F').take (i + 1 - F')).length = i + 1 - F') := by show _ = _; rw [List.length_take, List.length_drop, HB.out]; omega
          have HSA : Hid (∀ w', Fr [] w w' → BytesAt w' (some ⟨g1, o1 + F', none⟩) ((la.drop F').take (i + 1 - F'))) := fun w' f => (H1.out.kept f (by simp)).sub F' (i + 1 - F')
          have HSB : Hid (∀ w', Fr [] w w' → BytesAt w' (some ⟨g2, o2 + F', none⟩) ((lb.drop F').take (i + 1 - F'))) := fun w' f => (H2.out.kept f (by simp)).sub F' (i + 1 - F')
          clear rc hdw'
          go_upto_region 13 with ((refine wp_app rfl _ _ rfl wc _ 0 [] rfl (own_made0 wc) _ (i + 1 - F') _ ((la.drop F').take (i + 1 - F')) rfl HLA.out (HSA.out _ (RC.out.fr.alloc _)) (by omega) (fun _ => ⟨_, rfl⟩) ?_; intro v8 w8 o8; rw [Nat.zero_add, List.nil_append] at o8; obtain ⟨ad8, c8, rfl, b8⟩ := bts_own o8 (by omega) HLA.out; have rc8 := RC.out.kept o8.2; obtain ⟨-, x2, -, z8⟩ := rc8.cells; have z2 := z8 (N' * 4 + 2)))
          have hgt := (rc8.blk).2
          obtain ⟨cur8, hh8, -⟩ := hgt
          have rc9 := (rc8.set (.slice (some ad8) (i + 1 - F') c8)).1
          have fs9 : Fr [g] w8 (w8.setCell ⟨g, N' * 4 + 2, none⟩ (.slice (some ad8) (i + 1 - F') c8)) := (Fr.refl [g] w8).setCell _ _ (fun _ => by simp)
          have b9 := b8.kept fs9 (by
            intro g' hg' c hc
            simp at hg'
            subst hg'
            rw [hh8] at hc
            cases hc)
          clear x2 z2 z8 rc8 o8 b8 k1 hh8 fs9
          generalize w8.setCell ⟨g, N' * 4 + 2, none⟩ (.slice (some ad8) (i + 1 - F') c8) = w9 at rc9 b9 ⊢
          obtain ⟨k1, -, -, -⟩ := (rc9.kept ((Fr.refl [] w9).alloc (.cells #[] 5))).cells
          have RC9 := (show Hid (RCut w w9 la lb g N' CAP' S0 F' (.slice (some ad8) (i + 1 - F') c8) y) from rc9)
          have B9 := (show Hid (Bts w9 (some ad8) ((la.drop F').take (i + 1 - F'))) from b9)
          clear rc9 b9
          go_wp2_with ((refine wp_app rfl _ _ rfl w9 _ 0 [] rfl (own_made0 w9) _ (i + 1 - F') _ ((lb.drop F').take (i + 1 - F')) rfl HLB.out (HSB.out _ (RC9.out.fr.alloc _)) (by omega) (fun _ => ⟨_, rfl⟩) ?_; intro v7 w7 o7; rw [Nat.zero_add, List.nil_append] at o7; obtain ⟨ad7, c7, rfl, b7⟩ := bts_own o7 (by omega) HLB.out; have rc7 := RC9.out.kept o7.2; obtain ⟨-, -, x3, z7⟩ := rc7.cells; have z3 := z7 (N' * 4 + 3)))
          have rc6 := (rc7.set (.slice (some ad7) (i + 1 - F') c7)).2
          obtain ⟨cur7, hh7, -⟩ := (rc7.blk).2
          have fs6 : Fr [g] w7 (w7.setCell ⟨g, N' * 4 + 3, none⟩ (.slice (some ad7) (i + 1 - F') c7)) := (Fr.refl [g] w7).setCell _ _ (fun _ => by simp)
          have hno : ∀ g' ∈ [g], ∀ c, w7.heap[g']? ≠ some (.cells c 5) := by
            intro g' hg' c hc
            simp at hg'
            subst hg'
            rw [hh7] at hc
            cases hc
          have k6 := b7.kept fs6 hno
          have j6 := (B9.out.keep o7.2).kept fs6 hno
          have hS0 := rc6.len
          refine ⟨⟨i + 1, some ⟨g, 0, none⟩, N' + 1, CAP', S0 ++ [⟨F', i + 1 - F', some ad8, c8, some ad7, c7⟩], by omega, by go_num, rfl, ⟨by rw [rsv_snoc]; exact rc6.own, ?_, rc6.fr⟩, ?_, ?_⟩, by simp [intOf]; omega⟩
          · intro e he
            rcases List.mem_append.1 he with h | h
            · exact rc6.oks e h
            · simp at h
              subst h
              exact ⟨j6, k6⟩
          · rw [HDW'.out, List.map_append]
            unfold spansOf
            rw [if_neg (by show ¬ i + 1 = 0; omega)]
            show S0.map ends ++ [(F', F' + (i + 1 - F'))] = S0.map ends ++ [(F', i + 1)]
            rw [show F' + (i + 1 - F') = i + 1 by omega]
          · rw [HDW'.out]
            show Value.int .i64 (i : Int) = Value.int .i64 (if i + 1 = 0 then (-100 : Int) else ((i + 1 : Nat) : Int) - 1)
            rw [if_neg (by omega)]
            congr 1
            omega
    · obtain rfl : i = 512 := by omega
      go_wp2_with fail
      go_ret
      exact ⟨AD, N, CAP, rfl, S, INV.out, by rw [HMAP.out]; unfold diffS; rw [HDW.out]⟩

end Go.Proofs.Ytlfpoeimgoikkaa
