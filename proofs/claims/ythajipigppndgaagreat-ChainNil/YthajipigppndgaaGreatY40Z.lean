/-
  The iterator over a chain's links, walked.
-/
import Derived.Test.YthajipigppndgaaGreatY39Z
namespace Go.Proofs.YthajipigppndgaaGreat
open Go.RowKit Go.Maps
inductive Wk (n : Nat) (V : Pages) : Int → Nat → Option Int → List Nat → Bool → Prop
  | bad (k : Int) (kind : Nat) (want : Option Int) (h : ∀ q : Nat, k = q → LkAt n V q kind → ∃ r, want = some r ∧ alOf (V q) ≠ r) : Wk n V k kind want [] false
  | last (q kind : Nat) (want : Option Int) (h : LkAt n V q kind) (hw : ∀ r, want = some r → alOf (V q) = r) (h0 : rsOf (V q) = 0) : Wk n V q kind want [q] true
  | more (q kind : Nat) (want : Option Int) (l : List Nat) (t : Bool) (h : LkAt n V q kind) (hw : ∀ r, want = some r → alOf (V q) = r) (h0 : rsOf (V q) ≠ 0) (hl : Wk n V (Pg.nextOf (V q)) 65 (some (rsOf (V q))) l t) : Wk n V q kind want (q :: l) t
def WkAt (n : Nat) (V : Pages) (q : Nat) (l : List Nat) (t : Bool) : Prop := (rsOf (V q) = 0 ∧ l = [] ∧ t = true) ∨ (rsOf (V q) ≠ 0 ∧ Wk n V (Pg.nextOf (V q)) 65 (some (rsOf (V q))) l t)
theorem Wk.inv {n : Nat} {V : Pages} {k : Int} {kind : Nat} {want : Option Int} {l : List Nat} {t : Bool} (h : Wk n V k kind want l t) :
    (l = [] ∧ t = false ∧ ∀ q : Nat, k = q → LkAt n V q kind → ∃ r, want = some r ∧ alOf (V q) ≠ r) ∨ ∃ q l2, k = (q : Nat) ∧ l = q :: l2 ∧ LkAt n V q kind ∧ (∀ r, want = some r → alOf (V q) = r) ∧ WkAt n V q l2 t := by
  cases h with
  | bad _ _ _ h => exact .inl ⟨rfl, rfl, h⟩
  | last q _ _ h hw h0 => exact .inr ⟨q, [], rfl, rfl, h, hw, .inl ⟨h0, rfl, rfl⟩⟩
  | more q _ _ l _ h hw h0 hl => exact .inr ⟨q, l, rfl, rfl, h, hw, .inr ⟨h0, hl⟩⟩
def valOf (V : Pages) (l : List Nat) : List UInt8 := l.flatMap fun q => (cellOf (V q)).drop 2
theorem wk_val {n : Nat} {V : Pages} {k : Int} {kind : Nat} {want : Option Int} {l : List Nat} {t : Bool} (h : Wk n V k kind want l t) : (∀ r, want = some r → 0 ≤ r → ((valOf V l).length : Int) ≤ r ∧ (t = true → ((valOf V l).length : Int) = r)) ∧ (∀ q l2, l = q :: l2 → ((valOf V l).length : Int) ≤ alOf (V q) ∧ (t = true → ((valOf V l).length : Int) = alOf (V q))) ∧ ∀ q ∈ l, LkAt n V q (Pg.kindOf (V q)) := by
  induction h with
  | bad k kind want h => exact ⟨fun r _ hr => ⟨by simpa [valOf] using hr, fun e => (nomatch e)⟩, fun q l2 e => (nomatch e), fun q hq => (nomatch hq)⟩
  | last q kind want h hw h0 =>
    have e : ((valOf V [q]).length : Int) = alOf (V q) := by unfold valOf alOf; rw [h0]; simp
    refine ⟨fun r hr _ => ⟨by rw [e, hw r hr]; exact Int.le_refl _, fun _ => by rw [e, hw r hr]⟩, fun q2 l2 e2 => ?_, fun q2 hq => ?_⟩
    · cases e2; exact ⟨by rw [e]; exact Int.le_refl _, fun _ => e⟩
    · rw [List.mem_singleton.1 hq]; rw [h.kind]; exact h
  | more q kind want l t h hw h0 _ ih =>
    have h2 := ih.1 _ rfl (by have := restOf_nn (cellOf (V q)); exact this.1)
    have e : ((valOf V (q :: l)).length : Int) = ((cellOf (V q)).length - 2 : Nat) + ((valOf V l).length : Int) := by
      unfold valOf
      simp
    have e1 : ((valOf V (q :: l)).length : Int) ≤ alOf (V q) := by rw [e]; unfold alOf; omega
    have e2 : t = true → ((valOf V (q :: l)).length : Int) = alOf (V q) := fun ht => by rw [e]; unfold alOf; have := h2.2 ht; omega
    refine ⟨fun r hr _ => ⟨by rw [← hw r hr]; exact e1, fun ht => by rw [← hw r hr]; exact e2 ht⟩, fun q2 l2 e3 => ?_, fun q2 hq => ?_⟩
    · cases e3; exact ⟨e1, e2⟩
    · rcases List.mem_cons.1 hq with rfl | hq
      · rw [h.kind]; exact h
      · exact ih.2.2 q2 hq
abbrev Tl := Option (Nat × Nat)
def lkC (V : Pages) (q pb : Nat) : Array Value := lkV q (Pg.kindOf (V q)) (Pg.nextOf (V q)) (rsOf (V q)) (some ⟨pb, 2, none⟩) ((cellOf (V q)).length - 2) ((cellOf (V q)).length - 2)
def encT (V : Pages) : Tl → Array Value
  | some (q, pb) => #[.agg (lkC V q pb), .int .i64 0]
  | none => #[.agg noLink, .int .i64 4]
def XT (n : Nat) (V : Pages) : Tl → KL → Prop
  | some (q, pb), K => (pb, .cells (arr (cellOf (V q))) 5) ∈ K ∧ LkAt n V q (Pg.kindOf (V q))
  | none, _ => True
def told (l : List Nat) (t : Bool) : List (Option Nat) := l.map some ++ (if t then [] else [none])
def pgs (xs : List Tl) : List (Option Nat) := xs.map (Option.map Prod.fst)
def STold (l : List Nat) (t : Bool) (xs : List Tl) : Prop := pgs xs = told l t
def SpTold (l : List Nat) (t : Bool) (xs : List Tl) : Prop := pgs xs <+: told l t
def Cur (n : Nat) (V : Pages) (x : Tl) (cs : Array Value) (e : Int) (KN : KL) (l : List Nat) (t : Bool) : Prop :=
  (x = none ∧ cs = noLink ∧ e = 4 ∧ KN = [] ∧ l = [] ∧ t = false) ∨ ∃ q pb l2, x = some (q, pb) ∧ cs = lkC V q pb ∧ e = 0 ∧ KN = [(pb, .cells (arr (cellOf (V q))) 5)] ∧ l = q :: l2 ∧ LkAt n V q (Pg.kindOf (V q)) ∧ WkAt n V q l2 t
section
variable {w0 w : World} {bp : Nat} {b : Bk} {K : KL} (h : Ab w0 w bp b K)
include h
theorem nload_wk {V : Pages} (hv : Shows b.x V) (hp3 : 3 ≤ b.x.pages) (hp : b.x.pages ≤ 1000000) (hd : IsHd b.x.pages (V 0)) (k : Int) {kind : Nat} {l : List Nat} {t : Bool} (hw : Wk b.x.pages V k kind none l t) :
    Calls Tryz.prog 91 #[.pointer (some ⟨bp, 0, none⟩), .int .i64 k, .int .u8 (kind : Int)] w fun e w' => ∃ cs ev, e = .returned (.tuple #[.agg cs, .int .i64 ev]) ∧ ∃ b' x KN, Hid (Rd w0 w' bp K b b' ∧ Ab w0 w' bp b' (KN ++ K) ∧ Cur b.x.pages V x cs ev KN l t ∧ ∀ p ∈ KN, w.heap.size ≤ p.1) := by
  rcases hw.inv with ⟨rfl, rfl, hn⟩ | ⟨q, l2, rfl, rfl, hk, _, hw2⟩
  · refine (nload_no h hv hp3 hp hd k kind (fun q e hk => by obtain ⟨r, hr, _⟩ := hn q e hk; cases hr)).mono ?_
    rintro e w' ⟨b', rfl, r⟩
    exact ⟨_, _, rfl, b', none, [], hidI ⟨r.out, r.out.ab, .inl ⟨rfl, rfl, rfl, rfl, rfl, rfl⟩, fun p hp => nomatch hp⟩⟩
  · refine (nload_lk' h hv hp3 hp hd q kind hk).mono ?_
    rintro e w' ⟨b', pb, rfl, r⟩
    refine ⟨_, _, rfl, b', some (q, pb), [(pb, .cells (arr (cellOf (V q))) 5)], hidI ⟨r.out.1, r.out.1.ab.add r.out.2.1 r.out.2.2.2, .inr ⟨q, pb, l2, rfl, ?_, rfl, rfl, rfl, by rw [hk.kind]; exact hk, hw2⟩, fun p hp => by rw [List.mem_singleton.1 hp]; exact r.out.2.2.1⟩⟩
    unfold lkC
    rw [hk.kind]
theorem nbehind_wk {V : Pages} (hv : Shows b.x V) (hp3 : 3 ≤ b.x.pages) (hp : b.x.pages ≤ 1000000) (hd : IsHd b.x.pages (V 0)) (q pb : Nat) {l : List Nat} {t : Bool} (hw : Wk b.x.pages V (Pg.nextOf (V q)) 65 (some (rsOf (V q))) l t) :
    Calls Tryz.prog 92 #[.agg (lkC V q pb), .pointer (some ⟨bp, 0, none⟩)] w fun e w' => ∃ cs ev, e = .returned (.tuple #[.agg cs, .int .i64 ev]) ∧ ∃ b' x KN, Hid (Rd w0 w' bp K b b' ∧ Ab w0 w' bp b' (KN ++ K) ∧ Cur b.x.pages V x cs ev KN l t ∧ ∀ p ∈ KN, w.heap.size ≤ p.1) := by
  rcases hw.inv with ⟨rfl, rfl, hn⟩ | ⟨q2, l2, e2, rfl, hk, hr, hw2⟩
  · refine (nbehind_no h hv hp3 hp hd _ _ _ _ _ _ _ (fun q e hk => by obtain ⟨r, hr, h2⟩ := hn q e hk; cases hr; exact h2)).mono ?_
    rintro e w' ⟨b', rfl, r⟩
    exact ⟨_, _, rfl, b', none, [], hidI ⟨r.out, r.out.ab, .inl ⟨rfl, rfl, rfl, rfl, rfl, rfl⟩, fun p hp => nomatch hp⟩⟩
  · unfold lkC
    rw [e2]
    refine (nbehind_lk h hv hp3 hp hd _ _ _ _ _ _ q2 hk (hr _ rfl)).mono ?_
    rintro e w' ⟨b', pb2, rfl, r⟩
    refine ⟨_, _, rfl, b', some (q2, pb2), [(pb2, .cells (arr (cellOf (V q2))) 5)], hidI ⟨r.out.1, r.out.1.ab.add r.out.2.1 r.out.2.2.2, .inr ⟨q2, pb2, l2, rfl, ?_, rfl, rfl, rfl, by rw [hk.kind]; exact hk, hw2⟩, fun p hp => by rw [List.mem_singleton.1 hp]; exact r.out.2.2.1⟩⟩
    unfold lkC
    rw [hk.kind]
    rfl
end
end Go.Proofs.YthajipigppndgaaGreat

namespace Go.Proofs.YthajipigppndgaaGreat
open Go.RowKit Go.Maps Go.Lib Go.Shelf
attribute [local go_sem] Oper.semAt_some
section
variable {F : Fence} {n : Nat} {ops : Array Oper} {rest : List Oper} {o : Oper} {a : Act} {w : World} {Q : Exit → Act → World → Prop}
theorem wpIn_storeL (hgd : o.guard = none) (x y : Operand) (ho : o.op = .store 79 x y) (b : Nat) (cs cs' : Array Value) (h5 : cs.size = 5) (h6 : cs'.size = 5) (h1 : (cs'.all fun v => v.oneCell') = true) (hx : a.eval x = .pointer (some ⟨b, 0, none⟩)) (hy : a.eval y = .agg cs') (hg : w.heap[b]? = some (.cells cs 79))
    (h : ∀ w', w'.heap[b]? = some (.cells cs' 79) → Fr [b] w w' → wpListIn F n Tryz.prog ops Q rest (a.put o.dst undef) w') : wpListIn F n Tryz.prog ops Q (o :: rest) a w := by
  refine wpListIn_plain hgd fun K hK => ?_
  unfold Oper.wpIn
  refine ⟨?_, ?_⟩
  · simp [Oper.about, ho]
  · rw [Oper.semAt_plain F _ _ (by rw [ho]; intro c hc'; cases hc')]
    simp only [execOp, ho, hx, hy, Instr.storeAt, Instr.sureAddr, Sem.run_bind, Sem.run_pure, Result.andThen_ok, run_storeVar_row (P := Tryz.prog) w b 79 79 cs cs' hg (by rw [h6]; exact sizeLk) (by rw [h5, h6]) h1]
    exact hK _ _ (h _ (setRow_heap w b _ _ _ _ hg) ⟨rfl, rfl, rfl, by simp, fun i _ hn => setRow_other w b i _ (fun e => hn (by simp [e]))⟩)
theorem wpIn_loadL (hgd : o.guard = none) (x : Operand) (ho : o.op = .load 79 x) (g : Nat) (cs : Array Value) (hc : cs.size = 5) (hx : a.eval x = .pointer (some ⟨g, 0, none⟩)) (hg : w.heap[g]? = some (.cells cs 79)) (h : wpListIn F n Tryz.prog ops Q rest (a.put o.dst (.agg cs)) w) : wpListIn F n Tryz.prog ops Q (o :: rest) a w := by
  refine wpListIn_plain hgd fun K hK => ?_
  unfold Oper.wpIn
  refine ⟨?_, ?_⟩
  · simp [Oper.about, ho]
  · rw [Oper.semAt_plain F _ _ (by rw [ho]; intro c hc'; cases hc')]
    simp only [execOp, ho, hx, Instr.loadAt, Instr.sureAddr, Sem.run_bind, Sem.run_pure, Result.andThen_ok, run_loadVar_row (P := Tryz.prog) w g 79 79 cs _ _ hg Tryz.underlying79 rfl (by rw [sizeLk, hc])]
    exact hK _ _ h
end
end Go.Proofs.YthajipigppndgaaGreat

namespace Go.Proofs.YthajipigppndgaaGreat
open Go.RowKit Go.Maps Go.Lib Go.Shelf
attribute [local go_sem] Oper.semAt_some
theorem RdK.cell {w0 W : World} {bp : Nat} {b0 : Bk} {K : KL} (h : RdK w0 bp b0 K W) {g : Nat} {v : Value} {t : TypeId} (hp : (g, .cells #[v] t) ∈ K) : W.cell? ⟨g, 0, none⟩ = some v := by
  obtain ⟨b, r⟩ := h
  exact cell_of_row W g 0 _ _ _ (r.ab.kp _ hp).1
theorem RdK.less {w0 W : World} {bp : Nat} {b0 : Bk} {K K' : KL} (h : RdK w0 bp b0 K W) (hk : ∀ p ∈ K', p ∈ K) : RdK w0 bp b0 K' W := (rd_keeper w0 bp b0).less h hk
theorem RdK.lies {w0 W : World} {bp : Nat} {b0 : Bk} {K : KL} (h : RdK w0 bp b0 K W) : ∀ p ∈ K, W.heap[p.1]? = some p.2 := (rd_keeper w0 bp b0).lies h
theorem RdK.quiet {w0 W W' : World} {bp : Nat} {b0 : Bk} {K : KL} (h : RdK w0 bp b0 K W) (f : Fr [] W W') : RdK w0 bp b0 K W' := by
  obtain ⟨b, r⟩ := h
  exact ⟨b, r.quiet f⟩
theorem RdK.put {w0 W W' : World} {bp : Nat} {b0 : Bk} {K : KL} {g : Nat} {cs cs' : Array Value} {t : TypeId} (h : RdK w0 bp b0 ((g, .cells cs t) :: K) W) (hB : w0.heap.size ≤ g) (hK : ∀ p ∈ K, p.1 ≠ g) (f : Fr [g] W W') (hz : W'.heap[g]? = some (.cells cs' t))
    (h1 : t ≠ 153 ∧ t ≠ 168 ∧ t ≠ 5 ∧ t ≠ 2) (h2 : t ≠ 200 ∧ t ≠ 195 ∧ t ≠ 315) (h3 : t ≠ 140) (h4 : t ≠ 93 ∧ t ≠ 38) : RdK w0 bp b0 ((g, .cells cs' t) :: K) W' := by
  obtain ⟨b, r⟩ := h
  have k := r.ab.kp _ (List.mem_cons_self ..)
  have aw := r.ab.bk.away k.1 h1 h2 h3 h4
  have a2 := (r.ab.less (K' := K) (fun p hp => List.mem_cons_of_mem _ hp)).put f aw.1 aw.2.1 aw.2.2 hB hK
  exact ⟨b, r.on (a2.add hz k.2)⟩
def curR (V : Pages) : Tl → Int
  | some (q, _) => rsOf (V q)
  | none => 0
theorem Cur.facts {n : Nat} {V : Pages} {x : Tl} {cs : Array Value} {e : Int} {KN : KL} {l : List Nat} {t : Bool} (h : Cur n V x cs e KN l t) :
    cs.size = 5 ∧ (cs.all fun v => v.oneCell') = true ∧ cs[3]? = some (.int .i64 (curR V x)) ∧ encT V x = #[.agg cs, .int .i64 e] ∧ ∀ K : KL, (∀ p ∈ KN, p ∈ K) → XT n V x K := by
  rcases h with ⟨rfl, rfl, rfl, rfl, -, -⟩ | ⟨q, pb, l2, rfl, rfl, rfl, rfl, -, hk, -⟩
  · exact ⟨rfl, noLink_one, rfl, rfl, fun _ _ => trivial⟩
  · exact ⟨rfl, lkV_one _ _ _ _ _ _ _, rfl, rfl, fun K hK => ⟨hK _ (List.mem_singleton.2 rfl), hk⟩⟩
def restAt (z : Nat) (w : World) : Nat := match w.cell? ⟨z, 3, none⟩ with
  | some (.int _ r) => r.toNat
  | _ => 0
theorem restAt_of {z : Nat} {w : World} {k : IntKind} {r : Int} (h : w.cell? ⟨z, 3, none⟩ = some (.int k r)) : restAt z w = r.toNat := by
  unfold restAt
  rw [h]
theorem pgs_snoc (xs : List Tl) (x : Tl) : pgs (xs ++ [x]) = pgs xs ++ [x.map Prod.fst] := by simp [pgs]
def LkI (w0 : World) (bp : Nat) (b0 : Bk) (V : Pages) (KI : KL) (z : Nat) (l0 : List Nat) (t : Bool) (JP : List Tl → KL → Prop) (e : Int) (wr : World) : Prop :=
  ∃ pre K x cs KN l, JP pre K ∧ Cur b0.x.pages V x cs e KN l t ∧ pgs pre ++ told l t = told l0 t ∧ RdK w0 bp b0 (K ++ ((z, .cells cs 79) :: (KN ++ KI))) wr ∧ Dj K ((z, .cells cs 79) :: (KN ++ KI)) ∧ ∀ p ∈ KN ++ KI, p.1 ≠ z
set_option maxRecDepth 100000 in
set_option maxHeartbeats 4000000 in
theorem nlinks1_in (n : Nat) (hn : 1 ≤ n) {w0 : World} {bp : Nat} {b0 : Bk} {V : Pages} (hv : Shows b0.x V) (hp3 : 3 ≤ b0.x.pages) (hp : b0.x.pages ≤ 1000000) (hd : IsHd b0.x.pages (V 0)) (bF bB : Nat) (first : Int) (hf : first ≠ 0) {l : List Nat} {t : Bool} (hw : Wk b0.x.pages V first 64 none l t)
    (KI : KL) (hKI : KI = [(bF, .cells #[.int .i64 first] 3), (bB, .cells #[.pointer (some ⟨bp, 0, none⟩)] 32)]) (lp : Nat) (JP JX : List Tl → KL → Prop) (W : World) (K : KL) (hs : RdK w0 bp b0 (K ++ KI) W) (dj : Dj K KI) (h0 : JP [] K)
    (hY : ∀ pre x K W1 KO, JP pre K → RdK w0 bp b0 (K ++ KO) W1 → Dj K KO → XT b0.x.pages V x KO → SpTold l t (pre ++ [x]) → YieldAt Fence.wide (n - 1) Tryz.prog lp (encT V x) W1 fun e W' =>
      (e = .returned (.bool true) ∧ ∃ K', JP (pre ++ [x]) K' ∧ RdK w0 bp b0 (K' ++ KO) W' ∧ Dj K' KO) ∨ (e = .returned (.bool false) ∧ ∃ K', JX (pre ++ [x]) K' ∧ RdK w0 bp b0 (K' ++ KO) W' ∧ Dj K' KO)) :
    CallsIn Fence.wide n Tryz.prog 90 #[.func (.yield lp) #[] #[], .pointer (some ⟨bF, 0, none⟩), .pointer (some ⟨bB, 0, none⟩)] W fun e W' => (∃ v, e = .returned v) ∧
      ((∃ xs K', STold l t xs ∧ JP xs K' ∧ RdK w0 bp b0 (K' ++ KI) W' ∧ Dj K' KI) ∨ (∃ pre K', SpTold l t pre ∧ JX pre K' ∧ RdK w0 bp b0 (K' ++ KI) W' ∧ Dj K' KI)) := by
  have cF : W.cell? ⟨bF, 0, none⟩ = some (.int .i64 first) := hs.cell (t := 3) (by rw [hKI]; simp)
  have cB : W.cell? ⟨bB, 0, none⟩ = some (.pointer (some ⟨bp, 0, none⟩)) := hs.cell (t := 32) (by rw [hKI]; simp)
  have LX : Hid (∀ b, Rd w0 W bp (K ++ KI) b0 b → Calls Tryz.prog 91 #[.pointer (some ⟨bp, 0, none⟩), .int .i64 first, .int .u8 64] W fun e w' => ∃ cs ev, e = .returned (.tuple #[.agg cs, .int .i64 ev]) ∧ ∃ b' x KN, Hid (Rd w0 w' bp (K ++ KI) b b' ∧ Ab w0 w' bp b' (KN ++ (K ++ KI)) ∧ Cur b0.x.pages V x cs ev KN l t ∧ ∀ p ∈ KN, W.heap.size ≤ p.1)) := hidI (fun b r => by
    have hpg := r.tr.pages
    rw [← hpg] at hp3 hp hd hw
    have := nload_wk r.ab (r.sh V hv) hp3 hp hd first hw
    rw [hpg] at this
    exact this)
  obtain ⟨b1, r1⟩ := hs
  have HL : Hid (∀ q, q < b0.x.pages → (V q).length = 512) := hidI (fun q hq => r1.ab.len (r1.sh V hv) (by rw [r1.tr.pages]; exact hq))
  have LX1 := LX.out b1 r1
  have q0 : (first == 0) = false := by rw [beq_eq_false_iff_ne]; exact hf
  have HR1 := hidI (And.intro r1 (And.intro dj h0))
  have HY := hidI hY
  clear hY dj h0 r1 LX hw
  refine callsIn_of_wp Tryz.func90 rfl trivial ?_ rfl
  simp only [Tryz.ntmps90, List.size_toArray, List.length_cons, List.length_nil, Nat.reduceAdd, Nat.reduceSub, Array.replicate_succ, Array.replicate_zero, List.push_toArray, List.append_toArray, List.nil_append, List.cons_append]
  gi_wp2_with (first
    | (refine ⟨trivial, ?_⟩
       gi_at_call 91
       refine (callsIn_wide.2 LX1).mono ?_
       rintro e w2 ⟨cs, ev, rfl, b2, x, KN, P⟩
       have Z2 := heap_alloc_new w2 (.cells noLink 79)
       have hcf := P.out.2.2.1.facts
       have HCF := hidI hcf
       clear hcf
       unfold noLink at Z2)
    | (refine wpIn_storeL rfl _ _ rfl w2.heap.size _ cs rfl HCF.out.1 HCF.out.2.1 rfl rfl Z2 ?_
       intro w3 b3 f3))
  obtain ⟨z, hz⟩ : ∃ z, w2.heap.size = z := ⟨_, rfl⟩
  rw [hz] at b3 f3 ⊢
  have hzK : ∀ p ∈ KN ++ (K ++ KI), p.1 < z := fun p hp => hz ▸ (Array.getElem?_eq_some_iff.1 (P.out.2.1.kp p hp).1).1
  have hKW : ∀ p ∈ K ++ KI, p.1 < W.heap.size := fun p hp => (Array.getElem?_eq_some_iff.1 (HR1.out.1.ab.kp p hp).1).1
  have hI0 : LkI w0 bp b0 V KI z l t JP ev w3 := by
    have A2 := (P.out.2.1.quiet ((Fr.refl [] w2).alloc (.cells noLink 79)))
    have f0 : Fr [] w2 w3 := ((Fr.refl [] w2).alloc (.cells noLink 79)).then f3 (fun i hi hm => by
      have e := List.mem_singleton.1 hm
      omega)
    have A3 := (P.out.2.1.quiet f0).add b3 (P.out.2.1.fresh (Nat.le_of_eq hz)).2.1
    refine ⟨[], K, x, cs, KN, l, HR1.out.2.2, P.out.2.2.1, rfl, ⟨b2, (HR1.out.1.trans ((P.out.1.quiet f0).on (A3.less (K' := K ++ ((z, .cells cs 79) :: (KN ++ KI))) (fun p hp => by
      simp only [List.mem_append, List.mem_cons] at hp ⊢
      rcases hp with h | h | h | h
      · exact .inr (.inr (.inl h))
      · exact .inl h
      · exact .inr (.inl h)
      · exact .inr (.inr (.inr h))))))⟩, ?_, ?_⟩
    · refine fun p hp q hq => ?_
      have h1 := hzK p (by simp [hp])
      have h2 := hKW p (by simp [hp])
      simp only [List.mem_cons, List.mem_append] at hq
      rcases hq with rfl | hq | hq
      · exact Nat.ne_of_lt h1
      · have := P.out.2.2.2 q hq
        omega
      · exact HR1.out.2.1 p hp q hq
    · refine fun p hp => Nat.ne_of_lt (hzK p ?_)
      simp only [List.mem_append] at hp ⊢
      rcases hp with h | h
      · exact .inl h
      · exact .inr (.inr h)
  have HI0 := hidI hI0
  have HZ0 := hidI (P.out.2.1.fresh (Nat.le_of_eq hz)).1
  clear hI0 hzK hKW
  gi_loopw [5] (fun s5 wr => ∃ e : Int, s5 = .int .i64 e ∧ Hid (LkI w0 bp b0 V KI z l t JP e wr)) (fun _ wr => restAt z wr)
  case atStart => exact ⟨ev, rfl, HI0⟩
  case round =>
    obtain ⟨e, rfl, hI⟩ := hrel
    obtain ⟨pre, Kr, xr, csr, KNr, lr, P1, C1, E1, S1, D1, Z1⟩ := hI.out
    have hfr := C1.facts
    have bz := S1.lies (z, .cells csr 79) (by simp)
    have XO := hfr.2.2.2.2 ((z, .cells csr 79) :: (KNr ++ KI)) (fun p hp => by simp [hp])
    rcases C1 with ⟨rfl, rfl, rfl, rfl, rfl, rfl⟩ | ⟨q, pb, l2, rfl, rfl, rfl, rfl, rfl, hk, hwa⟩
    · have hE : pgs (pre ++ [none]) = told l false := by rw [pgs_snoc, ← E1]; rfl
      obtain ⟨fn, tmps, assign, body, hy, hR⟩ := HY.out pre none Kr wr _ P1 S1 D1 XO (by unfold SpTold; rw [hE]; exact List.prefix_refl _)
      have HE := hidI hE
      unfold encT noLink at hy
      clear hfr bz XO E1 hE S1 D1 Z1 P1
      gi_wp2_with (first
        | (refine RoundIn.mono hR ?_
           rintro e' W3 (⟨rfl, K', q1, q2, q3⟩ | ⟨rfl, K', q1, q2, q3⟩)))
      · go_end0
        exact ⟨⟨_, rfl⟩, .inl ⟨_, K', HE.out, q1, q2.less (fun p hp => by
          simp only [List.mem_append, List.mem_cons] at hp ⊢
          rcases hp with h | h
          · exact .inl h
          · exact .inr (.inr (.inr h))), q3.mono (fun _ h => h) (fun p hp => by simp [hp])⟩⟩
      · go_end0
        exact ⟨⟨_, rfl⟩, .inr ⟨_, K', (by unfold SpTold; rw [HE.out]; exact List.prefix_refl _), q1, q2.less (fun p hp => by
          simp only [List.mem_append, List.mem_cons] at hp ⊢
          rcases hp with h | h
          · exact .inl h
          · exact .inr (.inr (.inr h))), q3.mono (fun _ h => h) (fun p hp => by simp [hp])⟩⟩
    · have hpre : SpTold l t (pre ++ [some (q, pb)]) := by
        unfold SpTold
        rw [pgs_snoc, ← E1]
        exact ⟨told l2 t, by simp [told]⟩
      have E2 : pgs (pre ++ [some (q, pb)]) ++ told l2 t = told l t := by
        rw [pgs_snoc, ← E1]
        simp [told]
      obtain ⟨fn, tmps, assign, body, hy, hR⟩ := HY.out pre (some (q, pb)) Kr wr _ P1 S1 D1 XO hpre
      have HE := hidI (And.intro hpre (And.intro E2 (And.intro hk (And.intro hwa Z1))))
      rw [hfr.2.2.2.1] at hy
      obtain ⟨cs, hcs⟩ : ∃ cs, lkC V q pb = cs := ⟨_, rfl⟩
      rw [hcs] at hfr bz hy hR
      have HF5 := hidI (And.intro hfr hcs)
      have h5 := hfr.1
      have h3 := hfr.2.2.1
      clear hfr XO E1 S1 D1 Z1 P1 hk hpre E2 hcs
      have c3of : Hid (∀ (K' : KL) (W' : World), RdK w0 bp b0 (K' ++ ((z, .cells cs 79) :: ([(pb, Obj.cells (arr (cellOf (V q))) 5)] ++ KI))) W' → W'.cell? ⟨z, 3, none⟩ = some (.int .i64 (rsOf (V q))) ∧ W'.heap[z]? = some (.cells cs 79) ∧ W'.cell? ⟨bB, 0, none⟩ = some (.pointer (some ⟨bp, 0, none⟩))) := hidI (fun K' W' r => by
        have b1 := r.lies (z, .cells cs 79) (by simp)
        exact ⟨(cell_of_row W' z 3 _ _ _ b1).trans h3, b1, r.cell (t := 32) (by rw [hKI]; simp)⟩)
      clear h3
      have drp : Hid (∀ (K' : KL) (W' : World), RdK w0 bp b0 (K' ++ ((z, .cells cs 79) :: ([(pb, Obj.cells (arr (cellOf (V q))) 5)] ++ KI))) W' → RdK w0 bp b0 (K' ++ KI) W') := hidI (fun K' W' r => r.less (fun p hp => by
        simp only [List.mem_append, List.mem_cons] at hp ⊢
        rcases hp with h | h
        · exact .inl h
        · exact .inr (.inr (.inr h))))
      rcases hwa with ⟨h0, rfl, rfl⟩ | ⟨h0, hw2⟩
      · rw [h0] at c3of
        gi_wp2_with (first
          | (refine wpIn_loadL rfl _ rfl z cs h5 rfl bz ?_)
          | (refine RoundIn.mono hR ?_
             rintro e' W3 (⟨rfl, K', q1, q2, q3⟩ | ⟨rfl, K', q1, q2, q3⟩)
             have c3 := (c3of.out K' W3 q2).1))
        · refine bodyPost_ret (results_none rfl _ _ _) rfl ?_
          exact ⟨⟨_, rfl⟩, .inl ⟨_, K', by have e := HE.out.2.1; unfold STold; rw [← e]; simp [told], q1, drp.out _ _ q2, q3.mono (fun _ h => h) (fun p hp => by simp [hp])⟩⟩
        · refine bodyPost_ret (results_none rfl _ _ _) rfl ?_
          exact ⟨⟨_, rfl⟩, .inr ⟨_, K', HE.out.1, q1, drp.out _ _ q2, q3.mono (fun _ h => h) (fun p hp => by simp [hp])⟩⟩
      · have q0 : (rsOf (V q) == 0) = false := by rw [beq_eq_false_iff_ne]; exact h0
        have BX : Hid (∀ (K' : KL) (W' : World), RdK w0 bp b0 K' W' → ∃ b1, Rd w0 W' bp K' b0 b1 ∧ Calls Tryz.prog 92 #[.agg cs, .pointer (some ⟨bp, 0, none⟩)] W' fun e w' => ∃ cs ev, e = .returned (.tuple #[.agg cs, .int .i64 ev]) ∧ ∃ b' x KN, Hid (Rd w0 w' bp K' b1 b' ∧ Ab w0 w' bp b' (KN ++ K') ∧ Cur b0.x.pages V x cs ev KN l2 t ∧ ∀ p ∈ KN, W'.heap.size ≤ p.1)) := hidI (fun K' W' r => by
          obtain ⟨b1, r⟩ := r
          have hpg := r.tr.pages
          rw [← hpg] at hp3 hp hd hw2
          have := nbehind_wk r.ab (r.sh V hv) hp3 hp hd q pb hw2
          rw [hpg, HF5.out.2] at this
          exact ⟨b1, r, this⟩)
        have HLT : Hid (∀ q5 l5, l2 = q5 :: l5 → rsOf (V q5) < rsOf (V q)) := hidI (fun q5 l5 e5 => by
          rcases hw2.inv with ⟨e, -⟩ | ⟨q6, l6, -, e6, hk6, hr6, -⟩
          · rw [e] at e5
            cases e5
          · rw [e5] at e6
            cases e6
            have h1 := hr6 _ rfl
            have h2 := (lk_cell hk6 (HL.out _ hk6.hi)).2.1
            unfold alOf at h1
            omega)
        obtain ⟨rs, hrs⟩ : ∃ rs, rsOf (V q) = rs := ⟨_, rfl⟩
        rw [hrs] at c3of q0 h0 HLT
        clear hw2
        gi_wp2_with (first
          | (refine wpIn_loadL rfl _ rfl z cs h5 rfl bz ?_)
          | (refine RoundIn.mono hR ?_
             rintro e' W3 (⟨rfl, K', q1, q2, q3⟩ | ⟨rfl, K', q1, q2, q3⟩)
             have c3 := (c3of.out K' W3 q2).1
             have cB3 := (c3of.out K' W3 q2).2.2
             have bz3 := (c3of.out K' W3 q2).2.1
             obtain ⟨b4, r4, BX4⟩ := BX.out _ W3 q2)
          | (refine wpIn_loadL rfl _ rfl z cs h5 rfl bz3 ?_)
          | (refine ⟨trivial, ?_⟩
             gi_at_call 92
             refine (callsIn_wide.2 BX4).mono ?_
             rintro e5 w5 ⟨cs5, ev5, rfl, b5, x5, KN5, P5⟩
             have bz5 := (P5.out.1.ab.kp (z, .cells cs 79) (by simp)).1
             have HC5 := hidI P5.out.2.2.1.facts)
          | (refine wpIn_storeL rfl _ _ rfl z cs cs5 h5 HC5.out.1 HC5.out.2.1 rfl rfl bz5 ?_
             intro w6 b6 f6))
        · refine ⟨⟨ev5, rfl, hidI ?_⟩, ?_⟩
          · have S5 : RdK w0 bp b0 ((z, .cells cs 79) :: (KN5 ++ (K' ++ KI))) w5 := RdK.less ⟨b5, (r4.trans P5.out.1).on P5.out.2.1⟩ (fun p hp => by
              simp only [List.mem_append, List.mem_cons] at hp ⊢
              rcases hp with h | h | h | h
              · exact .inr (.inr (.inl h))
              · exact .inl h
              · exact .inr (.inl h)
              · exact .inr (.inr (.inr (.inr h))))
            have hlt3 : ∀ p ∈ K' ++ ((z, .cells cs 79) :: ([(pb, Obj.cells (arr (cellOf (V q))) 5)] ++ KI)), p.1 < W3.heap.size := fun p hp => (Array.getElem?_eq_some_iff.1 (r4.ab.kp p hp).1).1
            have hz3 := hlt3 (z, .cells cs 79) (by simp)
            have hzn : ∀ p ∈ KN5 ++ (K' ++ KI), p.1 ≠ z := fun p hp => by
              simp only [List.mem_append] at hp
              rcases hp with h | h | h
              · have := P5.out.2.2.2 p h
                simp only at hz3
                omega
              · exact q3 p h (z, .cells cs 79) (by simp)
              · exact HE.out.2.2.2.2 p (by simp [h])
            have S6 := S5.put HZ0.out hzn f6 b6 (by decide) (by decide) (by decide) (by decide)
            refine ⟨_, K', x5, cs5, KN5, l2, q1, P5.out.2.2.1, HE.out.2.1, S6.less (fun p hp => by
              simp only [List.mem_append, List.mem_cons] at hp ⊢
              rcases hp with h | h | h | h
              · exact .inr (.inr (.inl h))
              · exact .inl h
              · exact .inr (.inl h)
              · exact .inr (.inr (.inr h))), ?_, fun p hp => hzn p (by
                simp only [List.mem_append] at hp ⊢
                rcases hp with h | h
                · exact .inl h
                · exact .inr (.inr h))⟩
            intro p hp x hx
            simp only [List.mem_append, List.mem_cons] at hx
            rcases hx with rfl | hx | hx
            · exact hzn p (by simp [hp])
            · have h1 := P5.out.2.2.2 x hx
              have h2 := hlt3 p (by simp [hp])
              omega
            · exact q3 p hp x (by simp [hx])
          · have m1 : restAt z w6 = (curR V x5).toNat := restAt_of ((cell_of_row w6 z 3 _ _ _ b6).trans HC5.out.2.2.1)
            have m2 : restAt z wr = rs.toNat := by
              rw [← hrs]
              exact restAt_of ((cell_of_row wr z 3 _ _ _ bz).trans HF5.out.1.2.2.1)
            rw [m1, m2]
            have hrp : 0 < rs := by
              have := (restOf_nn (cellOf (V q))).1
              unfold rsOf at hrs
              omega
            rcases P5.out.2.2.1 with ⟨rfl, -⟩ | ⟨q5, pb5, l5, rfl, -, -, -, e5, -⟩
            · show (0 : Int).toNat < rs.toNat
              omega
            · have h1 := HLT.out q5 l5 e5
              have h2 := (restOf_nn (cellOf (V q5))).1
              show (rsOf (V q5)).toNat < rs.toNat
              unfold rsOf at h1 ⊢
              omega
        · refine bodyPost_ret (results_none rfl _ _ _) rfl ?_
          exact ⟨⟨_, rfl⟩, .inr ⟨_, K', HE.out.1, q1, drp.out _ _ q2, q3.mono (fun _ h => h) (fun p hp => by simp [hp])⟩⟩
end Go.Proofs.YthajipigppndgaaGreat

