/-
  The chapter's example of a space.
-/
import Derived.Test.YthajipigppndgaaGreatY34Z
import Derived.RangeFuncNested
import Derived.RangeFuncBound
import Derived.RangeFuncCalls
import Derived.RangeFuncLeaves
import Derived.Shelf.Abstract
import Derived.Shelf.RegionOpen
import Derived.WalkKit
import Derived.OwnWalkIn
import Derived.TacticsInMore
import Derived.LoopNIn
import Derived.LoopIn
import Derived.Sort.BigQuietIn
import Derived.Test.YthajipigppndgaaGreatY36Z
namespace Go.Proofs.YthajipigppndgaaGreat
open Go.RowKit Go.Maps Go.Lib Go.Shelf
abbrev KL := List (Nat × Obj)
def Dj (K K' : KL) : Prop := ∀ p ∈ K, ∀ q ∈ K', p.1 ≠ q.1
theorem Dj.mono {K K' L L' : KL} (h : Dj K K') (h1 : ∀ p ∈ L, p ∈ K) (h2 : ∀ p ∈ L', p ∈ K') : Dj L L' := fun p hp q hq => h p (h1 p hp) q (h2 q hq)
theorem Dj.appL {K L K' : KL} (h : Dj K K') (k : Dj L K') : Dj (K ++ L) K' := fun p hp q hq => (List.mem_append.1 hp).elim (fun x => h p x q hq) (fun x => k p x q hq)
theorem Dj.appR {K K' L : KL} (h : Dj K K') (k : Dj K L) : Dj K (K' ++ L) := fun p hp q hq => (List.mem_append.1 hq).elim (fun x => h p hp q x) (fun x => k p hp q x)
theorem Dj.left {K L K' : KL} (h : Dj (K ++ L) K') : Dj K K' := h.mono (fun _ x => List.mem_append.2 (.inl x)) (fun _ x => x)
theorem Dj.right {K L K' : KL} (h : Dj (K ++ L) K') : Dj L K' := h.mono (fun _ x => List.mem_append.2 (.inr x)) (fun _ x => x)
structure Keeper (B : Nat) (St : KL → World → Prop) : Prop where
  size : ∀ {K W}, St K W → B ≤ W.heap.size
  lies : ∀ {K W}, St K W → ∀ p ∈ K, W.heap[p.1]? = some p.2
  less : ∀ {K K' W}, St K W → (∀ p ∈ K', p ∈ K) → St K' W
  new : ∀ {K W} (o : Obj), St K W → St ((W.heap.size, o) :: K) (W.alloc o)
  put : ∀ {K W g o} (o' : Obj), St ((g, o) :: K) W → B ≤ g → o.isCells = false → (∀ p ∈ K, p.1 ≠ g) → St ((g, o') :: K) (W.putObj g o')
def IterK {α : Type} (F : Fence) (n : Nat) (P : Program) (gf : Nat) (lb : Array Value) (encs : α → Array Value) (St : KL → World → Prop) (X : α → KL → Prop) (S Sp : List α → Prop) (KI : KL) : Prop :=
  ∀ (l : Nat) (JP JX : List α → KL → Prop) (W : World) (K : KL), St (K ++ KI) W → Dj K KI → JP [] K →
    (∀ pre x K W1 KO, JP pre K → St (K ++ KO) W1 → Dj K KO → X x KO → Sp (pre ++ [x]) → YieldAt F (n - 1) P l (encs x) W1 fun e W' =>
      (e = .returned (.bool true) ∧ ∃ K', JP (pre ++ [x]) K' ∧ St (K' ++ KO) W' ∧ Dj K' KO) ∨ (e = .returned (.bool false) ∧ ∃ K', JX (pre ++ [x]) K' ∧ St (K' ++ KO) W' ∧ Dj K' KO)) →
    CallsIn F n P gf (#[.func (.yield l) #[] #[]] ++ lb) W fun e W' => (∃ v, e = .returned v) ∧
      ((∃ xs K', S xs ∧ JP xs K' ∧ St (K' ++ KI) W' ∧ Dj K' KI) ∨ (∃ pre K', Sp pre ∧ JX pre K' ∧ St (K' ++ KI) W' ∧ Dj K' KI))
def ownPostL {α : Type} (St : KL → World → Prop) (PJ : List α → KL → Prop) (Px : Code → List α → KL → Prop) (KO : KL) (xs : List α) : Exit → Act → World → Prop
  | .normal, _, W' => ∃ KJ, PJ xs KJ ∧ St (KJ ++ KO) W' ∧ Dj KJ KO
  | .ret, _, W' => ∃ KJ, Px .ret xs KJ ∧ St (KJ ++ KO) W' ∧ Dj KJ KO
  | .exit id, _, W' => ∃ KJ, Px (.exit id) xs KJ ∧ St (KJ ++ KO) W' ∧ Dj KJ KO
  | .goto t, _, W' => ∃ KJ, Px (.goto t) xs KJ ∧ St (KJ ++ KO) W' ∧ Dj KJ KO
  | .panic _, _, _ => False
  | .outgrown, _, _ => False
set_option maxHeartbeats 1000000 in
theorem wpIn_rangeFunc_K {F : Fence} {n : Nat} {P : Program} {α : Type} {g : Operand} {ps : Array Tmp} {assign body : Code} {Q : Exit → Act → World → Prop} {a : Act} {w : World}
    (hro : F.round = none) (h1 : 1 ≤ n) {gf : Nat} {lb : Array Value} (hg : a.eval g = .func (.func gf) #[] lb) (hFg : F.fn gf) (eg : ∀ args w, (callFunc gf args).run P w = .ok (.enter gf args) w)
    {B : Nat} {St : KL → World → Prop} (kp : Keeper B St) {encs : α → Array Value} {X : α → KL → Prop} (hX : ∀ x K K', (∀ p ∈ K, p ∈ K') → X x K → X x K') {S Sp : List α → Prop} {KI : KL}
    (hseq : IterK F (n - 1) P gf lb encs St X S Sp KI) (hps : ∀ x, (encs x).size = ps.size)
    (PJ : List α → KL → Prop) (Px : Code → List α → KL → Prop) (PA : List α → α → KL → Act → Prop) {K0 : KL} (h0 : St (K0 ++ KI) w) (dj0 : Dj K0 KI) (hP0 : PJ [] K0)
    (hassign : ∀ (l : Nat) (pre : List α) (x : α) (KJ KO : KL) (W : World) (K : Act → World → Prop), PJ pre KJ → St (KJ ++ KO) W → Dj KJ KO → X x KO → Sp (pre ++ [x]) →
      (∀ a' W' KJ', PA pre x KJ' a' → St (KJ' ++ KO) W' → Dj KJ' KO → K a' W') →
      assign.wpIn (F.inRound l) (n - 1 - 1) P (Exit.then K (fun _ _ _ => False)) { tmps := (ps.zip (encs x)).foldl (fun t (p, v) => t.setIfInBounds p v) a.tmps, defers := [] } W)
    (hbody : ∀ (l : Nat) (pre : List α) (x : α) (a' : Act) (KJ KO : KL) (W : World), PA pre x KJ a' → St (KJ ++ KO) W → Dj KJ KO → X x KO → Sp (pre ++ [x]) → body.wpIn (F.inRound l) (n - 1 - 1) P (ownPostL St PJ Px KO (pre ++ [x])) a' W)
    (hdone : ∀ (D : Nat) (xs : List α) (KJ : KL) (W : World), S xs → PJ xs KJ → St (KJ ++ (D, .deferred (some [])) :: KI) W → Dj KJ ((D, .deferred (some [])) :: KI) → B ≤ D → Q .normal { a with defers := { target := .collected D, args := #[] } :: a.defers } W)
    (hstop : ∀ (D : Nat) (c : Code) (pre : List α) (KJ : KL) (W : World), Sp pre → Px c pre KJ → St (KJ ++ (D, .deferred (some [])) :: KI) W → Dj KJ ((D, .deferred (some [])) :: KI) → B ≤ D → c.wpIn F n P Q { a with defers := { target := .collected D, args := #[] } :: a.defers } W) :
    (Code.rangeFunc g ps assign body).wpIn F n P Q a w := by
  refine wpIn_rangeFunc ?_
  intro fn hfn
  rw [hro]
  obtain ⟨rec, hrec⟩ : ∃ rec : LoopState → Option Code → Loop, rec = fun st pe => { state := st, pending := pe, fn, tmps := a.tmps, params := ps, assign, body, defers := w.heap.size } := ⟨_, rfl⟩
  obtain ⟨W1, hW1⟩ : ∃ W1, (w.alloc (.deferred (some []))).alloc (.loop (rec .ready none)) = W1 := ⟨_, rfl⟩
  have hB := kp.size h0
  obtain ⟨D, hD⟩ : ∃ D, w.heap.size = D := ⟨_, rfl⟩
  have hlt : ∀ p ∈ K0 ++ KI, p.1 < D := fun p hp => hD ▸ (Array.getElem?_eq_some_iff.1 (kp.lies h0 p hp)).1
  let kd : Nat × Obj := (D, .deferred (some []))
  let kl : LoopState → Option Code → Nat × Obj := fun s c => (D + 1, .loop (rec s c))
  have hkl : ∀ s c, (kl s c).1 = D + 1 := fun _ _ => rfl
  have s1 : St ((K0 ++ [kl .ready none, kd]) ++ KI) W1 := by
    have := kp.new (.loop (rec .ready none)) (kp.new (.deferred (some [])) h0)
    rw [World.size_alloc, hD, hW1] at this
    refine kp.less this (fun p hp => ?_)
    simp only [List.mem_append, List.mem_cons, List.not_mem_nil, or_false, kl, kd] at hp ⊢
    rcases hp with (h | h | h) | h
    · exact .inr (.inr (.inl h))
    · exact .inl h
    · exact .inr (.inl h)
    · exact .inr (.inr (.inr h))
  have dK0 : ∀ s c, Dj K0 [kl s c, kd] := fun s c p hp q hq => by
    have := hlt p (List.mem_append.2 (.inl hp))
    simp only [List.mem_cons, List.not_mem_nil, or_false] at hq
    rcases hq with rfl | rfl <;> simp only [kl, kd] <;> omega
  have dKI : ∀ s c, Dj [kl s c, kd] KI := fun s c q hq p hp => by
    have := hlt p (List.mem_append.2 (.inr hp))
    simp only [List.mem_cons, List.not_mem_nil, or_false] at hq
    rcases hq with rfl | rfl <;> simp only [kl, kd] <;> omega
  -- the record is turned, whatever lies about it
  have turn : ∀ (s s' : LoopState) (c c' : Option Code) (KJ KO : KL) (W : World), St (KJ ++ ([kl s c, kd] ++ KO)) W → Dj KJ ([kl s c, kd] ++ KO) → Dj [kl s c, kd] KO →
      W.heap[D + 1]? = some (.loop (rec s c)) ∧ St (KJ ++ ([kl s' c', kd] ++ KO)) (W.putObj (D + 1) (.loop (rec s' c'))) ∧ Dj KJ ([kl s' c', kd] ++ KO) ∧ Dj [kl s' c', kd] KO := fun s s' c c' KJ KO W hs hd hd2 => by
    refine ⟨kp.lies hs (kl s c) (by simp), ?_, ?_, ?_⟩
    · have h2 : St (kl s c :: (KJ ++ (kd :: KO))) W := kp.less hs (fun p hp => by
        simp only [List.mem_append, List.mem_cons, List.not_mem_nil, or_false] at hp ⊢
        rcases hp with h | h | h | h
        · exact .inr (.inl (.inl h))
        · exact .inl h
        · exact .inr (.inl (.inr h))
        · exact .inr (.inr h))
      have h3 := kp.put (.loop (rec s' c')) h2 (by omega) rfl (fun p hp => by
        simp only [List.mem_append, List.mem_cons] at hp
        rcases hp with h | h | h
        · exact hd p h (kl s c) (by simp)
        · rw [h]; simp only [kd]; omega
        · exact fun e => hd2 (kl s c) (by simp) p h e.symm)
      refine kp.less h3 (fun p hp => ?_)
      simp only [List.mem_append, List.mem_cons, List.not_mem_nil, or_false] at hp ⊢
      rcases hp with h | (h | h) | h
      · exact .inr (.inl h)
      · exact .inl h
      · exact .inr (.inr (.inl h))
      · exact .inr (.inr (.inr h))
    · intro p hp q hq
      simp only [List.mem_append, List.mem_cons, List.not_mem_nil, or_false] at hq
      rcases hq with (rfl | rfl) | h
      · exact hd p hp (kl s c) (by simp)
      · exact hd p hp kd (by simp)
      · exact hd p hp q (by simp [h])
    · intro p hp q hq
      simp only [List.mem_cons, List.not_mem_nil, or_false] at hp
      rcases hp with rfl | rfl
      · exact hd2 (kl s c) (by simp) q hq
      · exact hd2 kd (by simp) q hq
  refine ⟨D + 1, [{ target := .collected D, args := #[] }], W1, { target := .fn (.func gf) lb, args := #[.func (.yield (D + 1)) #[] #[]] }, W1, gf,
    #[.func (.yield (D + 1)) #[] #[]] ++ lb, W1, ?_, ?_, ?_, ?_, fun _ => h1, ?_⟩
  · rw [← hW1, hrec, ← hD]; exact run_enterLoop_outer _ _ _ _ _
  · simp only [resolve, hg]
    simp [go_sem]
  · intro f' hf'; simp [Target.leads] at hf'; subst hf'; exact hFg
  · simp [invoke, go_sem, eg]
  · refine (hseq (D + 1)
      (fun pre K => ∃ KJ, PJ pre KJ ∧ Dj KJ [kl .ready none, kd] ∧ K = KJ ++ [kl .ready none, kd])
      (fun pre K => ∃ c KJ, Px c pre KJ ∧ Dj KJ [kl .done (some c), kd] ∧ K = KJ ++ [kl .done (some c), kd])
      W1 (K0 ++ [kl .ready none, kd]) s1 (dj0.appL (dKI _ _)) ⟨K0, hP0, dK0 _ _, rfl⟩ ?_).mono ?_
    · -- one round
      rintro pre x K W KO ⟨KJ, hPJ, hdj, rfl⟩ hs hd hx hsp
      have hs' : St (KJ ++ ([kl .ready none, kd] ++ KO)) W := by rw [← List.append_assoc]; exact hs
      have hl := kp.lies hs' (kl .ready none) (by simp)
      have hy := run_yield (P := P) (args := encs x) hl (by rw [hrec]; exact hps x)
      rw [hrec] at hy
      refine ⟨fn, _, assign, body, hy, roundIn_of_wpIn hfn (hassign _ pre x KJ ([kl .ready none, kd] ++ KO) W _ hPJ hs' (hdj.appR hd.left) (hX x KO _ (fun p hp => List.mem_append.2 (.inr hp)) hx) hsp ?_)⟩
      clear hy
      intro a' Wa KA hPA hsa hda
      obtain ⟨hla, hsb, hdb, hdc⟩ := turn .ready .busy none none KA KO Wa hsa hda hd.right
      refine ⟨_, run_beginRound hla (by rw [hrec]), ?_⟩
      have e1 : (({ rec .ready none with state := .busy } : Loop)) = rec .busy none := by rw [hrec]
      rw [e1]
      refine wpIn_mono (hbody _ pre x a' KA ([kl .busy none, kd] ++ KO) _ hPA hsb hdb (hX x KO _ (fun p hp => List.mem_append.2 (.inr hp)) hx) hsp) ?_
      have fin : ∀ (jump : Option Code) (KB : KL) (W3 : World), St (KB ++ ([kl .busy none, kd] ++ KO)) W3 → Dj KB ([kl .busy none, kd] ++ KO) →
          (Instr.endRound (D + 1) jump).run P W3 = .ok (.bool jump.isNone) (W3.putObj (D + 1) (.loop (rec (if jump.isNone then .ready else .done) jump))) ∧
          St ((KB ++ [kl (if jump.isNone then .ready else .done) jump, kd]) ++ KO) (W3.putObj (D + 1) (.loop (rec (if jump.isNone then .ready else .done) jump))) ∧
          Dj KB [kl (if jump.isNone then .ready else .done) jump, kd] ∧ Dj (KB ++ [kl (if jump.isNone then .ready else .done) jump, kd]) KO := fun jump KB W3 hs3 hd3 => by
        obtain ⟨hl3, hs4, hd4, hd5⟩ := turn .busy (if jump.isNone then .ready else .done) none jump KB KO W3 hs3 hd3 hdc
        have := run_endRound (P := P) jump hl3
        refine ⟨?_, by rw [List.append_assoc]; exact hs4, hd4.mono (fun _ h => h) (fun _ h => List.mem_append.2 (.inl h)), (hd4.mono (fun _ h => h) (fun _ h => List.mem_append.2 (.inr h))).appL hd5⟩
        rw [this, hrec]
      rintro e a3 W3 hp
      cases e with
      | normal =>
        obtain ⟨KB, hPB, hs3, hd3⟩ := hp
        obtain ⟨hr, hs4, hd4, hd5⟩ := fin none KB W3 hs3 hd3
        exact ⟨_, _, hr, .inl ⟨rfl, _, ⟨KB, hPB, hd4, rfl⟩, hs4, hd5⟩⟩
      | ret =>
        obtain ⟨KB, hPB, hs3, hd3⟩ := hp
        obtain ⟨hr, hs4, hd4, hd5⟩ := fin (some .ret) KB W3 hs3 hd3
        exact ⟨_, _, hr, .inr ⟨rfl, _, ⟨.ret, KB, hPB, hd4, rfl⟩, hs4, hd5⟩⟩
      | exit id =>
        obtain ⟨KB, hPB, hs3, hd3⟩ := hp
        obtain ⟨hr, hs4, hd4, hd5⟩ := fin (some (.exit id)) KB W3 hs3 hd3
        exact ⟨_, _, hr, .inr ⟨rfl, _, ⟨.exit id, KB, hPB, hd4, rfl⟩, hs4, hd5⟩⟩
      | goto t =>
        obtain ⟨KB, hPB, hs3, hd3⟩ := hp
        obtain ⟨hr, hs4, hd4, hd5⟩ := fin (some (.goto t)) KB W3 hs3 hd3
        exact ⟨_, _, hr, .inr ⟨rfl, _, ⟨.goto t, KB, hPB, hd4, rfl⟩, hs4, hd5⟩⟩
      | panic ch => exact hp.elim
      | outgrown => exact hp.elim
    · -- behind the iterator
      rintro e W2 ⟨⟨v, rfl⟩, (⟨xs, K', hS, ⟨KJ, hPJ, hdj, rfl⟩, hs, hd⟩ | ⟨pre, K', hSp, ⟨c, KJ, hPx, hdj, rfl⟩, hs, hd⟩)⟩
      · obtain ⟨hl, hs4, hd4, hd5⟩ := turn .ready .exhausted none none KJ KI W2 (by rw [← List.append_assoc]; exact hs) (hdj.appR hd.left) hd.right
        refine ⟨none, _, by have := run_endLoop (P := P) hl (by rw [hrec]; simp); rw [hrec] at this; exact this, hdone D xs KJ _ hS hPJ (kp.less (by rw [hrec] at hs4; exact hs4) (fun p hp => ?_)) (hd4.mono (fun _ h => h) (fun p hp => ?_)) (by omega)⟩ <;> simp only [List.mem_append, List.mem_cons, List.not_mem_nil, or_false, kd] at hp ⊢
        · rcases hp with h | h | h
          · exact .inl h
          · exact .inr (.inl (.inr h))
          · exact .inr (.inr h)
        · rcases hp with h | h
          · exact .inl (.inr h)
          · exact .inr h
      · obtain ⟨hl, hs4, hd4, hd5⟩ := turn .done .exhausted (some c) (some c) KJ KI W2 (by rw [← List.append_assoc]; exact hs) (hdj.appR hd.left) hd.right
        refine ⟨some c, _, by have := run_endLoop (P := P) hl (by rw [hrec]; simp); rw [hrec] at this; exact this, hstop D c pre KJ _ hSp hPx (kp.less (by rw [hrec] at hs4; exact hs4) (fun p hp => ?_)) (hd4.mono (fun _ h => h) (fun p hp => ?_)) (by omega)⟩ <;> simp only [List.mem_append, List.mem_cons, List.not_mem_nil, or_false, kd] at hp ⊢
        · rcases hp with h | h | h
          · exact .inl h
          · exact .inr (.inl (.inr h))
          · exact .inr (.inr h)
        · rcases hp with h | h
          · exact .inl (.inr h)
          · exact .inr h
end Go.Proofs.YthajipigppndgaaGreat

namespace Go.Proofs.YthajipigppndgaaGreat
open Go.RowKit Go.Maps
open Pg (SpE diffS byteAt)
structure Idl (w0 w : World) (bp : Nat) (K : List (Nat × Obj)) (nb : Nat) (m : Mst) (b : Bk) (V : Pages) : Prop where
  ab : Ab w0 w bp b K
  env : Env b nb m
  idle : Idle b V
structure Nxt (b b' : Bk) (m m' : Mst) : Prop where
  pages : b'.x.pages = b.x.pages
  s1 : m'.seq ≤ m.seq + 1
section
variable {w0 w w' : World} {bp : Nat} {K : List (Nat × Obj)} {nb : Nat} {m : Mst} {U : Pages} {b b' : Bk} {H : List Ch} {V : Pages}
theorem Idl.quiet (h : Idl w0 w bp K nb m b V) (f : Fr [] w w') : Idl w0 w' bp K nb m b V := ⟨h.ab.quiet f, h.env, h.idle⟩
theorem Idl.rd (h : Idl w0 w bp K nb m b V) (r : Rd w0 w' bp K b b') : Idl w0 w' bp K nb m b' V := ⟨r.ab, h.env.tr r.tr, r.idle h.idle⟩
theorem Idl.on {K1 : List (Nat × Obj)} (h : Idl w0 w bp K nb m b V) (k : Ab w0 w' bp b K1) : Idl w0 w' bp K1 nb m b V := ⟨k, h.env, h.idle⟩
theorem env_pages {m' : Mst} (h : Env b nb m) (h' : Env b' nb m') : b'.x.pages = b.x.pages := by
  have h1 := h.pages
  have h2 := h'.pages
  omega
theorem idl_beg (h : Idl w0 w bp K nb m b V) (hs : m.seq ≤ 1000000) :
    Calls Tryz.prog 21 #[.pointer (some ⟨bp, 0, none⟩)] w fun e w' => e = .returned (.int .i64 0) ∧ ∃ b' m', Hid (In w0 w' bp K nb m' V b' [] V ∧ Nxt b b' m m' ∧ phN b' [] = (b.x.y.E : Int) ∧ (b'.x.y.A = b.x.y.A ∨ b'.x.y.A = b.x.y.E) ∧ 204 * b'.x.y.count ≤ b'.room) := by
  refine (ab_beg h.ab h.env h.idle hs).mono ?_
  rintro e w' ⟨he, b', m', P⟩
  obtain ⟨A, B⟩ := P.out
  refine ⟨he, b', m', hidI ⟨⟨A, B.env, B.tx, rfl⟩, ⟨env_pages h.env B.env, B.s1⟩, ?_, B.A, B.room⟩⟩
  unfold phN
  rw [B.E]
  simp [keptOf]
theorem in_com (h : In w0 w bp K nb m U b H V) (hP : phN b H ≤ 380000) :
    Calls Tryz.prog 17 #[.pointer (some ⟨bp, 0, none⟩)] w fun e w' => e = .returned (.int .i64 0) ∧ ∃ b', Hid (Idl w0 w' bp K nb m b' V ∧ Nxt b b' m m ∧ b'.x.y.E = b.x.y.E + 35 ∧ b'.x.y.A = b.x.y.A) := by
  have hE := h.E
  refine (ab_com h.ab h.env h.tx (by omega)).mono ?_
  rintro e w' ⟨he, b', P⟩
  obtain ⟨A, B⟩ := P.out
  exact ⟨he, b', hidI ⟨⟨A, B.env, B.idle⟩, ⟨B.tr.pages, by omega⟩, B.E, B.tr.A⟩⟩
end
def Z0 : Pages := fun _ => zs 512
theorem Z0_byte (q i : Nat) : byteAt (Z0 q) i = 0 := zs_byte i
theorem Z0_len (q : Nat) : (Z0 q).length = 512 := zs_length 512
end Go.Proofs.YthajipigppndgaaGreat

namespace Go.Proofs.YthajipigppndgaaGreat
open Go.RowKit Go.Maps
theorem resCC {fn : Func} {p q : Tmp} {T U : TypeId} (h : fn.results = #[.cell p T, .cell q U]) (tmps : Array Value) (w : World) (g k : Nat) (x y : Value) (hp : tmps.getD p undef = .pointer (some ⟨g, 0, none⟩)) (hq : tmps.getD q undef = .pointer (some ⟨k, 0, none⟩)) (hx : (loadVar T ⟨g, 0, none⟩).run Tryz.prog w = .ok x w) (hy : (loadVar U ⟨k, 0, none⟩).run Tryz.prog w = .ok y w) :
    (results fn tmps).run Tryz.prog w = .ok (.tuple #[x, y]) w := by
  have hp2 : tmps[p]?.getD undef = .pointer (some ⟨g, 0, none⟩) := by simpa using hp
  have hq2 : tmps[q]?.getD undef = .pointer (some ⟨k, 0, none⟩) := by simpa using hq
  simp only [results, h]
  simp [hp2, hq2, asAddr, hx, hy]
def noLink : Array Value := #[.int .i64 0, .int .u8 0, .int .i64 0, .int .i64 0, .slice none 0 0]
theorem sizeLk : (Tryz.prog.info? 79).map (·.size) = some 5 := by kernel_rfl
theorem resLT {fn : Func} {p q : Tmp} (h : fn.results = #[.cell p 79, .tmp q]) (tmps : Array Value) (w : World) (g : Nat) (cs : Array Value) (hc : cs.size = 5) (hp : tmps.getD p undef = .pointer (some ⟨g, 0, none⟩)) (hg : w.heap[g]? = some (.cells cs 79)) :
    (results fn tmps).run Tryz.prog w = .ok (.tuple #[.agg cs, tmps.getD q undef]) w := by
  have hl := run_loadVar_row w g 79 79 cs (0, 0) _ hg Tryz.underlying79 rfl (by rw [sizeLk, hc])
  have hp2 : tmps[p]?.getD undef = .pointer (some ⟨g, 0, none⟩) := by simpa using hp
  simp only [results, h]
  simp [hp2, asAddr, hl]
/-! ### no book -/
theorem nmade_no (w : World) (v : Value) (h : NoBook w v) : Calls Tryz.prog 39 #[v] w fun e w' => e = .returned (.bool false) ∧ w' = w := by
  have PX := bpages_no w v h
  go_enter Tryz.func39, Tryz.ntmps39
  go_wp2_with (go_at_call 16; refine PX.mono ?_; rintro e wz ⟨rfl, hz⟩; rw [hz]; clear hz)
  go_ret
  exact ⟨rfl, rfl⟩
theorem nwithin_no (w : World) (v : Value) (h : NoBook w v) : Calls Tryz.prog 34 #[v] w fun e w' => e = .returned (.int .i64 1) ∧ w' = w := by
  have PX := nmade_no w v h
  go_enter Tryz.func34, Tryz.ntmps34
  go_wp2_with (go_at_call 39; refine PX.mono ?_; rintro e wz ⟨rfl, hz⟩; rw [hz]; clear hz)
  go_ret
  exact ⟨rfl, rfl⟩
set_option maxHeartbeats 1000000 in
theorem nput_no (w : World) (v : Value) (h : NoBook w v) (a : Option Addr) (n c : Nat) : Calls Tryz.prog 12 #[v, .slice a n c] w fun e w' => e = .returned (.tuple #[.int .i64 0, .int .i64 1]) ∧ w' = w := by
  have PX := nwithin_no w v h
  go_enter Tryz.func12, Tryz.ntmps12
  go_wp2_with (go_at_call 34; refine PX.mono ?_; rintro e wz ⟨rfl, hz⟩; rw [hz]; clear hz)
  go_ret2
  exact ⟨rfl, rfl⟩
set_option maxHeartbeats 1000000 in
theorem ndrop_no (w : World) (v : Value) (h : NoBook w v) (k : Int) : Calls Tryz.prog 15 #[v, .int .i64 k] w fun e w' => e = .returned (.int .i64 1) ∧ w' = w := by
  have PX := nwithin_no w v h
  go_enter Tryz.func15, Tryz.ntmps15
  go_wp2_with (go_at_call 34; refine PX.mono ?_; rintro e wz ⟨rfl, hz⟩; rw [hz]; clear hz)
  go_ret
  exact ⟨rfl, rfl⟩
set_option maxHeartbeats 2000000 in
theorem nget_no (w : World) (v : Value) (h : NoBook w v) (k : Int) : Calls Tryz.prog 13 #[v, .int .i64 k] w fun e w' => e = .returned (.tuple #[.slice none 0 0, .int .i64 1]) ∧ Fr [] w w' := by
  have PX : Hid (∀ w', Fr [] w w' → Calls Tryz.prog 39 #[v] w' fun e w'' => e = .returned (.bool false) ∧ w'' = w') := hidI (fun w' f => nmade_no w' v (h.kept f (by simp)))
  have f2 : Fr [] w ((w.alloc (.cells #[.slice none 0 0] 26)).alloc (.cells #[.int .i64 1] 40)) := ((Fr.refl [] w).alloc _).alloc _
  clear h
  go_enter Tryz.func13, Tryz.ntmps13
  go_wp2_with (go_at_call 39; refine (PX.out _ (((Fr.refl [] w).alloc _).alloc _)).mono ?_; rintro e wz ⟨rfl, hz⟩; rw [hz]; clear hz)
  refine bodyPost_ret (resCC rfl _ _ w.heap.size (w.heap.size + 1) (.slice none 0 0) (.int .i64 1) rfl rfl ?_ ?_) rfl ⟨rfl, f2⟩
  · have h1 := (((Fr.refl [] (w.alloc (.cells #[.slice none 0 0] 26))).alloc (.cells #[.int .i64 1] 40)).same (by simp) (heap_alloc_new w (.cells #[.slice none 0 0] 26)))
    have h2 := cell_of_row _ _ 0 _ _ _ h1
    unfold loadVar
    go_simp
  · have h1 := heap_alloc_new (w.alloc (.cells #[.slice none 0 0] 26)) (.cells #[.int .i64 1] 40)
    have h2 := cell_of_row _ _ 0 _ _ _ h1
    have h3 : (w.alloc (.cells #[.slice none 0 0] 26)).heap.size = w.heap.size + 1 := by simp
    rw [h3] at h2
    unfold loadVar
    go_simp
set_option maxHeartbeats 2000000 in
theorem nblocks_no (w : World) (v : Value) (h : NoBook w v) (k : Int) : Calls Tryz.prog 14 #[v, .int .i64 k] w fun e w' => e = .returned (.tuple #[.slice none 0 0, .int .i64 1]) ∧ Fr [] w w' := by
  have PX : Hid (∀ w', Fr [] w w' → Calls Tryz.prog 39 #[v] w' fun e w'' => e = .returned (.bool false) ∧ w'' = w') := hidI (fun w' f => nmade_no w' v (h.kept f (by simp)))
  have f2 : Fr [] w ((w.alloc (.cells #[.slice none 0 0] 45)).alloc (.cells #[.int .i64 1] 40)) := ((Fr.refl [] w).alloc _).alloc _
  clear h
  go_enter Tryz.func14, Tryz.ntmps14
  go_wp2_with (go_at_call 39; refine (PX.out _ (((Fr.refl [] w).alloc _).alloc _)).mono ?_; rintro e wz ⟨rfl, hz⟩; rw [hz]; clear hz)
  refine bodyPost_ret (resCC rfl _ _ w.heap.size (w.heap.size + 1) (.slice none 0 0) (.int .i64 1) rfl rfl ?_ ?_) rfl ⟨rfl, f2⟩
  · have h1 := (((Fr.refl [] (w.alloc (.cells #[.slice none 0 0] 45))).alloc (.cells #[.int .i64 1] 40)).same (by simp) (heap_alloc_new w (.cells #[.slice none 0 0] 45)))
    have h2 := cell_of_row _ _ 0 _ _ _ h1
    unfold loadVar
    go_simp
  · have h1 := heap_alloc_new (w.alloc (.cells #[.slice none 0 0] 45)) (.cells #[.int .i64 1] 40)
    have h2 := cell_of_row _ _ 0 _ _ _ h1
    have h3 : (w.alloc (.cells #[.slice none 0 0] 45)).heap.size = w.heap.size + 1 := by simp
    rw [h3] at h2
    unfold loadVar
    go_simp
/-! ### a book in no transaction -/
section
variable {w0 w : World} {bp : Nat} {b : Bk} {K : List (Nat × Obj)} (h : Ab w0 w bp b K)
include h
theorem nmade_yes (hp : 0 < b.x.pages) : Calls Tryz.prog 39 #[.pointer (some ⟨bp, 0, none⟩)] w fun e w' => e = .returned (.bool true) ∧ w' = w := by
  have PX := ab_pages h
  have q : (0 : Int) < (b.x.pages : Int) := by omega
  clear h
  go_enter Tryz.func39, Tryz.ntmps39
  go_wp2_with (go_at_call 16; refine PX.mono ?_; rintro e wz ⟨rfl, hz⟩; rw [hz]; clear hz)
  go_ret
  exact ⟨rfl, rfl⟩
theorem nwithin_out (hp : 0 < b.x.pages) (hs : b.t.st = 0) : Calls Tryz.prog 34 #[.pointer (some ⟨bp, 0, none⟩)] w fun e w' => e = .returned (.int .i64 7) ∧ w' = w := by
  have PX := nmade_yes h hp
  have IX := ab_in h
  rw [hs] at IX
  clear h
  go_enter Tryz.func34, Tryz.ntmps34
  go_wp2_with (first
    | (go_at_call 39; refine PX.mono ?_; rintro e wz ⟨rfl, hz⟩; rw [hz]; clear hz)
    | (go_at_call 81; refine IX.mono ?_; rintro e wz ⟨rfl, hz⟩; rw [hz]; clear hz))
  go_ret
  exact ⟨rfl, rfl⟩
theorem nwithin_in (hp : 0 < b.x.pages) (hs : b.t.st = 1) : Calls Tryz.prog 34 #[.pointer (some ⟨bp, 0, none⟩)] w fun e w' => e = .returned (.int .i64 0) ∧ w' = w := by
  have PX := nmade_yes h hp
  have IX := ab_in h
  rw [hs] at IX
  clear h
  go_enter Tryz.func34, Tryz.ntmps34
  go_wp2_with (first
    | (go_at_call 39; refine PX.mono ?_; rintro e wz ⟨rfl, hz⟩; rw [hz]; clear hz)
    | (go_at_call 81; refine IX.mono ?_; rintro e wz ⟨rfl, hz⟩; rw [hz]; clear hz))
  go_ret
  exact ⟨rfl, rfl⟩
set_option maxHeartbeats 1000000 in
theorem nput_out (hp : 0 < b.x.pages) (hs : b.t.st = 0) (a : Option Addr) (n c : Nat) : Calls Tryz.prog 12 #[.pointer (some ⟨bp, 0, none⟩), .slice a n c] w fun e w' => e = .returned (.tuple #[.int .i64 0, .int .i64 7]) ∧ w' = w := by
  have PX := nwithin_out h hp hs
  clear h
  go_enter Tryz.func12, Tryz.ntmps12
  go_wp2_with (go_at_call 34; refine PX.mono ?_; rintro e wz ⟨rfl, hz⟩; rw [hz]; clear hz)
  go_ret2
  exact ⟨rfl, rfl⟩
set_option maxHeartbeats 1000000 in
theorem ndrop_out (hp : 0 < b.x.pages) (hs : b.t.st = 0) (k : Int) : Calls Tryz.prog 15 #[.pointer (some ⟨bp, 0, none⟩), .int .i64 k] w fun e w' => e = .returned (.int .i64 7) ∧ w' = w := by
  have PX := nwithin_out h hp hs
  clear h
  go_enter Tryz.func15, Tryz.ntmps15
  go_wp2_with (go_at_call 34; refine PX.mono ?_; rintro e wz ⟨rfl, hz⟩; rw [hz]; clear hz)
  go_ret
  exact ⟨rfl, rfl⟩
def sheetOwn (n : Nat) : Nat := 1 + (n + 4095) / 4096
set_option maxHeartbeats 1000000 in
set_option maxRecDepth 100000 in
theorem sheet_out (hp : b.x.pages ≤ 1000000) (k : Int) (hk : k < (sheetOwn b.x.pages : Int) ∨ (b.x.pages : Int) ≤ k) : Calls Tryz.prog 165 #[.pointer (some ⟨bp, 0, none⟩), .int .i64 k] w fun e w' => e = .returned (.tuple #[.slice none 0 0, .int .i64 4]) ∧ w' = w := by
  have PX := ab_pages h
  obtain ⟨p, hpp⟩ : ∃ p, b.x.pages = p := ⟨_, rfl⟩
  rw [hpp] at PX hp hk
  obtain ⟨own, hown⟩ : ∃ own : Nat, sheetOwn p = own := ⟨_, rfl⟩
  have e1 : IntKind.i64.wrap ((p : Int) + 4096) = (p : Int) + 4096 := wrapI _ (by omega) (by omega)
  have e2 : IntKind.i64.wrap ((p : Int) + 4096 - 1) = (p : Int) + 4095 := by rw [wrapI _ (by omega) (by omega)]; omega
  have e3 : Int.tdiv ((p : Int) + 4095) 4096 = (((p + 4095) / 4096 : Nat) : Int) := by
    rw [Int.tdiv_eq_ediv_of_nonneg (by omega)]
    omega
  have e4 : IntKind.i64.wrap (1 + (((p + 4095) / 4096 : Nat) : Int)) = (own : Int) := by
    rw [wrapI _ (by omega) (by omega), ← hown]
    unfold sheetOwn
    omega
  rw [hown] at hk
  have hdv : (own : Int) = 1 + ((p : Int) + 4095) / 4096 := by
    rw [← hown]
    unfold sheetOwn
    omega
  by_cases hlo : k < (own : Int)
  · have hlo2 : k < 1 + ((p : Int) + 4095) / 4096 := by omega
    clear h hpp hown hdv hlo hk
    go_enter Tryz.func165, Tryz.ntmps165
    go_wp2_with (go_at_call 16; refine PX.mono ?_; rintro e wz ⟨rfl, hz⟩; rw [hz]; clear hz)
    go_ret2
    exact ⟨rfl, rfl⟩
  · have hhi : (p : Int) ≤ k := by omega
    have hlo2 : ¬ k < 1 + ((p : Int) + 4095) / 4096 := by omega
    clear h hpp hown hdv hlo hk
    go_enter Tryz.func165, Tryz.ntmps165
    go_wp2_with (go_at_call 16; refine PX.mono ?_; rintro e wz ⟨rfl, hz⟩; rw [hz]; clear hz)
    go_ret2
    exact ⟨rfl, rfl⟩
set_option maxHeartbeats 2000000 in
set_option maxRecDepth 100000 in
theorem nload_out (hp : b.x.pages ≤ 1000000) (k kind : Int) (hk : k < (sheetOwn b.x.pages : Int) ∨ (b.x.pages : Int) ≤ k) : Calls Tryz.prog 91 #[.pointer (some ⟨bp, 0, none⟩), .int .i64 k, .int .u8 kind] w fun e w' => e = .returned (.tuple #[.agg noLink, .int .i64 4]) ∧ Fr [] w w' := by
  have fa : Fr [] w (w.alloc (.cells noLink 79)) := (Fr.refl [] w).alloc _
  have PX := sheet_out (h.quiet fa) hp k hk
  clear h hk hp
  unfold noLink at *
  go_enter Tryz.func91, Tryz.ntmps91
  go_wp2_with (go_at_call 165; refine PX.mono ?_; rintro e wz ⟨rfl, hz⟩; rw [hz]; clear hz)
  exact bodyPost_ret (resLT rfl _ _ w.heap.size _ rfl rfl (heap_alloc_new w _)) rfl ⟨rfl, fa⟩
end
end Go.Proofs.YthajipigppndgaaGreat

namespace Go.Proofs.YthajipigppndgaaGreat
open Go.RowKit Go.Maps
open Pg (SpE diffS byteAt)
structure Spz (n : Nat) (V : Pages) (tk : Nat → Bool) : Prop where
  sp : Sp n V
  bits : ∀ k, k < n → MkB V k = tk k
  z : ∀ p, ownN n ≤ p → p < n → V p = zs 512
theorem fmt_spz {n : Nat} {V : Pages} (hl : ∀ t, t < mapsN n → (V (1 + t)).length = 512) (hn : 3 ≤ n) (hz : ∀ p, ownN n ≤ p → p < n → V p = zs 512) : Spz n (fmtV n V) (fun k => decide (k < ownN n)) :=
  ⟨fmtV_sp hl hn, fun _ hk => fmtV_bit hl hk, fun p h1 h2 => by rw [fmtV_else h1]; exact hz p h1 h2⟩
theorem Spz.take {n : Nat} {V : Pages} {tk : Nat → Bool} (h : Spz n V tk) {p : Nat} (hp : p < n) (ho : ownN n ≤ p) (hl : (V (1 + p / 4096)).length = 512) : Spz n (takeV V p) (fun k => tk k || decide (k = p)) :=
  ⟨h.sp.take hp ho hl, fun k hk => by rw [takeV_bit hp ho hk hl, h.bits k hk], fun q h1 h2 => by
    have := own_gt hp
    by_cases e : q = p
    · rw [e]; exact takeV_self hp ho
    · rw [takeV_own hp ho e (by omega)]; exact h.z q h1 h2⟩
theorem Spz.give {n : Nat} {V : Pages} {tk : Nat → Bool} (h : Spz n V tk) {p : Nat} (hp : p < n) (ho : ownN n ≤ p) (hl : (V (1 + p / 4096)).length = 512) : Spz n (bitV V p clrB) (fun k => tk k && decide (k ≠ p)) :=
  ⟨h.sp.give hp ho hl, fun k hk => by rw [bitV_clr hl, h.bits k hk], fun q h1 h2 => by
    have := own_gt hp
    rw [bitV_else (by omega)]; exact h.z q h1 h2⟩
theorem Spz.root {n : Nat} {V : Pages} {tk : Nat → Bool} (h : Spz n V tk) {k v : Nat} (hl : (V 0).length = 512) (hk : k < 8) (hv : v < n) (hn : n ≤ 65536) : Spz n (rootV V k v) tk :=
  ⟨h.sp.root hl hk hv hn, fun q hq => by rw [rootV_bit]; exact h.bits q hq, fun q h1 h2 => by
    rw [rootV_else (by unfold ownN at h1; omega)]; exact h.z q h1 h2⟩
theorem Spz.congr {n : Nat} {V : Pages} {tk tk' : Nat → Bool} (h : Spz n V tk) (e : ∀ k, k < n → tk' k = tk k) : Spz n V tk' := ⟨h.sp, fun k hk => by rw [h.bits k hk, e k hk], h.z⟩
theorem cost_zs {V : Pages} {p : Nat} (h : V p = zs 512) {S : List SpE} (hS : S.map (fun e => (e.off, e.off + e.n)) = diffS (V p) (zs 512)) : sumN S ≤ ((0 : Nat) : Int) := by
  have h1 := sum_within (i := 0) (j := 0) (fun k _ _ => by rw [h]) hS
  omega
section
variable {w0 w : World} {bp : Nat} {K : List (Nat × Obj)} {nb : Nat} {m : Mst} {U : Pages} {b : Bk} {H : List Ch} {V : Pages} (h : In w0 w bp K nb m U b H V)
include h
end
end Go.Proofs.YthajipigppndgaaGreat

