/-
  A record's body: the program's body.
-/
import Derived.Test.YthajipigppndgaaGreatY02Z
import Derived.Laws.AppendOwnNone
namespace Go.Proofs.YthajipigppndgaaGreat
open Go.RowKit Go.Maps

def b3L (r : Rec) : List UInt8 := beK 1 r.kind ++ beK 8 r.tx.toNat ++ beK 8 r.prev.toNat
def b4L (r : Rec) : List UInt8 := if r.kind = 2 then b3L r ++ beK 8 r.next.toNat else b3L r
def bodyL (r : Rec) : List UInt8 := if r.new.length = 0 then b4L r else b4L r ++ beK 4 r.block.toNat ++ beK 2 r.off.toNat ++ beK 2 r.new.length ++ r.old ++ r.new
theorem b3L_length (r : Rec) : (b3L r).length = 17 := by simp [b3L, beK_length]
theorem b4L_length (r : Rec) : (b4L r).length = if r.kind = 2 then 25 else 17 := by
  unfold b4L
  split <;> simp [b3L_length, beK_length]
theorem bodyL_length (r : Rec) : (bodyL r).length = (if r.kind = 2 then 25 else 17) + (if r.new.length = 0 then 0 else 8 + r.old.length + r.new.length) := by
  unfold bodyL
  by_cases h : r.new.length = 0
  · rw [if_pos h, if_pos h, b4L_length]; omega
  · rw [if_neg h, if_neg h]
    simp [beK_length, b4L_length]
    omega

/-- A record's lists in memory. -/
structure SpotsAt (w : World) (r : Rec) (s : Spots) : Prop where
  b1 : BytesAt w s.a1 r.old
  b2 : BytesAt w s.a2 r.new
  n1 : s.a1 = none → r.old.length = 0 ∧ s.c1 = 0
  n2 : s.a2 = none → r.new.length = 0 ∧ s.c2 = 0
theorem SpotsAt.kept {w w' : World} {r : Rec} {s : Spots} (h : SpotsAt w r s) (f : Fr [] w w') : SpotsAt w' r s :=
  ⟨h.b1.kept f (by simp), h.b2.kept f (by simp), h.n1, h.n2⟩

/-- A record in a box. -/
def RBox (w : World) (b : Nat) (r : Rec) (s : Spots) : Prop := w.heap[b]? = some (.cells (recV r s) 148)
def PBox (w : World) (b : Nat) (r : Rec) (s : Spots) : Prop := w.heap[b]? = some (.cells (spanV r s) 146)
theorem RBox.c0 {w : World} {b : Nat} {r : Rec} {s : Spots} (h : RBox w b r s) : w.cell? ⟨b, 0, none⟩ = some (.int .i64 r.lsn) := cell_of_row w b 0 _ _ _ h
theorem RBox.c1 {w : World} {b : Nat} {r : Rec} {s : Spots} (h : RBox w b r s) : w.cell? ⟨b, 1, none⟩ = some (.int .i64 r.turn) := cell_of_row w b 1 _ _ _ h
theorem RBox.c2 {w : World} {b : Nat} {r : Rec} {s : Spots} (h : RBox w b r s) : w.cell? ⟨b, 2, none⟩ = some (.int .u8 (r.kind : Int)) := cell_of_row w b 2 _ _ _ h
theorem RBox.c3 {w : World} {b : Nat} {r : Rec} {s : Spots} (h : RBox w b r s) : w.cell? ⟨b, 3, none⟩ = some (.int .i64 r.tx) := cell_of_row w b 3 _ _ _ h
theorem RBox.c4 {w : World} {b : Nat} {r : Rec} {s : Spots} (h : RBox w b r s) : w.cell? ⟨b, 4, none⟩ = some (.int .i64 r.prev) := cell_of_row w b 4 _ _ _ h
theorem RBox.c5 {w : World} {b : Nat} {r : Rec} {s : Spots} (h : RBox w b r s) : w.cell? ⟨b, 5, none⟩ = some (.int .i64 r.next) := cell_of_row w b 5 _ _ _ h
theorem RBox.c6 {w : World} {b : Nat} {r : Rec} {s : Spots} (h : RBox w b r s) : w.cell? ⟨b, 6, none⟩ = some (.int .i64 r.block) := cell_of_row w b 6 _ _ _ h
theorem RBox.c7 {w : World} {b : Nat} {r : Rec} {s : Spots} (h : RBox w b r s) : w.cell? ⟨b, 7, none⟩ = some (.int .i64 r.off) := cell_of_row w b 7 _ _ _ h
theorem RBox.c8 {w : World} {b : Nat} {r : Rec} {s : Spots} (h : RBox w b r s) : w.cell? ⟨b, 8, none⟩ = some (.slice s.a1 r.old.length s.c1) := cell_of_row w b 8 _ _ _ h
theorem RBox.c9 {w : World} {b : Nat} {r : Rec} {s : Spots} (h : RBox w b r s) : w.cell? ⟨b, 9, none⟩ = some (.slice s.a2 r.new.length s.c2) := cell_of_row w b 9 _ _ _ h
theorem PBox.c0 {w : World} {b : Nat} {r : Rec} {s : Spots} (h : PBox w b r s) : w.cell? ⟨b, 0, none⟩ = some (.int .i64 r.block) := cell_of_row w b 0 _ _ _ h
theorem PBox.c1 {w : World} {b : Nat} {r : Rec} {s : Spots} (h : PBox w b r s) : w.cell? ⟨b, 1, none⟩ = some (.int .i64 r.off) := cell_of_row w b 1 _ _ _ h
theorem PBox.c2 {w : World} {b : Nat} {r : Rec} {s : Spots} (h : PBox w b r s) : w.cell? ⟨b, 2, none⟩ = some (.slice s.a1 r.old.length s.c1) := cell_of_row w b 2 _ _ _ h
theorem PBox.c3 {w : World} {b : Nat} {r : Rec} {s : Spots} (h : PBox w b r s) : w.cell? ⟨b, 3, none⟩ = some (.slice s.a2 r.new.length s.c2) := cell_of_row w b 3 _ _ _ h
theorem RBox.kept {w w' : World} {b : Nat} {r : Rec} {s : Spots} {L : List Nat} (h : RBox w b r s) (f : Fr L w w') (hb : b ∉ L) : RBox w' b r s := f.same hb h
theorem PBox.kept {w w' : World} {b : Nat} {r : Rec} {s : Spots} {L : List Nat} (h : PBox w b r s) (f : Fr L w w') (hb : b ∉ L) : PBox w' b r s := f.same hb h

theorem own_at {w0 w : World} {v : Value} {n : Nat} {l : List UInt8} (h : Own w0 w v n (arr l).toList) (hn : 0 < n) (hl : l.length = n) : ∃ g c, v = .slice (some ⟨g, 0, none⟩) n c ∧ BytesAt w (some ⟨g, 0, none⟩) l ∧ w0.heap.size ≤ g ∧ n ≤ c := by
  rcases h.1.2 with ⟨_, h0⟩ | ⟨g, cap, cur, hv, hb, hg, hcap, hmx, hsz, htk⟩
  · omega
  · refine ⟨g, cap, hv, ?_, hb, by omega⟩
    intro j u hu
    refine ⟨g, 0, rfl, ?_⟩
    rw [Nat.zero_add, cell_of_row w g j _ _ _ hg]
    have hj : j < n := by
      have := (List.getElem?_eq_some_iff.1 hu).1
      simp [arr, hl] at this
      omega
    rw [← hu, ← htk, List.getElem?_take]
    simp [hj]

section
variable {ops : Array Oper} {rest : List Oper} {o : Oper} {a : Act} {w : World} {Q : Exit → Act → World → Prop}
/-- append of bytes to a row of one's own that has a place. -/
theorem wp_appB (hgd : o.guard = none) (s x : Operand) (ho : o.op = .call { callee := .builtin .append, args := #[s, x], argTypes := #[26, 26] }) (w0 : World) (g n cap : Nat) (xs : List Value) (hs : a.eval s = .slice (some ⟨g, 0, none⟩) n cap) (hown : Own w0 w (.slice (some ⟨g, 0, none⟩) n cap) n xs)
    (ad : Option Addr) (m c : Nat) (l : List UInt8) (hx : a.eval x = .slice ad m c) (hl : l.length = m) (hsrc : BytesAt w ad l) (hm : n + m ≤ 1000000) (hn : 0 < n) (hne : ad = none → m = 0 ∧ c = 0)
    (h : ∀ g' cap' w', Own w0 w' (.slice (some ⟨g', 0, none⟩) (n + m) cap') (n + m) (xs ++ (arr l).toList) → wpList Tryz.prog ops Q rest (a.put o.dst (.slice (some ⟨g', 0, none⟩) (n + m) cap')) w') : wpList Tryz.prog ops Q (o :: rest) a w := by
  obtain ⟨i, hi, hz, hsz, hb⟩ := info5'
  cases ad with
  | none =>
    obtain ⟨rfl, rfl⟩ := hne rfl
    have e0 : l = [] := List.eq_nil_of_length_eq_zero hl
    subst e0
    refine wpList_append_own_none hgd s x 26 ho w0.heap.size 5 i 1 Tryz.underlying26 hi _ n xs hs hown.1 hx ?_
    have := h g cap w (by simpa [arr] using hown)
    simpa using this
  | some a0 =>
    refine wp_app hgd s x ho w0 _ n xs hs hown (some a0) m c l hx hl hsrc hm (fun _ => ⟨_, rfl⟩) ?_
    intro v' w' o'
    rcases o'.1.2 with ⟨rfl, h0⟩ | ⟨g', cap', cur, rfl, _⟩
    · omega
    · exact h g' cap' w' o'
end
theorem boxes {w w' : World} {b d : Nat} {r : Rec} {s : Spots} (h : RBox w b r s) (k : PBox w d r s) (f : Fr [] w w') :
    w'.cell? ⟨b, 2, none⟩ = some (.int .u8 (r.kind : Int)) ∧ w'.cell? ⟨b, 3, none⟩ = some (.int .i64 r.tx) ∧ w'.cell? ⟨b, 4, none⟩ = some (.int .i64 r.prev) ∧ w'.cell? ⟨b, 5, none⟩ = some (.int .i64 r.next) ∧
    w'.cell? ⟨d, 0, none⟩ = some (.int .i64 r.block) ∧ w'.cell? ⟨d, 1, none⟩ = some (.int .i64 r.off) ∧ w'.cell? ⟨d, 2, none⟩ = some (.slice s.a1 r.old.length s.c1) ∧ w'.cell? ⟨d, 3, none⟩ = some (.slice s.a2 r.new.length s.c2) := by
  have h' := h.kept f (by simp)
  have k' := k.kept f (by simp)
  exact ⟨h'.c2, h'.c3, h'.c4, h'.c5, k'.c0, k'.c1, k'.c2, k'.c3⟩
theorem own_nil {w0 w : World} {v : Value} (h : Own w0 w v 0 []) : Own w0 w v 0 (arr []).toList := by simpa [arr] using h
theorem own_base {w0 w1 w : World} {v : Value} {n : Nat} {xs : List Value} (h : Own w1 w v n xs) (f : Fr [] w0 w1) : Own w0 w v n xs := by
  obtain ⟨⟨h1, h2⟩, h3⟩ := h
  refine ⟨⟨h1, ?_⟩, f.trans h3⟩
  rcases h2 with hn | ⟨g, cap, cur, hv, hb, r⟩
  · exact Or.inl hn
  · exact Or.inr ⟨g, cap, cur, hv, Nat.le_trans f.size hb, r⟩
theorem own_len {w0 w : World} {v : Value} {n m : Nat} {xs : List Value} (h : Own w0 w v n xs) (e : n = m) : Own w0 w v m xs := e ▸ h

set_option maxHeartbeats 400000 in
set_option maxRecDepth 100000 in
theorem body_none (w : World) (r : Rec) (s : Spots) (hk : r.kind < 256) (ht : placeB r.tx = true) (hp : placeB r.prev = true)  (hno : r.old.length ≤ 1000) (hnn : r.new.length ≤ 1000) (q2 : ((r.kind : Int) == 2) = false) (qn : ((r.new.length : Int) == 0) = true) :
    Calls Tryz.prog 263 #[.agg (recV r s)] w fun e w' => ∃ v, e = .returned v ∧ Own w w' v 17 (arr (b3L r)).toList := by
  have rb2 : RBox ((w.alloc (.cells (recV r s) 148)).alloc (.cells (spanV r s) 146)) w.heap.size r s := heap_alloc2_old w _ _
  have pb2 : PBox ((w.alloc (.cells (recV r s) 148)).alloc (.cells (spanV r s) 146)) (w.heap.size + 1) r s := heap_alloc2_new w _ _
  have f2 : Fr [] w ((w.alloc (.cells (recV r s) 148)).alloc (.cells (spanV r s) 146)) := kept_two _ _
  unfold placeB at ht hp
  simp only [Bool.and_eq_true, decide_eq_true_eq] at ht hp
  have hwn : IntKind.i64.wrap (33 + (r.old.length : Int)) = 33 + (r.old.length : Int) := by simp [IntKind.wrap, IntKind.signed, IntKind.bits]; omega
  have hwm : IntKind.i64.wrap (33 + (r.old.length : Int) + (r.new.length : Int)) = 33 + (r.old.length : Int) + (r.new.length : Int) := by simp [IntKind.wrap, IntKind.signed, IntKind.bits]; omega
  unfold recV spanV at rb2 pb2 f2
  unfold recV
  go_enter Tryz.func263, Tryz.ntmps263
  go_wp2_with (refine wp_make0 rfl _ _ rfl (33 + r.old.length + r.new.length) rfl (by rfl) (by omega) _ (Fr.refl _ _) ?_; intro w1 o1; obtain ⟨x2, x3, x4, x5, y0, y1, y2, y3⟩ := boxes rb2 pb2 o1.2)
  have hsz : ((w.alloc (.cells #[.int .i64 r.lsn, .int .i64 r.turn, .int .u8 (r.kind : Int), .int .i64 r.tx, .int .i64 r.prev, .int .i64 r.next, .int .i64 r.block, .int .i64 r.off, .slice s.a1 r.old.length s.c1, .slice s.a2 r.new.length s.c2] 148)).alloc (.cells #[.int .i64 r.block, .int .i64 r.off, .slice s.a1 r.old.length s.c1, .slice s.a2 r.new.length s.c2] 146)).heap.size = w.heap.size + 1 + 1 := by simp
  generalize ((w.alloc (.cells #[.int .i64 r.lsn, .int .i64 r.turn, .int .u8 (r.kind : Int), .int .i64 r.tx, .int .i64 r.prev, .int .i64 r.next, .int .i64 r.block, .int .i64 r.off, .slice s.a1 r.old.length s.c1, .slice s.a2 r.new.length s.c2] 148)).alloc (.cells #[.int .i64 r.block, .int .i64 r.off, .slice s.a1 r.old.length s.c1, .slice s.a2 r.new.length s.c2] 146)) = wb at rb2 pb2 f2 o1 hsz
  rw [hsz] at o1
  clear hsz
  replace o1 := own_nil o1
  refine (put8_any wb _ _ 0 ([]) r.kind _ (by first | rfl | omega | (simp [IntKind.wrap, IntKind.signed, IntKind.bits]; omega)) (by omega) (by first | rfl | simp [beK_length]) (by omega) o1).mono ?_
  rintro e w2 ⟨v2, rfl, o2⟩
  clear x2 x3 x4 x5 y0 y1 y2 y3
  obtain ⟨x2, x3, x4, x5, y0, y1, y2, y3⟩ := boxes rb2 pb2 o2.2
  go_wp2_with fail
  refine (put64_any wb _ _ (0 + 1) ([] ++ beK 1 r.kind) r.tx.toNat _ (by first | rfl | omega | (simp [IntKind.wrap, IntKind.signed, IntKind.bits]; omega)) (by omega) (by first | rfl | simp [beK_length]) (by omega) o2).mono ?_
  rintro e w3 ⟨v3, rfl, o3⟩
  clear x2 x3 x4 x5 y0 y1 y2 y3
  obtain ⟨x2, x3, x4, x5, y0, y1, y2, y3⟩ := boxes rb2 pb2 o3.2
  go_wp2_with fail
  refine (put64_any wb _ _ ((0 + 1) + 8) ([] ++ beK 1 r.kind ++ beK 8 r.tx.toNat) r.prev.toNat _ (by first | rfl | omega | (simp [IntKind.wrap, IntKind.signed, IntKind.bits]; omega)) (by omega) (by first | rfl | simp [beK_length]) (by omega) o3).mono ?_
  rintro e w4 ⟨v4, rfl, o4⟩
  clear x2 x3 x4 x5 y0 y1 y2 y3
  obtain ⟨x2, x3, x4, x5, y0, y1, y2, y3⟩ := boxes rb2 pb2 o4.2
  go_wp2_with fail
  go_ret
  exact ⟨_, rfl, own_base o4 f2⟩

set_option maxHeartbeats 400000 in
set_option maxRecDepth 100000 in
theorem body_one (w : World) (r : Rec) (s : Spots) (hs : SpotsAt w r s) (hk : r.kind < 256) (ht : placeB r.tx = true) (hp : placeB r.prev = true) (hb0 : 0 ≤ r.block) (hb1 : r.block < 65536) (ho0 : 0 ≤ r.off) (ho1 : r.off ≤ 512)  (hno : r.old.length ≤ 1000) (hnn : r.new.length ≤ 1000) (q2 : ((r.kind : Int) == 2) = false) (qn : ((r.new.length : Int) == 0) = false) :
    Calls Tryz.prog 263 #[.agg (recV r s)] w fun e w' => ∃ v, e = .returned v ∧ Own w w' v (25 + r.old.length + r.new.length) (arr (b3L r ++ beK 4 r.block.toNat ++ beK 2 r.off.toNat ++ beK 2 r.new.length ++ r.old ++ r.new)).toList := by
  have rb2 : RBox ((w.alloc (.cells (recV r s) 148)).alloc (.cells (spanV r s) 146)) w.heap.size r s := heap_alloc2_old w _ _
  have pb2 : PBox ((w.alloc (.cells (recV r s) 148)).alloc (.cells (spanV r s) 146)) (w.heap.size + 1) r s := heap_alloc2_new w _ _
  have f2 : Fr [] w ((w.alloc (.cells (recV r s) 148)).alloc (.cells (spanV r s) 146)) := kept_two _ _
  unfold placeB at ht hp
  simp only [Bool.and_eq_true, decide_eq_true_eq] at ht hp
  have hwn : IntKind.i64.wrap (33 + (r.old.length : Int)) = 33 + (r.old.length : Int) := by simp [IntKind.wrap, IntKind.signed, IntKind.bits]; omega
  have hwm : IntKind.i64.wrap (33 + (r.old.length : Int) + (r.new.length : Int)) = 33 + (r.old.length : Int) + (r.new.length : Int) := by simp [IntKind.wrap, IntKind.signed, IntKind.bits]; omega
  unfold recV spanV at rb2 pb2 f2
  unfold recV
  go_enter Tryz.func263, Tryz.ntmps263
  go_wp2_with (refine wp_make0 rfl _ _ rfl (33 + r.old.length + r.new.length) rfl (by rfl) (by omega) _ (Fr.refl _ _) ?_; intro w1 o1; obtain ⟨x2, x3, x4, x5, y0, y1, y2, y3⟩ := boxes rb2 pb2 o1.2)
  have hsz : ((w.alloc (.cells #[.int .i64 r.lsn, .int .i64 r.turn, .int .u8 (r.kind : Int), .int .i64 r.tx, .int .i64 r.prev, .int .i64 r.next, .int .i64 r.block, .int .i64 r.off, .slice s.a1 r.old.length s.c1, .slice s.a2 r.new.length s.c2] 148)).alloc (.cells #[.int .i64 r.block, .int .i64 r.off, .slice s.a1 r.old.length s.c1, .slice s.a2 r.new.length s.c2] 146)).heap.size = w.heap.size + 1 + 1 := by simp
  generalize ((w.alloc (.cells #[.int .i64 r.lsn, .int .i64 r.turn, .int .u8 (r.kind : Int), .int .i64 r.tx, .int .i64 r.prev, .int .i64 r.next, .int .i64 r.block, .int .i64 r.off, .slice s.a1 r.old.length s.c1, .slice s.a2 r.new.length s.c2] 148)).alloc (.cells #[.int .i64 r.block, .int .i64 r.off, .slice s.a1 r.old.length s.c1, .slice s.a2 r.new.length s.c2] 146)) = wb at rb2 pb2 f2 o1 hsz
  rw [hsz] at o1
  clear hsz
  replace o1 := own_nil o1
  refine (put8_any wb _ _ 0 ([]) r.kind _ (by first | rfl | omega | (simp [IntKind.wrap, IntKind.signed, IntKind.bits]; omega)) (by omega) (by first | rfl | simp [beK_length]) (by omega) o1).mono ?_
  rintro e w2 ⟨v2, rfl, o2⟩
  clear x2 x3 x4 x5 y0 y1 y2 y3
  obtain ⟨x2, x3, x4, x5, y0, y1, y2, y3⟩ := boxes rb2 pb2 o2.2
  go_wp2_with fail
  refine (put64_any wb _ _ (0 + 1) ([] ++ beK 1 r.kind) r.tx.toNat _ (by first | rfl | omega | (simp [IntKind.wrap, IntKind.signed, IntKind.bits]; omega)) (by omega) (by first | rfl | simp [beK_length]) (by omega) o2).mono ?_
  rintro e w3 ⟨v3, rfl, o3⟩
  clear x2 x3 x4 x5 y0 y1 y2 y3
  obtain ⟨x2, x3, x4, x5, y0, y1, y2, y3⟩ := boxes rb2 pb2 o3.2
  go_wp2_with fail
  refine (put64_any wb _ _ ((0 + 1) + 8) ([] ++ beK 1 r.kind ++ beK 8 r.tx.toNat) r.prev.toNat _ (by first | rfl | omega | (simp [IntKind.wrap, IntKind.signed, IntKind.bits]; omega)) (by omega) (by first | rfl | simp [beK_length]) (by omega) o3).mono ?_
  rintro e w4 ⟨v4, rfl, o4⟩
  clear x2 x3 x4 x5 y0 y1 y2 y3
  obtain ⟨x2, x3, x4, x5, y0, y1, y2, y3⟩ := boxes rb2 pb2 o4.2
  go_wp2_with fail
  refine (put32_any wb _ _ (((0 + 1) + 8) + 8) ([] ++ beK 1 r.kind ++ beK 8 r.tx.toNat ++ beK 8 r.prev.toNat) r.block.toNat _ (by first | rfl | omega | (simp [IntKind.wrap, IntKind.signed, IntKind.bits]; omega)) (by omega) (by first | rfl | simp [beK_length]) (by omega) o4).mono ?_
  rintro e w5 ⟨v5, rfl, o5⟩
  clear x2 x3 x4 x5 y0 y1 y2 y3
  obtain ⟨x2, x3, x4, x5, y0, y1, y2, y3⟩ := boxes rb2 pb2 o5.2
  go_wp2_with fail
  refine (put16_any wb _ _ ((((0 + 1) + 8) + 8) + 4) ([] ++ beK 1 r.kind ++ beK 8 r.tx.toNat ++ beK 8 r.prev.toNat ++ beK 4 r.block.toNat) r.off.toNat _ (by first | rfl | omega | (simp [IntKind.wrap, IntKind.signed, IntKind.bits]; omega)) (by omega) (by first | rfl | simp [beK_length]) (by omega) o5).mono ?_
  rintro e w6 ⟨v6, rfl, o6⟩
  clear x2 x3 x4 x5 y0 y1 y2 y3
  obtain ⟨x2, x3, x4, x5, y0, y1, y2, y3⟩ := boxes rb2 pb2 o6.2
  go_wp2_with fail
  refine (put16_any wb _ _ (((((0 + 1) + 8) + 8) + 4) + 2) ([] ++ beK 1 r.kind ++ beK 8 r.tx.toNat ++ beK 8 r.prev.toNat ++ beK 4 r.block.toNat ++ beK 2 r.off.toNat) r.new.length _ (by first | rfl | omega | (simp [IntKind.wrap, IntKind.signed, IntKind.bits]; omega)) (by omega) (by first | rfl | simp [beK_length]) (by omega) o6).mono ?_
  rintro e w7 ⟨v7, rfl, o7⟩
  clear x2 x3 x4 x5 y0 y1 y2 y3
  obtain ⟨x2, x3, x4, x5, y0, y1, y2, y3⟩ := boxes rb2 pb2 o7.2
  obtain ⟨g, c, rfl, -, -, -⟩ := own_at o7 (by omega) (by simp [beK_length])
  have hsb := hs.kept (f2.trans o7.2)
  go_wp2_with (first
    | (refine wp_appB rfl _ _ rfl wb g _ c _ rfl o7 s.a1 r.old.length s.c1 r.old rfl rfl hsb.b1 (by omega) (by omega) hs.n1 ?_; intro gA cA wA oA; have hsA := hs.kept (f2.trans oA.2); obtain ⟨-, -, -, -, z0, z1, z2, z3⟩ := boxes rb2 pb2 oA.2)
    | (refine wp_appB rfl _ _ rfl wb gA _ cA _ rfl oA s.a2 r.new.length s.c2 r.new rfl rfl hsA.b2 (by omega) (by omega) hs.n2 ?_; intro gB cB wB oB))
  go_ret
  rw [arr_append, arr_append] at oB
  exact ⟨_, rfl, own_base (own_len oB (by omega)) f2⟩

set_option maxHeartbeats 400000 in
set_option maxRecDepth 100000 in
theorem body_two (w : World) (r : Rec) (s : Spots) (hs : SpotsAt w r s) (hk : r.kind < 256) (ht : placeB r.tx = true) (hp : placeB r.prev = true) (hx : placeB r.next = true) (hb0 : 0 ≤ r.block) (hb1 : r.block < 65536) (ho0 : 0 ≤ r.off) (ho1 : r.off ≤ 512)  (hno : r.old.length ≤ 1000) (hnn : r.new.length ≤ 1000) (q2 : ((r.kind : Int) == 2) = true) (qn : ((r.new.length : Int) == 0) = false) :
    Calls Tryz.prog 263 #[.agg (recV r s)] w fun e w' => ∃ v, e = .returned v ∧ Own w w' v (33 + r.old.length + r.new.length) (arr (b3L r ++ beK 8 r.next.toNat ++ beK 4 r.block.toNat ++ beK 2 r.off.toNat ++ beK 2 r.new.length ++ r.old ++ r.new)).toList := by
  have rb2 : RBox ((w.alloc (.cells (recV r s) 148)).alloc (.cells (spanV r s) 146)) w.heap.size r s := heap_alloc2_old w _ _
  have pb2 : PBox ((w.alloc (.cells (recV r s) 148)).alloc (.cells (spanV r s) 146)) (w.heap.size + 1) r s := heap_alloc2_new w _ _
  have f2 : Fr [] w ((w.alloc (.cells (recV r s) 148)).alloc (.cells (spanV r s) 146)) := kept_two _ _
  unfold placeB at ht hp hx
  simp only [Bool.and_eq_true, decide_eq_true_eq] at ht hp hx
  have hwn : IntKind.i64.wrap (33 + (r.old.length : Int)) = 33 + (r.old.length : Int) := by simp [IntKind.wrap, IntKind.signed, IntKind.bits]; omega
  have hwm : IntKind.i64.wrap (33 + (r.old.length : Int) + (r.new.length : Int)) = 33 + (r.old.length : Int) + (r.new.length : Int) := by simp [IntKind.wrap, IntKind.signed, IntKind.bits]; omega
  unfold recV spanV at rb2 pb2 f2
  unfold recV
  go_enter Tryz.func263, Tryz.ntmps263
  go_wp2_with (refine wp_make0 rfl _ _ rfl (33 + r.old.length + r.new.length) rfl (by rfl) (by omega) _ (Fr.refl _ _) ?_; intro w1 o1; obtain ⟨x2, x3, x4, x5, y0, y1, y2, y3⟩ := boxes rb2 pb2 o1.2)
  have hsz : ((w.alloc (.cells #[.int .i64 r.lsn, .int .i64 r.turn, .int .u8 (r.kind : Int), .int .i64 r.tx, .int .i64 r.prev, .int .i64 r.next, .int .i64 r.block, .int .i64 r.off, .slice s.a1 r.old.length s.c1, .slice s.a2 r.new.length s.c2] 148)).alloc (.cells #[.int .i64 r.block, .int .i64 r.off, .slice s.a1 r.old.length s.c1, .slice s.a2 r.new.length s.c2] 146)).heap.size = w.heap.size + 1 + 1 := by simp
  generalize ((w.alloc (.cells #[.int .i64 r.lsn, .int .i64 r.turn, .int .u8 (r.kind : Int), .int .i64 r.tx, .int .i64 r.prev, .int .i64 r.next, .int .i64 r.block, .int .i64 r.off, .slice s.a1 r.old.length s.c1, .slice s.a2 r.new.length s.c2] 148)).alloc (.cells #[.int .i64 r.block, .int .i64 r.off, .slice s.a1 r.old.length s.c1, .slice s.a2 r.new.length s.c2] 146)) = wb at rb2 pb2 f2 o1 hsz
  rw [hsz] at o1
  clear hsz
  replace o1 := own_nil o1
  refine (put8_any wb _ _ 0 ([]) r.kind _ (by first | rfl | omega | (simp [IntKind.wrap, IntKind.signed, IntKind.bits]; omega)) (by omega) (by first | rfl | simp [beK_length]) (by omega) o1).mono ?_
  rintro e w2 ⟨v2, rfl, o2⟩
  clear x2 x3 x4 x5 y0 y1 y2 y3
  obtain ⟨x2, x3, x4, x5, y0, y1, y2, y3⟩ := boxes rb2 pb2 o2.2
  go_wp2_with fail
  refine (put64_any wb _ _ (0 + 1) ([] ++ beK 1 r.kind) r.tx.toNat _ (by first | rfl | omega | (simp [IntKind.wrap, IntKind.signed, IntKind.bits]; omega)) (by omega) (by first | rfl | simp [beK_length]) (by omega) o2).mono ?_
  rintro e w3 ⟨v3, rfl, o3⟩
  clear x2 x3 x4 x5 y0 y1 y2 y3
  obtain ⟨x2, x3, x4, x5, y0, y1, y2, y3⟩ := boxes rb2 pb2 o3.2
  go_wp2_with fail
  refine (put64_any wb _ _ ((0 + 1) + 8) ([] ++ beK 1 r.kind ++ beK 8 r.tx.toNat) r.prev.toNat _ (by first | rfl | omega | (simp [IntKind.wrap, IntKind.signed, IntKind.bits]; omega)) (by omega) (by first | rfl | simp [beK_length]) (by omega) o3).mono ?_
  rintro e w4 ⟨v4, rfl, o4⟩
  clear x2 x3 x4 x5 y0 y1 y2 y3
  obtain ⟨x2, x3, x4, x5, y0, y1, y2, y3⟩ := boxes rb2 pb2 o4.2
  go_wp2_with fail
  refine (put64_any wb _ _ (((0 + 1) + 8) + 8) ([] ++ beK 1 r.kind ++ beK 8 r.tx.toNat ++ beK 8 r.prev.toNat) r.next.toNat _ (by first | rfl | omega | (simp [IntKind.wrap, IntKind.signed, IntKind.bits]; omega)) (by omega) (by first | rfl | simp [beK_length]) (by omega) o4).mono ?_
  rintro e w5 ⟨v5, rfl, o5⟩
  clear x2 x3 x4 x5 y0 y1 y2 y3
  obtain ⟨x2, x3, x4, x5, y0, y1, y2, y3⟩ := boxes rb2 pb2 o5.2
  go_wp2_with fail
  refine (put32_any wb _ _ ((((0 + 1) + 8) + 8) + 8) ([] ++ beK 1 r.kind ++ beK 8 r.tx.toNat ++ beK 8 r.prev.toNat ++ beK 8 r.next.toNat) r.block.toNat _ (by first | rfl | omega | (simp [IntKind.wrap, IntKind.signed, IntKind.bits]; omega)) (by omega) (by first | rfl | simp [beK_length]) (by omega) o5).mono ?_
  rintro e w6 ⟨v6, rfl, o6⟩
  clear x2 x3 x4 x5 y0 y1 y2 y3
  obtain ⟨x2, x3, x4, x5, y0, y1, y2, y3⟩ := boxes rb2 pb2 o6.2
  go_wp2_with fail
  refine (put16_any wb _ _ (((((0 + 1) + 8) + 8) + 8) + 4) ([] ++ beK 1 r.kind ++ beK 8 r.tx.toNat ++ beK 8 r.prev.toNat ++ beK 8 r.next.toNat ++ beK 4 r.block.toNat) r.off.toNat _ (by first | rfl | omega | (simp [IntKind.wrap, IntKind.signed, IntKind.bits]; omega)) (by omega) (by first | rfl | simp [beK_length]) (by omega) o6).mono ?_
  rintro e w7 ⟨v7, rfl, o7⟩
  clear x2 x3 x4 x5 y0 y1 y2 y3
  obtain ⟨x2, x3, x4, x5, y0, y1, y2, y3⟩ := boxes rb2 pb2 o7.2
  go_wp2_with fail
  refine (put16_any wb _ _ ((((((0 + 1) + 8) + 8) + 8) + 4) + 2) ([] ++ beK 1 r.kind ++ beK 8 r.tx.toNat ++ beK 8 r.prev.toNat ++ beK 8 r.next.toNat ++ beK 4 r.block.toNat ++ beK 2 r.off.toNat) r.new.length _ (by first | rfl | omega | (simp [IntKind.wrap, IntKind.signed, IntKind.bits]; omega)) (by omega) (by first | rfl | simp [beK_length]) (by omega) o7).mono ?_
  rintro e w8 ⟨v8, rfl, o8⟩
  clear x2 x3 x4 x5 y0 y1 y2 y3
  obtain ⟨x2, x3, x4, x5, y0, y1, y2, y3⟩ := boxes rb2 pb2 o8.2
  obtain ⟨g, c, rfl, -, -, -⟩ := own_at o8 (by omega) (by simp [beK_length])
  have hsb := hs.kept (f2.trans o8.2)
  go_wp2_with (first
    | (refine wp_appB rfl _ _ rfl wb g _ c _ rfl o8 s.a1 r.old.length s.c1 r.old rfl rfl hsb.b1 (by omega) (by omega) hs.n1 ?_; intro gA cA wA oA; have hsA := hs.kept (f2.trans oA.2); obtain ⟨-, -, -, -, z0, z1, z2, z3⟩ := boxes rb2 pb2 oA.2)
    | (refine wp_appB rfl _ _ rfl wb gA _ cA _ rfl oA s.a2 r.new.length s.c2 r.new rfl rfl hsA.b2 (by omega) (by omega) hs.n2 ?_; intro gB cB wB oB))
  go_ret
  rw [arr_append, arr_append] at oB
  exact ⟨_, rfl, own_base (own_len oB (by omega)) f2⟩

theorem right_facts {r : Rec} (h : rightB r = true) : 1 ≤ r.lsn ∧ r.lsn ≤ 4611686018427387904 ∧ 1 ≤ r.turn ∧ r.turn ≤ 2147483647 ∧ placeB r.tx = true ∧ placeB r.prev = true ∧ kindB r = true := by
  simp [rightB, headB] at h
  obtain ⟨⟨⟨⟨⟨⟨h0, h1⟩, h2⟩, h3⟩, h4⟩, h5⟩, h6⟩ := h
  exact ⟨h0, h1, h2, h3, h4, h5, h6⟩
/-- What a right record may be. -/
theorem right_kinds {r : Rec} (h : rightB r = true) :
    (r.kind = 1 ∧ r.next = 0 ∧ 0 ≤ r.block ∧ r.block < 65536 ∧ 0 ≤ r.off ∧ 0 < r.new.length ∧ r.off ≤ 512 - (r.new.length : Int) ∧ r.old.length = r.new.length) ∨
    (r.kind = 2 ∧ placeB r.next = true ∧ 0 ≤ r.block ∧ r.block < 65536 ∧ 0 ≤ r.off ∧ 0 < r.new.length ∧ r.off ≤ 512 - (r.new.length : Int) ∧ r.old.length = 0) ∨
    ((r.kind = 3 ∨ r.kind = 4) ∧ r.next = 0 ∧ r.block = 0 ∧ r.off = 0 ∧ r.old.length = 0 ∧ r.new.length = 0) := by
  obtain ⟨-, -, -, -, -, -, h⟩ := right_facts h
  unfold kindB at h
  by_cases k1 : r.kind = 1
  · rw [if_pos k1] at h
    simp [fitsB] at h
    exact Or.inl ⟨k1, h.1, h.2.1.1.1.1.1, h.2.1.1.1.1.2, h.2.1.1.1.2, h.2.1.1.2, h.2.1.2, h.2.2⟩
  rw [if_neg k1] at h
  by_cases k2 : r.kind = 2
  · rw [if_pos k2] at h
    simp [fitsB] at h
    exact Or.inr (Or.inl ⟨k2, h.1, h.2.1.1.1.1.1, h.2.1.1.1.1.2, h.2.1.1.1.2, h.2.1.1.2, h.2.1.2, by rw [h.2.2]; rfl⟩)
  rw [if_neg k2] at h
  by_cases k3 : r.kind = 3 ∨ r.kind = 4
  · rw [if_pos k3] at h
    simp at h
    exact Or.inr (Or.inr ⟨k3, h.1, h.2.1, h.2.2.1, by rw [h.2.2.2.1]; rfl, by rw [h.2.2.2.2]; rfl⟩)
  · rw [if_neg k3] at h
    cases h

/-- The program's body of a right record. -/
theorem body_any (w : World) (r : Rec) (s : Spots) (hs : SpotsAt w r s) (hr : rightB r = true) :
    Calls Tryz.prog 263 #[.agg (recV r s)] w fun e w' => ∃ v, e = .returned v ∧ Own w w' v (bodyL r).length (arr (bodyL r)).toList := by
  obtain ⟨-, -, -, -, ht, hp, -⟩ := right_facts hr
  rcases right_kinds hr with ⟨hk, hn, b0, b1, o0, n0, o1, on⟩ | ⟨hk, hn, b0, b1, o0, n0, o1, on⟩ | ⟨hk, hn, b0, o0, on, nn⟩
  · refine (body_one w r s hs (by omega) ht hp b0 b1 o0 (by omega) (by omega) (by omega) (by rw [beq_eq_false_iff_ne]; omega) (by rw [beq_eq_false_iff_ne]; omega)).mono ?_
    rintro e w' ⟨v, rfl, o⟩
    have e1 : bodyL r = b3L r ++ beK 4 r.block.toNat ++ beK 2 r.off.toNat ++ beK 2 r.new.length ++ r.old ++ r.new := by
      unfold bodyL b4L
      rw [if_neg (by omega), if_neg (by omega)]
    rw [e1]
    exact ⟨v, rfl, own_len o (by simp [b3L_length, beK_length]; omega)⟩
  · refine (body_two w r s hs (by omega) ht hp hn b0 b1 o0 (by omega) (by omega) (by omega) (by rw [beq_iff_eq]; omega) (by rw [beq_eq_false_iff_ne]; omega)).mono ?_
    rintro e w' ⟨v, rfl, o⟩
    have e1 : bodyL r = b3L r ++ beK 8 r.next.toNat ++ beK 4 r.block.toNat ++ beK 2 r.off.toNat ++ beK 2 r.new.length ++ r.old ++ r.new := by
      unfold bodyL b4L
      rw [if_neg (by omega), if_pos (by omega)]
    rw [e1]
    exact ⟨v, rfl, own_len o (by simp [b3L_length, beK_length]; omega)⟩
  · refine (body_none w r s (by omega) ht hp (by omega) (by omega) (by rw [beq_eq_false_iff_ne]; omega) (by rw [beq_iff_eq]; omega)).mono ?_
    rintro e w' ⟨v, rfl, o⟩
    have e1 : bodyL r = b3L r := by
      unfold bodyL b4L
      rw [if_pos (by omega), if_neg (by omega)]
    rw [e1]
    exact ⟨v, rfl, own_len o (by simp [b3L_length])⟩

end Go.Proofs.YthajipigppndgaaGreat

