/-
  cutParts: what was read of a label, put together.
-/
import Derived.Test.YtddcilmeignlmaaGreatDoorNext
namespace Go.Proofs.YtddcilmeignlmaaGreatDoor
open Go.RowKit Go.Maps

/-- A label's parts as a value. -/
abbrev pv (r : ByteArray) (n : Nat) (p : ByteArray) (m : Nat) (s : ByteArray) (k : Nat) (lev : Int) : Value := .agg #[.string r, .int .i64 (n : Int), .string p, .int .i64 (m : Int), .string s, .int .i64 (k : Int), .int .i64 lev]
/-- Parts in memory. -/
def PBox (w : World) (b : Nat) (r : ByteArray) (n : Nat) (p : ByteArray) (m : Nat) (s : ByteArray) (k : Nat) (lev : Int) : Prop := w.heap[b]? = some (.cells #[.string r, .int .i64 (n : Int), .string p, .int .i64 (m : Int), .string s, .int .i64 (k : Int), .int .i64 lev] 45)
section
variable {w w' : World} {b : Nat} {r : ByteArray} {n : Nat} {p : ByteArray} {m : Nat} {s : ByteArray} {k : Nat} {lev : Int}
theorem PBox.kept {L : List Nat} (h : PBox w b r n p m s k lev) (f : Fr L w w') (hb : b ∉ L) : PBox w' b r n p m s k lev := f.same hb h
theorem PBox.lt (h : PBox w b r n p m s k lev) : b < w.heap.size := (Array.getElem?_eq_some_iff.1 h).1
theorem PBox.c0 (h : PBox w b r n p m s k lev) : w.cell? ⟨b, 0, none⟩ = some (.string r) := by rw [cell_of_row w b 0 _ _ _ h]; rfl
theorem PBox.c1 (h : PBox w b r n p m s k lev) : w.cell? ⟨b, 1, none⟩ = some (.int .i64 (n : Int)) := by rw [cell_of_row w b 1 _ _ _ h]; rfl
theorem PBox.c2 (h : PBox w b r n p m s k lev) : w.cell? ⟨b, 2, none⟩ = some (.string p) := by rw [cell_of_row w b 2 _ _ _ h]; rfl
theorem PBox.c3 (h : PBox w b r n p m s k lev) : w.cell? ⟨b, 3, none⟩ = some (.int .i64 (m : Int)) := by rw [cell_of_row w b 3 _ _ _ h]; rfl
theorem PBox.c4 (h : PBox w b r n p m s k lev) : w.cell? ⟨b, 4, none⟩ = some (.string s) := by rw [cell_of_row w b 4 _ _ _ h]; rfl
theorem PBox.c5 (h : PBox w b r n p m s k lev) : w.cell? ⟨b, 5, none⟩ = some (.int .i64 (k : Int)) := by rw [cell_of_row w b 5 _ _ _ h]; rfl
theorem PBox.c6 (h : PBox w b r n p m s k lev) : w.cell? ⟨b, 6, none⟩ = some (.int .i64 lev) := by rw [cell_of_row w b 6 _ _ _ h]; rfl
end
theorem PBox.zero (w : World) : PBox (w.alloc (.cells #[.string { data := #[] }, .int .i64 0, .string { data := #[] }, .int .i64 0, .string { data := #[] }, .int .i64 0, .int .i64 0] 45)) w.heap.size (mkS []) 0 (mkS []) 0 (mkS []) 0 0 := heap_alloc_new w _

theorem sizeP : (Tryz.prog.info? 45).map (·.size) = some 7 := by kernel_rfl
section
variable {ops : Array Oper} {rest : List Oper} {o : Oper} {a : Act} {w : World} {Q : Exit → Act → World → Prop}
theorem wp_storeP (hgd : o.guard = none) (x y : Operand) (ho : o.op = .store 45 x y) (g : Nat) (r : ByteArray) (n : Nat) (p : ByteArray) (m : Nat) (s : ByteArray) (k : Nat) (lev : Int) (r' : ByteArray) (n' : Nat) (p' : ByteArray) (m' : Nat) (s' : ByteArray) (k' : Nat) (lev' : Int)
    (hx : a.eval x = .pointer (some ⟨g, 0, none⟩)) (hy : a.eval y = pv r' n' p' m' s' k' lev') (hg : PBox w g r n p m s k lev)
    (h : ∀ w', PBox w' g r' n' p' m' s' k' lev' → Fr [g] w w' → wpList Tryz.prog ops Q rest (a.put o.dst undef) w') : wpList Tryz.prog ops Q (o :: rest) a w :=
  wpList_store_row hgd 45 x y ho g #[.string r', .int .i64 (n' : Int), .string p', .int .i64 (m' : Int), .string s', .int .i64 (k' : Int), .int .i64 lev'] hx hy 45 #[.string r, .int .i64 (n : Int), .string p, .int .i64 (m : Int), .string s, .int .i64 (k : Int), .int .i64 lev] hg (by rw [sizeP]; rfl) rfl (by simp [Value.oneCell'])
    (h _ (setRow_heap w g _ _ _ _ hg) ⟨rfl, rfl, rfl, by simp, fun i _ hn => setRow_other w g i _ (fun e => hn (by simp [e]))⟩)
end
theorem resP2 {fn : Func} {p q : Tmp} (h : fn.results = #[.cell p 45, .tmp q]) (tmps : Array Value) (w : World) (g : Nat) (r : ByteArray) (n : Nat) (pp : ByteArray) (m : Nat) (s : ByteArray) (k : Nat) (lev : Int) (hp : tmps.getD p undef = .pointer (some ⟨g, 0, none⟩)) (hg : PBox w g r n pp m s k lev) :
    (results fn tmps).run Tryz.prog w = .ok (.tuple #[pv r n pp m s k lev, tmps.getD q undef]) w := by
  rw [results_cell_tmp h, hp]
  simp [asAddr, run_loadVar_row w g 45 45 #[.string r, .int .i64 (n : Int), .string pp, .int .i64 (m : Int), .string s, .int .i64 (k : Int), .int .i64 lev] (0, 0) _ hg Tryz.underlying45 rfl (by rw [sizeP]; rfl), Result.andThen]

set_option maxHeartbeats 2000000 in
set_option maxRecDepth 100000 in
theorem cutParts_any (w : World) (ad : Option Addr) (m c : Nat) (l : List UInt8) (hl : l.length = m) (hb : BytesAt w ad l) (hp : Plain ad) (lev : Int) (fr to : Nat) (last : ByteArray) (hfr : fr ≤ to) (hla : AllB (bl last) last.size) (hls : last.size ≤ 1048576) :
    Calls Tryz.prog 56 #[.slice ad m c, .int .i64 lev, .int .i64 (fr : Int), .int .i64 (to : Int), .string last] w fun e w' =>
      ((∃ u2 u3, e = .returned (.tuple #[pv (mkS l) to u2 fr u3 last.size lev, .bool true]) ∧ Rep u2 fr ((bitsTo l to).take fr) ∧ Rep u3 last.size (said (bl last)) ∧ UnOk l to) ∨ (e = .returned (.tuple #[pv (mkS []) 0 (mkS []) 0 (mkS []) 0 0, .bool false]) ∧ ¬ UnOk l to)) ∧ Fr [] w w' := by
  have p0 := PBox.zero w
  have f0 := (Fr.refl [] w).alloc (.cells #[.string { data := #[] }, .int .i64 0, .string { data := #[] }, .int .i64 0, .string { data := #[] }, .int .i64 0, .int .i64 0] 45)
  go_enter Tryz.func56, Tryz.ntmps56
  go_wp2_with fail
  refine (unpack_any _ ad m c (to : Int) l hl (hb.kept f0 (by simp)) hp).mono ?_
  rintro e w1 ⟨hd, f1⟩
  have p1 := p0.kept f1 (by simp)
  have g1 := f0.trans f1
  clear f0 p0
  obtain ⟨B, hB⟩ : ∃ B, B = w.heap.size := ⟨_, rfl⟩
  rw [← hB] at p1 ⊢
  have hBw0 : w.heap.size ≤ B := by omega
  clear hB
  have hlt := p1.lt
  rcases hd with ⟨rfl, hok⟩ | ⟨rfl, hno⟩
  · rw [Int.toNat_natCast]
    have hrep := hok.rep
    have bR := Box.new w1 (mkS l) to
    have fR : Fr [] w1 (w1.alloc (.cells #[.string (mkS l), .int .i64 (to : Int)] 43)) := (Fr.refl _ _).alloc _
    have p2 := p1.kept fR (by simp)
    have g2 := g1.trans fR
    have hne1 : ¬ B = w1.heap.size := by omega
    clear p1 g1 f1
    go_wp2_with fail
    generalize w1.alloc (.cells #[.string (mkS l), .int .i64 (to : Int)] 43) = w2 at bR p2 g2 fR ⊢
    generalize w1.heap.size = B1 at bR hne1 ⊢
    refine (cut_in _ (mkS l) to 0 fr fr (bitsTo l to) hrep (by omega) hfr).mono ?_
    rintro e w3 ⟨u2, rfl, hu2, f3⟩
    rw [List.drop_zero] at hu2
    have bP := Box.new w3 u2 fr
    have fP : Fr [] w3 (w3.alloc (.cells #[.string u2, .int .i64 (fr : Int)] 43)) := (Fr.refl _ _).alloc _
    have f4 := f3.trans fP
    have p4 := p2.kept f4 (by simp)
    have bR4 := bR.kept f4 (by simp)
    have g4 := g2.trans f4
    clear p2 g2 f3 fP f4 fR
    go_wp2_with fail
    generalize w3.alloc (.cells #[.string u2, .int .i64 (fr : Int)] 43) = w4 at bP p4 bR4 g4 ⊢
    generalize w3.heap.size = B2 at bP ⊢
    refine (of_in _ last hls).mono ?_
    rintro e w5 ⟨hd5, f5⟩
    rcases hd5 with ⟨⟨u3, rfl, hu3⟩, _⟩ | ⟨_, hno⟩
    · have bS := Box.new w5 u3 last.size
      have fS : Fr [] w5 (w5.alloc (.cells #[.string u3, .int .i64 (last.size : Int)] 43)) := (Fr.refl _ _).alloc _
      have f6 := f5.trans fS
      have p6 := p4.kept f6 (by simp)
      have bR5 := bR4.kept f5 (by simp)
      have bP5 := bP.kept f5 (by simp)
      have q0 := bR5.c0
      have q1 := bR5.c1
      have q2 := bP5.c0
      have q3 := bP5.c1
      have l1 := bR5.lt
      have l2 := bP5.lt
      have g6 := g4.trans f6
      have hBw : w.heap.size ≤ B := hBw0
      clear p4 g4 f5 fS f6 bR4 bP
      go_wp2_with (refine wp_storeP rfl _ _ rfl B _ _ _ _ _ _ _ (mkS l) to u2 fr u3 last.size lev rfl rfl p6 ?_; intro w7 p7 f7)
      refine bodyPost_ret (resP2 rfl _ _ B _ _ _ _ _ _ _ rfl p7) rfl ⟨Or.inl ⟨u2, u3, rfl, hu2, hu3, hok⟩, g6.then f7 (fun i hi hm => by simp at hm; omega)⟩
    · exact absurd hla hno
  · have bR := Box.new w1 (mkS []) 0
    have fR : Fr [] w1 (w1.alloc (.cells #[.string (mkS []), .int .i64 0] 43)) := (Fr.refl _ _).alloc _
    have p2 := p1.kept fR (by simp)
    have g2 := g1.trans fR
    go_wp2_with (refine wp_storeP rfl _ _ rfl B _ _ _ _ _ _ _ (mkS []) 0 (mkS []) 0 (mkS []) 0 0 rfl rfl p2 ?_; intro w7 p7 f7)
    refine bodyPost_ret (resP2 rfl _ _ B _ _ _ _ _ _ _ rfl p7) rfl ⟨Or.inr ⟨rfl, hno⟩, g2.then f7 (fun i hi hm => by simp at hm; omega)⟩

end Go.Proofs.YtddcilmeignlmaaGreatDoor
