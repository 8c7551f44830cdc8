/-
  The ground of DeviceSectors: rows of six cells; what the law's own three arrays say of the device.
-/
import Derived.Test.YtkenkgfohgmpnaaDos
import Derived.Test.YtkenkgfohgmpnaaSecs
namespace Go.Proofs.Ytkenkgfohgmpnaa
open Go.RowKit Go.Maps

/-- A block of six cells. -/
def row6 (f : Nat → Value) : Array Value := ((List.range 6).map f).toArray
def Row6 (w : World) (g : Nat) (t : TypeId) (f : Nat → Value) : Prop := w.heap[g]? = some (.cells (row6 f) t)

theorem row6_size (f : Nat → Value) : (row6 f).size = 6 := by simp [row6]
theorem row6_at (f : Nat → Value) (j : Nat) (h : j < 6) : (row6 f)[j]? = some (f j) := by simp [row6, List.getElem?_range h]
theorem Row6.kept {w w' : World} {g : Nat} {t : TypeId} {f : Nat → Value} {L : List Nat} (h : Row6 w g t f) (k : Fr L w w') (hg : g ∉ L) : Row6 w' g t f := k.same hg h
theorem Row6.cell {w : World} {g : Nat} {t : TypeId} {f : Nat → Value} (h : Row6 w g t f) (j : Nat) (hj : j < 6) : w.cell? ⟨g, j, none⟩ = some (f j) := by
  rw [cell_of_row w g j _ _ _ h, row6_at f j hj]
theorem Row6.frozen {w : World} {g : Nat} {t : TypeId} {f : Nat → Value} (h : Row6 w g t f) (j : Nat) : w.frozen? ⟨g, j, none⟩ = false := frozen_of_row w g j _ _ h
theorem Row6.lt {w : World} {g : Nat} {t : TypeId} {f : Nat → Value} (h : Row6 w g t f) : g < w.heap.size := (Array.getElem?_eq_some_iff.1 h).1
theorem Row6.set {w : World} {g : Nat} {t : TypeId} {f : Nat → Value} (h : Row6 w g t f) (j : Nat) (v : Value) : Row6 (w.setCell ⟨g, j, none⟩ v) g t (fun i => if i = j then v else f i) := by
  have e := heap_setCell_same w g j _ _ v h
  unfold Row6
  rw [e]
  congr 2
  apply Array.ext_getElem?
  intro i
  rw [Array.getElem?_setIfInBounds]
  by_cases hi : i < 6
  · rw [row6_at f i hi, row6_at (fun i => if i = j then v else f i) i hi, row6_size]
    by_cases e : j = i
    · subst e
      simp [hi]
    · have e' : ¬ i = j := fun h => e h.symm
      rw [if_neg e, if_neg e']
  · have e1 : (row6 f)[i]? = none := by simp [row6]; omega
    have e2 : (row6 fun i => if i = j then v else f i)[i]? = none := by simp [row6]; omega
    rw [e1, e2, row6_size]
    split
    · rename_i e
      subst e
      simp [hi]
    · rfl
theorem row6_ext {f g : Nat → Value} (h : ∀ i, i < 6 → f i = g i) : row6 f = row6 g := by
  unfold row6
  congr 1
  exact List.map_congr_left (fun i hi => h i (by simpa using hi))

theorem Row6.set_u8 {w : World} {g : Nat} {t : TypeId} {f : Nat → Int} (h : Row6 w g t (fun k => .int .u8 (f k))) (j : Nat) (b : Int) : Row6 (w.setCell ⟨g, j, none⟩ (.int .u8 b)) g t (fun k => .int .u8 (if k = j then b else f k)) := by
  have := h.set j (.int .u8 b)
  unfold Row6 at this ⊢
  rw [this, row6_ext (g := fun k => .int .u8 (if k = j then b else f k))]
  intro i _
  split <;> rfl
theorem Row6.set_bool {w : World} {g : Nat} {t : TypeId} {f : Nat → Bool} (h : Row6 w g t (fun k => .bool (f k))) (j : Nat) (b : Bool) : Row6 (w.setCell ⟨g, j, none⟩ (.bool b)) g t (fun k => .bool (if k = j then b else f k)) := by
  have := h.set j (.bool b)
  unfold Row6 at this ⊢
  rw [this, row6_ext (g := fun k => .bool (if k = j then b else f k))]
  intro i _
  split <;> rfl

theorem row6_all {f : Nat → Value} (h : ∀ i, (f i).oneCell' = true) : (row6 f).all (·.oneCell') = true := by
  rw [Array.all_eq_true_iff_forall_mem]
  intro v hv
  simp [row6] at hv
  obtain ⟨i, _, rfl⟩ := hv
  exact h i
theorem size59 : (Try.prog.info? 59).map (·.size) = some 6 := by kernel_rfl
theorem size60 : (Try.prog.info? 60).map (·.size) = some 6 := by kernel_rfl

section
variable {ops : Array Oper} {rest : List Oper} {o : Oper} {a : Act} {w : World} {Q : Exit → Act → World → Prop}
theorem wp_load59 (hgd : o.guard = none) (x : Operand) (ho : o.op = .load 59 x) (g : Nat) (f : Nat → Value) (hx : a.eval x = .pointer (some ⟨g, 0, none⟩)) (hg : Row6 w g 59 f)
    (h : wpList Try.prog ops Q rest (a.put o.dst (.agg (row6 f))) w) : wpList Try.prog ops Q (o :: rest) a w :=
  wpList_load_row hgd 59 x ho g hx 59 (row6 f) _ _ hg Try.underlying59 rfl (by rw [size59, row6_size]) h
theorem wp_store59 (hgd : o.guard = none) (x y : Operand) (ho : o.op = .store 59 x y) (g : Nat) (f : Nat → Value) (f' : Nat → Int) (hx : a.eval x = .pointer (some ⟨g, 0, none⟩)) (hy : a.eval y = .agg (row6 fun k => .int .u8 (f' k))) (hg : Row6 w g 59 f)
    (h : ∀ w', Row6 w' g 59 (fun k => .int .u8 (f' k)) → Fr [g] w w' → wpList Try.prog ops Q rest (a.put o.dst undef) w') : wpList Try.prog ops Q (o :: rest) a w :=
  wpList_store_row hgd 59 x y ho g (row6 fun k => .int .u8 (f' k)) hx hy 59 (row6 f) hg (by rw [size59, row6_size]) (by rw [row6_size, row6_size]) (row6_all (fun _ => rfl))
    (h _ (setRow_heap w g _ _ _ _ hg) ⟨rfl, rfl, rfl, by simp, fun i _ hn => setRow_other w g i _ (fun e => hn (by simp [e]))⟩)
theorem wp_store60 (hgd : o.guard = none) (x y : Operand) (ho : o.op = .store 60 x y) (g : Nat) (f : Nat → Value) (hx : a.eval x = .pointer (some ⟨g, 0, none⟩)) (hy : a.eval y = .agg #[.bool false, .bool false, .bool false, .bool false, .bool false, .bool false]) (hg : Row6 w g 60 f)
    (h : ∀ w', Row6 w' g 60 (fun _ => .bool false) → Fr [g] w w' → wpList Try.prog ops Q rest (a.put o.dst undef) w') : wpList Try.prog ops Q (o :: rest) a w :=
  wpList_store_row hgd 60 x y ho g (row6 fun _ => .bool false) hx hy 60 (row6 f) hg (by rw [size60, row6_size]) (by rw [row6_size, row6_size]) (row6_all (fun _ => rfl))
    (h _ (setRow_heap w g _ _ _ _ hg) ⟨rfl, rfl, rfl, by simp, fun i _ hn => setRow_other w g i _ (fun e => hn (by simp [e]))⟩)
end

/-- The bytes that a block has which was written with x; 0: never. -/
def baseL (x : Int) : List UInt8 := if x = 0 then zeros else fullL x
theorem baseL_length (x : Int) : (baseL x).length = 512 := by
  unfold baseL; split
  · exact zeros_length
  · exact fullL_length x

/-- What the law's arrays say of the device's tables. -/
structure Agr (La Sa : Nat → Int) (Op : Nat → Bool) (S O : Tab) : Prop where
  la : ∀ k, k < 6 → 0 ≤ La k ∧ La k < 256
  sa : ∀ k, k < 6 → 0 ≤ Sa k ∧ Sa k < 256
  opn : ∀ k : Nat, k < 6 → O k = if Op k then some (fullL (La k)) else none
  safe : ∀ k : Nat, k < 6 → S.get k = baseL (Sa k)
  nz : ∀ k, k < 6 → Op k = true → La k ≠ 0
  eq : ∀ k, k < 6 → Op k = false → Sa k = La k

theorem Agr.start : Agr (fun _ => 0) (fun _ => 0) (fun _ => false) Tab.none Tab.none :=
  ⟨fun _ _ => by omega, fun _ _ => by omega, fun _ _ => rfl, fun _ _ => rfl, (fun _ _ h => nomatch h), fun _ _ _ => rfl⟩

theorem Agr.sync {La Sa : Nat → Int} {Op : Nat → Bool} {S O : Tab} (h : Agr La Sa Op S O) : Agr La La (fun _ => false) (over S O) Tab.none := by
  refine ⟨h.la, h.la, fun _ _ => rfl, fun k hk => ?_, (fun _ _ e => nomatch e), fun _ _ _ => rfl⟩
  have ho := h.opn k hk
  cases e : Op k
  · rw [e] at ho
    have : (over S O).get k = S.get k := by simp [over, Tab.get, ho]
    rw [this, h.safe k hk, h.eq k hk e]
  · rw [e] at ho
    have : (over S O).get k = fullL (La k) := by simp [over, Tab.get, ho]
    rw [this]
    simp [baseL, h.nz k hk e]

theorem Agr.write {La Sa : Nat → Int} {Op : Nat → Bool} {S O : Tab} (h : Agr La Sa Op S O) (j : Nat) (b : Int) (h0 : 0 < b) (h1 : b < 256) :
    Agr (fun i => if i = j then b else La i) Sa (fun i => if i = j then true else Op i) S (O.put j (fullL b)) := by
  refine ⟨fun k hk => ?_, h.sa, fun k hk => ?_, h.safe, fun k hk e => ?_, fun k hk e => ?_⟩
  · by_cases c : k = j
    · simp [c]; omega
    · simpa [c] using h.la k hk
  · by_cases c : k = j
    · simp [c, Tab.put]
    · have c' : ¬ (k : Int) = (j : Int) := by omega
      simp [c, c', Tab.put, h.opn k hk]
  · by_cases c : k = j
    · simp [c]; omega
    · simp [c] at e ⊢; exact h.nz k hk e
  · by_cases c : k = j
    · simp [c] at e
    · simp [c] at e ⊢; exact h.eq k hk e

/-- What a block reads as behind the waking. -/
theorem Agr.read {La Sa : Nat → Int} {Op : Nat → Bool} {S O : Tab} (h : Agr La Sa Op S O) (F : Fs) (k : Nat) (hk : k < 6) :
    latest (wokenAt S O F) Tab.none k = if Op k then tornTo (baseL (Sa k)) (fullL (La k)) (keepOf F k) 8 else baseL (Sa k) := by
  have ho := h.opn k hk
  have hs := h.safe k hk
  cases e : Op k
  · rw [e] at ho
    simp only [latest, Tab.none, Tab.get, wokenAt, ho, Option.getD_none]
    simpa [Tab.get] using hs
  · rw [e] at ho
    simp [latest, Tab.none, Tab.get, wokenAt, ho]
    rw [← hs]
    rfl

/-- The byte at place i. -/
theorem base_at (x : Int) (h0 : 0 ≤ x) (h1 : x < 256) (i : Nat) (hi : i < 512) : (baseL x)[i]?.map UInt8.toNat = some (if x = 0 then 0 else ((x + i / 64) % 256).toNat) := by
  unfold baseL
  by_cases c : x = 0
  · simp only [c, if_true, zeros]
    rw [List.getElem?_replicate, if_pos hi]
    rfl
  · simp [c, fullL, List.getElem?_range hi, fullB]
    omega
theorem tornb_at (a b k : Int) (h0 : 0 ≤ b) (h1 : b < 256) (i : Nat) (hi : i < 512) : (tornTo (baseL a) (fullL b) k 8)[i]?.map UInt8.toNat = if bitOf k (i / 64) = true then some ((b + i / 64) % 256).toNat else (baseL a)[i]?.map UInt8.toNat := by
  have h8 : i / 64 < 8 := by omega
  have hb : i < (baseL a).length := by rw [baseL_length]; exact hi
  by_cases c : bitOf k (i / 64) = true
  · simp [tornTo, List.getElem?_range hi, fullL, h8, c, fullB]
    omega
  · simp [tornTo, List.getElem?_range hi, c, List.getElem?_eq_getElem hb]

/-- 'x | 1' on a byte: odd, and a byte. -/
theorem or_one_u8 (x : Int) (h0 : 0 ≤ x) (h1 : x < 256) : 0 < bits BinOp.or IntKind.u8 x 1 ∧ bits BinOp.or IntKind.u8 x 1 < 256 := by
  obtain ⟨n, rfl⟩ := Int.eq_ofNat_of_zero_le h0
  have hn : n < 256 := by omega
  have hx : n ||| 1 < 2 ^ 8 := Nat.or_lt_two_pow (by omega) (by omega)
  have hp : 0 < n ||| 1 := by
    have : (n ||| 1) % 2 = 1 := by simp [Nat.or_mod_two_eq_one]
    omega
  have e1 : (BitVec.ofInt 8 (n : Int)).toNat = n := by
    rw [BitVec.ofInt_natCast, BitVec.toNat_ofNat]; exact Nat.mod_eq_of_lt (by omega)
  have e2 : (BitVec.ofInt 8 (1 : Int)).toNat = 1 := by decide
  have e3 : bits BinOp.or IntKind.u8 (n : Int) 1 = ((n ||| 1 : Nat) : Int) := by
    show IntKind.u8.wrap ((BitVec.ofInt 8 (n : Int) ||| BitVec.ofInt 8 (1 : Int)).toNat : Int) = _
    rw [BitVec.toNat_or, e1, e2, IntKind.wrap_u8]
    omega
  rw [e3]
  omega

theorem wake_len {w : World} {p bs bo : Nat} {n a : Int} {dn : Bool} {S O : Tab} (h : Dev w p bs bo n a dn S O) (F : Fs) (ad : Option Addr) (fl c : Nat) (hF : FatesAt w ad F) (hfl : F.length = fl) (hlen : fl ≤ 1000000) :
    Calls Try.prog 16 #[.pointer (some ⟨p, 0, none⟩), .slice ad fl c] w fun e w' => e = .returned (.tuple #[]) ∧ Dev w' p bs bo n 0 false (wokenAt S O F) Tab.none ∧ Fr [p, bs, bo] w w' := by
  subst hfl
  exact wake_dev h F ad c hF hlen

/-- The byte of a block that was written with x, at place i, as a cell. -/
theorem base_cell {w : World} {g : Nat} {x : Int} (h0 : 0 ≤ x) (h1 : x < 256) (i : Nat) (hi : i < 512) {l : List UInt8} (hb : Blk w g 5 l) (hl : l[i]?.map UInt8.toNat = (baseL x)[i]?.map UInt8.toNat) :
    w.cell? ⟨g, i, none⟩ = some (.int .u8 (if x = 0 then 0 else (x + (i : Int) / 64) % 256)) := by
  have := hb.cellOf i _ (hl.trans (base_at x h0 h1 i hi))
  rw [this]
  by_cases c : x = 0
  · simp [c]
  · simp [c]; omega
theorem torn_cell {w : World} {g : Nat} {x : Int} (i : Nat) {l : List UInt8} (hb : Blk w g 5 l) (hl : l[i]?.map UInt8.toNat = some ((x + i / 64) % 256).toNat) :
    w.cell? ⟨g, i, none⟩ = some (.int .u8 ((x + (i : Int) / 64) % 256)) := by
  have := hb.cellOf i _ hl
  rw [this]
  congr 2
  omega

end Go.Proofs.Ytkenkgfohgmpnaa
