/-
  Text: the row as 0s and 1s.
-/
import Derived.Test.YtddcilmeignlmaaGreatDoorSmall
import Derived.Laws.ResultCell
namespace Go.Proofs.YtddcilmeignlmaaGreatDoor
open Go.RowKit

/-- A row of bits that lies in memory. -/
def Box (w : World) (b : Nat) (s : ByteArray) (n : Nat) : Prop := w.heap[b]? = some (.cells #[.string s, .int .i64 (n : Int)] 43)
theorem Box.kept {w w' : World} {b : Nat} {s : ByteArray} {n : Nat} {L : List Nat} (h : Box w b s n) (k : Fr L w w') (hb : b ∉ L) : Box w' b s n := k.same hb h
theorem Box.lt {w : World} {b : Nat} {s : ByteArray} {n : Nat} (h : Box w b s n) : b < w.heap.size := (Array.getElem?_eq_some_iff.1 h).1
theorem Box.c0 {w : World} {b : Nat} {s : ByteArray} {n : Nat} (h : Box w b s n) : w.cell? ⟨b, 0, none⟩ = some (.string s) := by rw [cell_of_row w b 0 _ _ _ h]; rfl
theorem Box.c1 {w : World} {b : Nat} {s : ByteArray} {n : Nat} (h : Box w b s n) : w.cell? ⟨b, 1, none⟩ = some (.int .i64 (n : Int)) := by rw [cell_of_row w b 1 _ _ _ h]; rfl
theorem Box.zero (w : World) : Box (w.alloc (.cells #[.string { data := #[] }, .int .i64 0] 43)) w.heap.size (mkS []) 0 := heap_alloc_new w _
theorem Box.new (w : World) (s : ByteArray) (n : Nat) : Box (w.alloc (.cells #[.string s, .int .i64 (n : Int)] 43)) w.heap.size s n := heap_alloc_new w _

theorem sizeB : (Tryz.prog.info? 43).map (·.size) = some 2 := by kernel_rfl

section
variable {ops : Array Oper} {rest : List Oper} {o : Oper} {a : Act} {w : World} {Q : Exit → Act → World → Prop}
theorem wp_storeB (hgd : o.guard = none) (x y : Operand) (ho : o.op = .store 43 x y) (g : Nat) (s u : ByteArray) (n m : Nat) (hx : a.eval x = .pointer (some ⟨g, 0, none⟩)) (hy : a.eval y = bv u m) (hg : Box w g s n)
    (h : ∀ w', Box w' g u m → Fr [g] w w' → wpList Tryz.prog ops Q rest (a.put o.dst undef) w') : wpList Tryz.prog ops Q (o :: rest) a w :=
  wpList_store_row hgd 43 x y ho g #[.string u, .int .i64 (m : Int)] hx hy 43 #[.string s, .int .i64 (n : Int)] hg (by rw [sizeB]; rfl) rfl (by simp [Value.oneCell'])
    (h _ (setRow_heap w g _ _ _ _ hg) ⟨rfl, rfl, rfl, by simp, fun i _ hn => setRow_other w g i _ (fun e => hn (by simp [e]))⟩)
theorem wp_loadB (hgd : o.guard = none) (x : Operand) (ho : o.op = .load 43 x) (g : Nat) (s : ByteArray) (n : Nat) (hx : a.eval x = .pointer (some ⟨g, 0, none⟩)) (hg : Box w g s n)
    (h : wpList Tryz.prog ops Q rest (a.put o.dst (bv s n)) w) : wpList Tryz.prog ops Q (o :: rest) a w :=
  wpList_load_row hgd 43 x ho g hx 43 #[.string s, .int .i64 (n : Int)] _ _ hg Tryz.underlying43 rfl (by rw [sizeB]; rfl) h
end

theorem resB {fn : Func} {p : Tmp} (h : fn.results = #[.cell p 43]) (tmps : Array Value) (w : World) (g : Nat) (u : ByteArray) (m : Nat) (hp : tmps.getD p undef = .pointer (some ⟨g, 0, none⟩)) (hg : Box w g u m) :
    (results fn tmps).run Tryz.prog w = .ok (bv u m) w :=
  results_cell_row h tmps w g 43 #[.string u, .int .i64 (m : Int)] (0, 0) _ hp hg Tryz.underlying43 rfl (by rw [sizeB]; rfl)
theorem resB2 {fn : Func} {p q : Tmp} (h : fn.results = #[.cell p 43, .tmp q]) (tmps : Array Value) (w : World) (g : Nat) (u : ByteArray) (m : Nat) (hp : tmps.getD p undef = .pointer (some ⟨g, 0, none⟩)) (hg : Box w g u m) :
    (results fn tmps).run Tryz.prog w = .ok (.tuple #[bv u m, tmps.getD q undef]) w := by
  rw [results_cell_tmp h, hp]
  simp [asAddr, run_loadVar_row w g 43 43 #[.string u, .int .i64 (m : Int)] (0, 0) _ hg Tryz.underlying43 rfl (by rw [sizeB]; rfl), Result.andThen]

def chr (b : Bool) : UInt8 := if b then 49 else 48
def txt (r : List Bool) : List UInt8 := r.map chr
theorem txt_length (r : List Bool) : (txt r).length = r.length := by simp [txt]

theorem txt_step (r : List Bool) (n i : Nat) (hn : r.length = n) (hi : i < n) : ((txt (r.take i)) ++ List.replicate (n - i) 0).set i (chr (r.getD i false)) = txt (r.take (i + 1)) ++ List.replicate (n - (i + 1)) 0 := by
  have hl : (txt (r.take i)).length = i := by rw [txt_length, List.length_take]; omega
  have e1 : List.replicate (n - i) (0 : UInt8) = 0 :: List.replicate (n - (i + 1)) 0 := by rw [← List.replicate_succ]; congr 1; omega
  rw [e1, List.set_append_right _ _ (by omega), hl, Nat.sub_self, List.set_cons_zero]
  rw [List.take_succ_eq_append_getElem (show i < r.length by omega)]
  unfold txt
  rw [List.map_append, List.append_assoc]
  simp [hn, hi]

end Go.Proofs.YtddcilmeignlmaaGreatDoor
