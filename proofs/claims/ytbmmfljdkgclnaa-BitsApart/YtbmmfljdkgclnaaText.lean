/-
  Text: the row as 0s and 1s.
-/
import Derived.Test.YtbmmfljdkgclnaaSmall
import Derived.Laws.ResultCell
namespace Go.Proofs.Ytbmmfljdkgclnaa
open Go.RowKit

/-- A row of bits that lies in memory. -/
def Box (w : World) (b : Nat) (s : ByteArray) (n : Nat) : Prop := w.heap[b]? = some (.cells #[.string s, .int .i64 (n : Int)] 47)
theorem Box.kept {w w' : World} {b : Nat} {s : ByteArray} {n : Nat} {L : List Nat} (h : Box w b s n) (k : Fr L w w') (hb : b ∉ L) : Box w' b s n := k.same hb h
theorem Box.lt {w : World} {b : Nat} {s : ByteArray} {n : Nat} (h : Box w b s n) : b < w.heap.size := (Array.getElem?_eq_some_iff.1 h).1
theorem Box.c0 {w : World} {b : Nat} {s : ByteArray} {n : Nat} (h : Box w b s n) : w.cell? ⟨b, 0, none⟩ = some (.string s) := by rw [cell_of_row w b 0 _ _ _ h]; rfl
theorem Box.c1 {w : World} {b : Nat} {s : ByteArray} {n : Nat} (h : Box w b s n) : w.cell? ⟨b, 1, none⟩ = some (.int .i64 (n : Int)) := by rw [cell_of_row w b 1 _ _ _ h]; rfl
theorem Box.zero (w : World) : Box (w.alloc (.cells #[.string { data := #[] }, .int .i64 0] 47)) w.heap.size (mkS []) 0 := heap_alloc_new w _
theorem Box.new (w : World) (s : ByteArray) (n : Nat) : Box (w.alloc (.cells #[.string s, .int .i64 (n : Int)] 47)) w.heap.size s n := heap_alloc_new w _

theorem sizeB : (Try.prog.info? 47).map (·.size) = some 2 := by kernel_rfl

section
variable {ops : Array Oper} {rest : List Oper} {o : Oper} {a : Act} {w : World} {Q : Exit → Act → World → Prop}
theorem wp_storeB (hgd : o.guard = none) (x y : Operand) (ho : o.op = .store 47 x y) (g : Nat) (s u : ByteArray) (n m : Nat) (hx : a.eval x = .pointer (some ⟨g, 0, none⟩)) (hy : a.eval y = bv u m) (hg : Box w g s n)
    (h : ∀ w', Box w' g u m → Fr [g] w w' → wpList Try.prog ops Q rest (a.put o.dst undef) w') : wpList Try.prog ops Q (o :: rest) a w :=
  wpList_store_row hgd 47 x y ho g #[.string u, .int .i64 (m : Int)] hx hy 47 #[.string s, .int .i64 (n : Int)] hg (by rw [sizeB]; rfl) rfl (by simp [Value.oneCell'])
    (h _ (setRow_heap w g _ _ _ _ hg) ⟨rfl, rfl, rfl, by simp, fun i _ hn => setRow_other w g i _ (fun e => hn (by simp [e]))⟩)
theorem wp_loadB (hgd : o.guard = none) (x : Operand) (ho : o.op = .load 47 x) (g : Nat) (s : ByteArray) (n : Nat) (hx : a.eval x = .pointer (some ⟨g, 0, none⟩)) (hg : Box w g s n)
    (h : wpList Try.prog ops Q rest (a.put o.dst (bv s n)) w) : wpList Try.prog ops Q (o :: rest) a w :=
  wpList_load_row hgd 47 x ho g hx 47 #[.string s, .int .i64 (n : Int)] _ _ hg Try.underlying47 rfl (by rw [sizeB]; rfl) h
end

theorem resB {fn : Func} {p : Tmp} (h : fn.results = #[.cell p 47]) (tmps : Array Value) (w : World) (g : Nat) (u : ByteArray) (m : Nat) (hp : tmps.getD p undef = .pointer (some ⟨g, 0, none⟩)) (hg : Box w g u m) :
    (results fn tmps).run Try.prog w = .ok (bv u m) w :=
  results_cell_row h tmps w g 47 #[.string u, .int .i64 (m : Int)] (0, 0) _ hp hg Try.underlying47 rfl (by rw [sizeB]; rfl)
theorem resB2 {fn : Func} {p q : Tmp} (h : fn.results = #[.cell p 47, .tmp q]) (tmps : Array Value) (w : World) (g : Nat) (u : ByteArray) (m : Nat) (hp : tmps.getD p undef = .pointer (some ⟨g, 0, none⟩)) (hg : Box w g u m) :
    (results fn tmps).run Try.prog w = .ok (.tuple #[bv u m, tmps.getD q undef]) w := by
  rw [results_cell_tmp h, hp]
  simp [asAddr, run_loadVar_row w g 47 47 #[.string u, .int .i64 (m : Int)] (0, 0) _ hg Try.underlying47 rfl (by rw [sizeB]; rfl), Result.andThen]

def chr (b : Bool) : UInt8 := if b then 49 else 48
def txt (r : List Bool) : List UInt8 := r.map chr
theorem txt_length (r : List Bool) : (txt r).length = r.length := by simp [txt]

theorem txt_step (r : List Bool) (n i : Nat) (hn : r.length = n) (hi : i < n) : ((txt (r.take i)) ++ List.replicate (n - i) 0).set i (chr (r.getD i false)) = txt (r.take (i + 1)) ++ List.replicate (n - (i + 1)) 0 := by
  have hl : (txt (r.take i)).length = i := by rw [txt_length, List.length_take]; omega
  have e1 : List.replicate (n - i) (0 : UInt8) = 0 :: List.replicate (n - (i + 1)) 0 := by rw [← List.replicate_succ]; congr 1; omega
  rw [e1, List.set_append_right _ _ (by omega), hl, Nat.sub_self, List.set_cons_zero]
  rw [List.take_succ_eq_append_getElem (show i < r.length by omega)]
  unfold txt
  rw [List.map_append, List.append_assoc]
  simp [hn, hi]

set_option maxHeartbeats 1000000 in
set_option maxRecDepth 100000 in
theorem text_any (w : World) (s : ByteArray) (n : Nat) (r : List Bool) (h : Rep s n r) :
    Calls Try.prog 20 #[bv s n] w fun e w' => e = .returned (.string (mkS (txt r))) ∧ Fr [] w w' := by
  have hm := h.most
  have hm' : (n : Int) ≤ 1048576 := by omega
  have hn0 : (0 : Int) ≤ (n : Int) := by omega
  go_enter Try.func20, Try.ntmps20
  have hbx0 := Box.new w s n
  have f0 := (Fr.refl [] w).alloc (.cells #[.string s, .int .i64 (n : Int)] 47)
  have hs0 : w.heap.size < (w.alloc (.cells #[.string s, .int .i64 (n : Int)] 47)).heap.size := by simp
  go_wp2_with (first
    | (refine wp_make rfl _ _ rfl n rfl rfl (by omega) ?_; intro w1 g s1 b1 f1; have bx1 := hbx0.kept f1 (by simp); have cc1 := bx1.c1; have fw1 := f0.trans f1; have hs1 : w.heap.size < g := by omega)
    | go_in)
  go_loopw [10] (fun i wr => ∃ j : Nat, j ≤ n ∧ i = .int .i64 j ∧ Blk wr g (txt (r.take j) ++ List.replicate (n - j) 0) ∧ Fr [g] w1 wr) (fun i _ => n - (intOf i).toNat)
  case atStart => exact ⟨0, by omega, rfl, by simpa [txt] using b1, Fr.refl _ _⟩
  case round =>
    obtain ⟨j, hj, rfl, bj, fr⟩ := hrel
    by_cases hlt : j < n
    · have hlt' : (j : Int) < (n : Int) := by omega
      have hj0 : (0 : Int) ≤ (j : Int) := by omega
      have bx := bx1.kept fr (by simp; omega)
      have hst := txt_step r n j h.len hlt
      have q0 := bx.c0
      have q1 := bx.c1
      have hlj : j < (txt (r.take j) ++ List.replicate (n - j) 0).length := by rw [List.length_append, txt_length, List.length_take, List.length_replicate, h.len]; omega
      cases hb : r.getD j false
      · have HB : Hid (r.getD j false = false) := hb
        rw [hb] at hst
        have hst2 : Hid (((txt (r.take j)) ++ List.replicate (n - j) 0).set j 48 = txt (r.take (j + 1)) ++ List.replicate (n - (j + 1)) 0) := hst
        clear hst hb
        go_wp2_with (go_at_call 50; refine (at_in _ s n r h j hlt).mono ?_; rw [HB.out]; rintro e w5 ⟨rfl, f5⟩; have b5 := bj.kept f5 (by simp); have c5 := b5.cell j hlj; have z5 := b5.frozen j; have b6 := b5.set j 48; rw [hst2.out] at b6; have f6 := fr.then f5 (fun _ _ h => nomatch h); simp only [bitN, Bool.false_eq_true, if_false])
        exact ⟨⟨j + 1, by omega, by go_num, b6, f6.setCell _ _ (by simp)⟩, by simp [intOf]; omega⟩
      · have HB : Hid (r.getD j false = true) := hb
        rw [hb] at hst
        have hst2 : Hid (((txt (r.take j)) ++ List.replicate (n - j) 0).set j 49 = txt (r.take (j + 1)) ++ List.replicate (n - (j + 1)) 0) := hst
        clear hst hb
        go_wp2_with (go_at_call 50; refine (at_in _ s n r h j hlt).mono ?_; rw [HB.out]; rintro e w5 ⟨rfl, f5⟩; have b5 := bj.kept f5 (by simp); have c5 := b5.cell j hlj; have z5 := b5.frozen j; have b6 := b5.set j 49; rw [hst2.out] at b6; have f6 := fr.then f5 (fun _ _ h => nomatch h); simp only [bitN, if_true])
        exact ⟨⟨j + 1, by omega, by go_num, b6, f6.setCell _ _ (by simp)⟩, by simp [intOf]; omega⟩
    · obtain rfl : j = n := by omega
      have hL : Hid ((txt r).length = j) := by show _ = _; rw [txt_length, h.len]
      have hB : BytesAt wr (some ⟨g, 0, none⟩) (txt r) := by
        have := bj.bytes
        rw [List.take_of_length_le (by rw [h.len]; omega), Nat.sub_self, List.replicate_zero, List.append_nil] at this
        exact this
      go_wp2_with (refine wp_conv rfl _ rfl (txt r) _ j j rfl hL.out hB (fun _ => Or.inr ⟨_, _, rfl⟩) ?_)
      go_ret
      exact ⟨rfl, fw1.then fr (fun i hi hm => by simp at hm; omega)⟩

end Go.Proofs.Ytbmmfljdkgclnaa
