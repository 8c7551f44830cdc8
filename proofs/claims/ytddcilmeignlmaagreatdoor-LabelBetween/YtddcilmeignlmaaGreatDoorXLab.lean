/-
  The document's own answer: a label of steps.
-/
import Derived.Test.YtddcilmeignlmaaGreatDoorXUnpk
import Derived.Test.YtddcilmeignlmaaGreatDoorLabRead
import Derived.Test.YtddcilmeignlmaaGreatDoorLApp
namespace Go.Proofs.YtddcilmeignlmaaGreatDoor
open Go.RowKit Go.Maps Go.Lib

/-! ### rows of texts that are owned -/
theorem info9' : ∃ i, Tryz.prog.info? 9 = some i ∧ i.zero = some (.string ⟨#[]⟩) ∧ i.size = 1 ∧ i.bytes = 16 := by
  have h : (Tryz.prog.info? 9).map (fun i => (i.zero, i.size, i.bytes)) = some (some (.string ⟨#[]⟩), 1, 16) := by kernel_rfl
  cases hi : Tryz.prog.info? 9 with
  | none => rw [hi] at h; cases h
  | some i =>
    rw [hi] at h
    simp at h
    exact ⟨i, rfl, h.1, h.2.1, h.2.2⟩
def Strs (w0 w : World) (v : Value) (l : List ByteArray) : Prop := w.ownsRow w0.heap.size 9 1 v l.length (l.map Value.string)
theorem Strs.nil (w0 w : World) : Strs w0 w (.slice none 0 0) [] := World.ownsRow_nil w _ 9 1
theorem Strs.shape {w0 w : World} {v : Value} {l : List ByteArray} (h : Strs w0 w v l) : ∃ ad cap, v = .slice ad l.length cap ∧ ((ad = none ∧ l = []) ∨ ∃ g, ad = some ⟨g, 0, none⟩ ∧ g < w.heap.size ∧ l.length ≤ cap ∧ ∀ (j : Nat) x, l[j]? = some x → w.cell? ⟨g, 0 + j, none⟩ = some (.string x)) := by
  rcases h.2 with ⟨rfl, hn⟩ | ⟨g, cap, cur, rfl, hb, hg, hnc, _, hcs, ht⟩
  · exact ⟨none, 0, by rw [hn], Or.inl ⟨rfl, List.eq_nil_of_length_eq_zero hn⟩⟩
  · refine ⟨_, cap, rfl, Or.inr ⟨g, rfl, (Array.getElem?_eq_some_iff.1 hg).1, hnc, fun j x hj => ?_⟩⟩
    have hjl : j < l.length := (List.getElem?_eq_some_iff.1 hj).1
    rw [Nat.zero_add, cell_of_row w g j _ _ _ hg]
    have : (l.map Value.string)[j]? = some (.string x) := by simp [hj]
    rw [← this, ← ht, List.getElem?_take, if_pos (by omega)]
    simp
theorem Strs.kept0 {w0 w w' : World} {v : Value} {l : List ByteArray} (h : Strs w0 w v l) (k : Fr [] w w') : Strs w0 w' v l := by
  obtain ⟨h1, h2⟩ := h
  refine ⟨h1, ?_⟩
  rcases h2 with hn | ⟨g, cap, cur, rfl, hb, hg, r⟩
  · exact Or.inl hn
  · exact Or.inr ⟨g, cap, cur, rfl, hb, k.same (by simp) hg, r⟩
theorem Strs.keptG {w0 w w' : World} {v : Value} {l : List ByteArray} {L : List Nat} (h : Strs w0 w v l) (k : Fr L w w') (hL : ∀ g, v.ownBlock = some g → g ∉ L) : Strs w0 w' v l := by
  obtain ⟨h1, h2⟩ := h
  refine ⟨h1, ?_⟩
  rcases h2 with hn | ⟨g, cap, cur, rfl, hb, hg, r⟩
  · exact Or.inl hn
  · exact Or.inr ⟨g, cap, cur, rfl, hb, k.same (hL g rfl) hg, r⟩
section
variable {ops : Array Oper} {rest : List Oper} {o : Oper} {a : Act} {w : World} {Q : Exit → Act → World → Prop}
theorem wp_appS (hgd : o.guard = none) (s y : Operand) (ho : o.op = .call { callee := .builtin .append, args := #[s, y], argTypes := #[49, 49] }) (w0 : World) (v : Value) (l : List ByteArray) (hs : a.eval s = v) (hown : Strs w0 w v l) (hw : w0.heap.size ≤ w.heap.size)
    (b c : Nat) (x : ByteArray) (hy : a.eval y = .slice (some ⟨b, 0, none⟩) 1 c) (hx : w.cell? ⟨b, 0, none⟩ = some (.string x)) (hm : l.length + 1 ≤ 16777216) (f0 : Fr [] w0 w)
    (h : ∀ v' w', Strs w0 w' v' (l ++ [x]) → Fr [] w0 w' → wpList Tryz.prog ops Q rest (a.put o.dst v') w') : wpList Tryz.prog ops Q (o :: rest) a w :=
  wpList_plain hgd fun K hK => by
    obtain ⟨i, hi, hz, hsz, hb⟩ := info9'
    obtain ⟨g, cap, w', hrun, h2, h3, h5, h6⟩ := run_append_lies (P := Tryz.prog) w 49 o.type w0.heap.size 9 i (.string ⟨#[]⟩) 1 16 Tryz.underlying49 hi hz hsz hb rfl (by omega) v l.length (l.map Value.string) hown ⟨b, 0, none⟩ 1 c [.string x] (by simp) (by intro j u hj; cases j with | zero => (simp at hj; subst hj; rw [Addr.add_mid]; simpa using hx) | succ j => simp at hj) (by intro u hu; simp at hu; subst hu; rfl) (by omega) (by unfold maxLen; omega) (by omega) hw _ rfl
    unfold Oper.wp execOp
    simp [ho, resolve, invoke, builtin, hs, hy, hrun, Result.andThen]
    refine hK _ _ (h _ _ ?_ (f0.grown h3 (fun j e hj => ?_)))
    · show w'.ownsRow w0.heap.size 9 1 _ (l ++ [x]).length ((l ++ [x]).map Value.string)
      rw [List.length_append, List.map_append]
      exact h2
    · have := (hown.lt j e).1
      omega
end
theorem run_mid (s : ByteArray) (p q : Nat) (h1 : p ≤ q) (h2 : q ≤ s.size) (w : World) : (Instr.slice 9 (.string s) (some (.int .i64 (p : Int))) (some (.int .i64 (q : Int))) none).run Tryz.prog w = .ok (.string (mkS (((bl s).drop p).take (q - p)))) w := by
  rw [run_slice_string (P := Tryz.prog) w 9 s .i64 .i64 (p : Int) (q : Int) Tryz.underlying9 (by omega) (by omega) (by omega)]
  have e : s.extract p q = mkS (((bl s).drop p).take (q - p)) := by
    have := ByteArray.extract_mk (bl s) p q
    have e2 : ByteArray.mk (bl s).toArray = s := rfl
    rw [e2] at this
    rw [this]
    rfl
  simp [e]
theorem txt_cut (r : List Bool) (p n : Nat) : txt ((r.drop p).take n) = ((txt r).drop p).take n := by simp [txt]
theorem Strs.from {w0 w1 w : World} {v : Value} {l : List ByteArray} (h : Strs w1 w v l) (k : Fr [] w0 w1) : Strs w0 w v l := by
  obtain ⟨h1, h2⟩ := h
  refine ⟨h1, ?_⟩
  rcases h2 with hn | ⟨g, cap, cur, rfl, hb, r⟩
  · exact Or.inl hn
  · exact Or.inr ⟨g, cap, cur, rfl, by have := k.size; omega, r⟩
/-- A step as a text. -/
def sT (s : List Bool) : ByteArray := mkS (txt s)
theorem sT_size (s : List Bool) : (sT s).size = s.length := by unfold sT; rw [mkS_size, txt_length]
theorem txt_app (s t : List Bool) : txt (s ++ t) = txt s ++ txt t := by simp [txt]
theorem txt_byte (r : List Bool) (k : Nat) (h : k < r.length) : byteAt (txt r) k = chr (r.getD k false) := by
  unfold byteAt txt
  simp [h]
theorem chr_one (b : Bool) : ((((chr b).toNat : Nat) : Int) == 49) = b := by cases b <;> decide
theorem chr_nought (b : Bool) : ((((chr b).toNat : Nat) : Int) != 48) = b := by cases b <;> decide
theorem chr_notone (b : Bool) : ((((chr b).toNat : Nat) : Int) != 49) = !b := by cases b <;> decide
theorem mk_app (s t : List UInt8) : mkS s ++ mkS t = mkS (s ++ t) := by
  apply ByteArray.ext
  simp [mkS]
theorem dbl_takeG (s : List Bool) (i : Nat) (h : i < s.length) : dbl (s.take (i + 1)) = dbl (s.take i) ++ [true, s.getD i false] := by
  rw [List.take_succ_eq_append_getElem h, dbl_append]
  simp [dbl, h]
theorem wr_txt (s : List Bool) : mkS (txt (wr s)) = mkS (txt (dbl s)) ++ { data := #[48] } := by
  rw [show (ByteArray.mk #[48]) = mkS [48] from rfl, mk_app, wr, txt_app]; rfl
set_option maxHeartbeats 2000000 in
theorem written_any (w : World) (s : List Bool) (hs : s.length ≤ 3000) :
    Calls Tryz.prog 63 #[.string (sT s)] w fun e w' => e = .returned (.string (mkS (txt (wr s)))) ∧ Fr [] w w' := by
  have hz := sT_size s
  have hs' : (s.length : Int) ≤ 3000 := by omega
  have i1 : ((sT s).size : Int) = (s.length : Int) := by omega
  have HI : Hid ((sT s).size = s.length) := hz
  clear hz
  go_enter Tryz.func63, Tryz.ntmps63
  go_wp2_with go_in
  go_loopw [3, 4] (fun o i wr' => ∃ j : Nat, j ≤ s.length ∧ i = .int .i64 j ∧ o = .string (mkS (txt (dbl (s.take j)))) ∧ Fr [] w wr') (fun _ i _ => s.length - (RowKit.intOf i).toNat)
  case atStart => exact ⟨0, by omega, rfl, rfl, Fr.refl _ _⟩
  case round =>
    obtain ⟨j, hj, rfl, rfl, f⟩ := hrel
    have hj0 : (0 : Int) ≤ (j : Int) := by omega
    by_cases hlt : j < s.length
    · have hlt' : (j : Int) < (s.length : Int) := by omega
      have q1 := run_mid (sT s) j (j + 1) (by omega) (by rw [HI.out]; omega)
      have e1 : ((bl (sT s)).drop j).take (j + 1 - j) = [chr (s.getD j false)] := by
        rw [show j + 1 - j = 1 by omega]
        show ((txt s).drop j).take 1 = _
        simp [txt, List.drop_eq_getElem_cons, hlt]
      rw [e1, show (((j + 1 : Nat) : Int)) = (j : Int) + 1 by omega] at q1
      have e2 := dbl_takeG s j hlt
      generalize s.getD j false = b at q1 e2
      have hA : (mkS (txt (dbl (s.take j)))).size = 2 * j := by rw [mkS_size, txt_length, dbl_length, List.length_take]; omega
      have hB : (mkS [chr b]).size = 1 := rfl
      have d1 : ¬ 9223372036854775807 < (mkS (txt (dbl (List.take j s)))).size + 1 := by omega
      have d2 : ¬ 9223372036854775807 < (mkS (txt (dbl (List.take j s)))).size + 1 + (mkS [chr b]).size := by omega
      have e3 : mkS (txt (dbl (s.take (j + 1)))) = mkS (txt (dbl (s.take j))) ++ { data := #[49] } ++ mkS [chr b] := by
        rw [e2, txt_app, ← mk_app]
        have : mkS (txt [true, b]) = { data := #[49] } ++ mkS [chr b] := by
          rw [show (ByteArray.mk #[49]) = mkS [49] from rfl, mk_app]; rfl
        rw [this, ByteArray.append_assoc]
      clear e1 e2 hA hB
      go_wp2_with fail
      refine ⟨⟨j + 1, by omega, by go_num, ?_, f⟩, by simp [RowKit.intOf]; omega⟩
      rw [e3]
    · obtain rfl : j = s.length := by omega
      have hA : (mkS (txt (dbl (s.take s.length)))).size = 2 * s.length := by rw [mkS_size, txt_length, dbl_length, List.length_take]; omega
      have d1 : ¬ 9223372036854775807 < (mkS (txt (dbl (List.take s.length s)))).size + 1 := by omega
      have e3 := wr_txt s
      rw [List.take_length] at d1 ⊢
      clear hA
      go_wp2
      go_ret
      refine ⟨?_, f⟩
      rw [e3]
      rfl
/-- A row of texts in memory. -/
def StrAt (w : World) (ad : Option Addr) (L : List ByteArray) : Prop := ∀ (j : Nat) x, L[j]? = some x → ∃ b off, ad = some ⟨b, off, none⟩ ∧ w.cell? ⟨b, off + j, none⟩ = some (.string x)
theorem StrAt.kept {w w' : World} {ad : Option Addr} {L : List ByteArray} (h : StrAt w ad L) (k : Fr [] w w') : StrAt w' ad L := by
  intro j x hx
  obtain ⟨b, off, e, hc⟩ := h j x hx
  exact ⟨b, off, e, cell_fr hc k (by simp)⟩
theorem Strs.row {w0 w : World} {v : Value} {L : List ByteArray} (h : Strs w0 w v L) : ∃ ad cap, v = .slice ad L.length cap ∧ StrAt w ad L := by
  obtain ⟨ad, cap, rfl, hh⟩ := h.shape
  refine ⟨ad, cap, rfl, fun j x hx => ?_⟩
  rcases hh with ⟨_, rfl⟩ | ⟨g, rfl, _, _, hc⟩
  · simp at hx
  · exact ⟨g, 0, rfl, hc j x hx⟩
theorem enc_take (ss : List (List Bool)) (i : Nat) (h : i < ss.length) : enc (ss.take (i + 1)) = enc (ss.take i) ++ wr ss[i] := by
  rw [List.take_succ_eq_append_getElem h, enc_append, enc_one]
theorem enc_take_le (ss : List (List Bool)) (i : Nat) : (enc (ss.take i)).length ≤ (enc ss).length := by
  have : enc ss = enc (ss.take i) ++ enc (ss.drop i) := by rw [← enc_append, List.take_append_drop]
  rw [this, List.length_append]
  omega
theorem enc_mem_le {ss : List (List Bool)} {i : Nat} (h : i < ss.length) : ss[i].length ≤ (enc ss).length := by
  have := enc_take_le ss (i + 1)
  rw [enc_take ss i h, List.length_append, wr_length] at this
  omega
theorem len_le_enc (ss : List (List Bool)) : ss.length ≤ (enc ss).length := by
  induction ss with
  | nil => simp
  | cons s r ih => rw [enc_cons, List.length_append, wr_length, List.length_cons]; omega
set_option maxHeartbeats 2000000 in
theorem rbits_any (w : World) (ad : Option Addr) (n c : Nat) (ss : List (List Bool)) (hn : ss.length = n) (hS : StrAt w ad (ss.map sT)) (hm : (enc ss).length ≤ 3000) :
    Calls Tryz.prog 37 #[.slice ad n c] w fun e w' => e = .returned (.string (mkS (txt (enc ss)))) ∧ Fr [] w w' := by
  have hn1 := len_le_enc ss
  have hn' : (n : Int) ≤ 3000 := by omega
  have HS : Hid (StrAt w ad (ss.map sT)) := hS
  clear hS
  go_enter Tryz.func37, Tryz.ntmps37
  go_wp2_with go_in
  go_loopw [3, 4] (fun o i wr' => ∃ j : Nat, j ≤ n ∧ i = .int .i64 j ∧ o = .string (mkS (txt (enc (ss.take j)))) ∧ Fr [] w wr') (fun _ i _ => n - (RowKit.intOf i).toNat)
  case atStart => exact ⟨0, by omega, rfl, rfl, Fr.refl _ _⟩
  case round =>
    obtain ⟨j, hj, rfl, rfl, f⟩ := hrel
    have hj0 : (0 : Int) ≤ (j : Int) := by omega
    by_cases hlt : j < n
    · have hlt' : (j : Int) < (n : Int) := by omega
      have hj2 : j < ss.length := by omega
      obtain ⟨b, off, rfl, hc⟩ := (HS.out.kept f) j (sT ss[j]) (by rw [List.getElem?_map, List.getElem?_eq_getElem hj2]; rfl)
      have hl1 := enc_mem_le hj2
      have hl2 := enc_take_le ss j
      have hl3 := enc_take_le ss (j + 1)
      have cW : Hid (Calls Tryz.prog 63 #[.string (sT ss[j])] wr fun e w' => e = .returned (.string (mkS (txt (Go.Proofs.YtddcilmeignlmaaGreatDoor.wr ss[j])))) ∧ Fr [] wr w') := written_any wr ss[j] (by omega)
      have e2 := enc_take ss j hj2
      have hA : (mkS (txt (enc (ss.take j)))).size ≤ 3000 := by rw [mkS_size, txt_length]; omega
      have hB : (mkS (txt (Go.Proofs.YtddcilmeignlmaaGreatDoor.wr ss[j]))).size ≤ 3000 := by rw [mkS_size, txt_length]; rw [e2, List.length_append] at hl3; omega
      have e3 : mkS (txt (enc (ss.take (j + 1)))) = mkS (txt (enc (ss.take j))) ++ mkS (txt (Go.Proofs.YtddcilmeignlmaaGreatDoor.wr ss[j])) := by rw [e2, txt_app, mk_app]
      generalize mkS (txt (Go.Proofs.YtddcilmeignlmaaGreatDoor.wr ss[j])) = W at cW hB e3
      generalize sT ss[j] = U at cW hc
      generalize mkS (txt (enc (ss.take j))) = A at hA e3
      have d1 : ¬ 9223372036854775807 < A.size + W.size := by omega
      have HF : Hid (Fr [] w wr) := f
      clear hl1 hl2 hl3 e2 hA hB f hj2
      go_wp2_with (go_at_call 63; refine cW.out.mono ?_; rintro e w5 ⟨rfl, f5⟩)
      refine ⟨⟨j + 1, by omega, by go_num, ?_, HF.out.trans f5⟩, by simp [RowKit.intOf]; omega⟩
      rw [e3]
    · obtain rfl : j = n := by omega
      rw [← hn, List.take_length]
      go_wp2
      go_ret
      exact ⟨rfl, f⟩
end Go.Proofs.YtddcilmeignlmaaGreatDoor

namespace Go.Proofs.YtddcilmeignlmaaGreatDoor
open Go.RowKit Go.Maps Go.Lib

theorem okS_len {ss : List (List Bool)} {l : List UInt8} {K : Nat} (h : OfTo (txt (enc ss)) l K (enc ss).length) (hK : ((enc ss).length + 7) / 8 = K) (hm : (enc ss).length ≤ 1024) (ho : ∀ s ∈ ss, okS s) : Lab l ss ∧ l.length = K := by
  refine ⟨⟨ho, hm, ?_⟩, h.len⟩
  have hz : (mkS (txt (enc ss))).size = (enc ss).length := by rw [mkS_size, txt_length]
  have hr := OfTo.rep (s := mkS (txt (enc ss))) (room := l) (K := K) (by rw [hz, bl_mkS]; exact h) (by omega) (by rw [hz]; exact hK)
  rw [hz, bl_mkS, said_txt] at hr
  exact hr
theorem own_out {w w' : World} {v : Value} {n : Nat} {l : List UInt8} (h : Own w w' v n (arr l).toList) (hl : l.length = n) : Out w w' v l := by
  obtain ⟨ad, cap, rfl, _⟩ := h.form
  subst hl
  exact ⟨ad, cap, rfl, h.1⟩
set_option maxHeartbeats 2000000 in
theorem rlabel_any (w : World) (ad : Option Addr) (n c : Nat) (ss : List (List Bool)) (hn : ss.length = n) (hS : StrAt w ad (ss.map sT)) (hm : (enc ss).length ≤ 3000) (ho : ∀ s ∈ ss, okS s) :
    Calls Tryz.prog 32 #[.slice ad n c] w fun e w' => (((enc ss).length ≤ 1024 ∧ ∃ v l, e = .returned (.tuple #[v, .bool true]) ∧ Lab l ss ∧ Out w w' v l) ∨ (1024 < (enc ss).length ∧ e = .returned (.tuple #[.slice none 0 0, .bool false]))) ∧ Fr [] w w' := by
  have cB : Hid (Calls Tryz.prog 37 #[.slice ad n c] w fun e w' => e = .returned (.string (mkS (txt (enc ss)))) ∧ Fr [] w w') := rbits_any w ad n c ss hn hS hm
  have hz : (mkS (txt (enc ss))).size = (enc ss).length := by rw [mkS_size, txt_length]
  have cP : Hid (∀ u, Calls Tryz.prog 38 #[.string (mkS (txt (enc ss)))] u fun e w' => ∃ v l, e = .returned v ∧ Own u w' v (((mkS (txt (enc ss))).size + 7) / 8) (arr l).toList ∧ OfTo (bl (mkS (txt (enc ss)))) l (((mkS (txt (enc ss))).size + 7) / 8) (mkS (txt (enc ss))).size) := fun u => rpack_any u _ (by omega)
  have HO : Hid (∀ s ∈ ss, okS s) := ho
  have HZ : Hid ((mkS (txt (enc ss))).size = (enc ss).length) := hz
  by_cases hb : 1024 < (enc ss).length
  · have hb' : (1024 : Int) < ((mkS (txt (enc ss))).size : Int) := by omega
    have hb2 : 1024 < (mkS (txt (enc ss))).size := by omega
    clear hS ho hz hn hm
    go_enter Tryz.func32, Tryz.ntmps32
    go_wp2_with (go_at_call 37; refine cB.out.mono ?_; rintro e w5 ⟨rfl, f5⟩)
    go_ret2
    exact ⟨Or.inr ⟨hb, rfl⟩, f5⟩
  · have hb' : ¬ (1024 : Int) < ((mkS (txt (enc ss))).size : Int) := by omega
    have hb2 : ¬ 1024 < (mkS (txt (enc ss))).size := by omega
    clear hS ho hz hn hm
    go_enter Tryz.func32, Tryz.ntmps32
    go_wp2_with (first
      | (go_at_call 37; refine cB.out.mono ?_; rintro e w5 ⟨rfl, f5⟩)
      | (go_at_call 38; refine (cP.out _).mono ?_; rintro e w6 ⟨v, l, rfl, ow, kl⟩))
    go_ret2
    rw [HZ.out] at ow kl
    rw [bl_mkS] at kl
    obtain ⟨L, ll⟩ := okS_len kl rfl (by omega) HO.out
    have oo := own_out ow ll
    refine ⟨Or.inl ⟨by omega, v, l, rfl, L, ?_⟩, f5.trans ow.2⟩
    exact oo.from f5
end Go.Proofs.YtddcilmeignlmaaGreatDoor

