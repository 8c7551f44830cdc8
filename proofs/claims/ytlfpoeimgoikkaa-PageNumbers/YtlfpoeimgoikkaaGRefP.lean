/-
  The document's page put together again: Put, New.
-/
import Derived.Test.YtlfpoeimgoikkaaGZero
import Derived.Test.YtlfpoeimgoikkaaGRow
import Derived.Test.YtlfpoeimgoikkaaGPick
import Derived.Test.YtlfpoeimgoikkaaGInsM
import Derived.Laws.AppendOwnNone
namespace Go.Proofs.Ytlfpoeimgoikkaa
open Go.RowKit Go.Maps

theorem own_alloc {w0 w : World} (f : Fr [] w0 w) (l : List UInt8) (A : Array Value) (hA : A = arr l) (n : Nat) (hn : l.length = n) (hm : n ≤ 1000000) : Own w0 (w.alloc (.cells A 5)) (.slice (some ⟨w.heap.size, 0, none⟩) n n) n (arr l).toList := by
  subst hA
  subst hn
  refine ⟨⟨by simp [arr], Or.inr ⟨w.heap.size, l.length, arr l, rfl, f.size, heap_alloc_new w _, Nat.le_refl _, by unfold maxLen; omega, by simp [arr_size], ?_⟩⟩, f.alloc _⟩
  exact List.take_of_length_le (by simp [arr])

section
variable {ops : Array Oper} {rest : List Oper} {o : Oper} {a : Act} {w : World} {Q : Exit → Act → World → Prop}
/-- append of bytes to a row of one's own that has a place. -/
theorem wp_appB (hgd : o.guard = none) (s x : Operand) (ho : o.op = .call { callee := .builtin .append, args := #[s, x], argTypes := #[22, 22] }) (w0 : World) (g n cap : Nat) (xs : List Value) (hs : a.eval s = .slice (some ⟨g, 0, none⟩) n cap) (hown : Own w0 w (.slice (some ⟨g, 0, none⟩) n cap) n xs)
    (ad : Option Addr) (m c : Nat) (l : List UInt8) (hx : a.eval x = .slice ad m c) (hl : l.length = m) (hsrc : BytesAt w ad l) (hm : n + m ≤ 1000000) (hn : 0 < n) (hne : ad = none → m = 0 ∧ c = 0)
    (h : ∀ g' cap' w', Own w0 w' (.slice (some ⟨g', 0, none⟩) (n + m) cap') (n + m) (xs ++ (arr l).toList) → wpList Try.prog ops Q rest (a.put o.dst (.slice (some ⟨g', 0, none⟩) (n + m) cap')) w') : wpList Try.prog ops Q (o :: rest) a w := by
  obtain ⟨i, hi, hz, hsz, hb⟩ := info5'
  cases ad with
  | none =>
    obtain ⟨rfl, rfl⟩ := hne rfl
    have e0 : l = [] := List.eq_nil_of_length_eq_zero hl
    subst e0
    refine wpList_append_own_none hgd s x 22 ho w0.heap.size 5 i 1 Try.underlying22 hi _ n xs hs hown.1 hx ?_
    have := h g cap w (by simpa [arr] using hown)
    simpa using this
  | some a0 =>
    refine wp_app hgd s x ho w0 _ n xs hs hown (some a0) m c l hx hl hsrc hm (fun _ => ⟨_, rfl⟩) ?_
    intro v' w' o'
    rcases o'.1.2 with ⟨rfl, h0⟩ | ⟨g', cap', cur, rfl, _⟩
    · omega
    · exact h g' cap' w' o'
end

/-- A cell that the document's page has, in memory. -/
structure RCell where
  ad : Option Addr
  n : Nat
  c : Nat
  l : List UInt8
def RCell.val (e : RCell) : Value := .slice e.ad e.n e.c
structure RCell.ok (w : World) (e : RCell) : Prop where
  len : e.l.length = e.n
  bytes : BytesAt w e.ad e.l
  nil : e.ad = none → e.n = 0 ∧ e.c = 0
theorem RCell.ok.kept {w w' : World} {e : RCell} (h : e.ok w) (f : Fr [] w w') : e.ok w' := ⟨h.len, h.bytes.kept f (by simp), h.nil⟩
def rcells (E : List RCell) : List (List UInt8) := E.map RCell.l
def rvals (E : List RCell) : List Value := E.map RCell.val
theorem rcells_length (E : List RCell) : (rcells E).length = E.length := by simp [rcells]
theorem rvals_length (E : List RCell) : (rvals E).length = E.length := by simp [rvals]
theorem rvals_one (E : List RCell) : ∀ u ∈ rvals E, u.oneCell' = true := by
  intro u hu
  simp [rvals] at hu
  obtain ⟨e, _, rfl⟩ := hu
  rfl

/-- The document's page in memory: a row of cells. -/
structure RPage (w : World) (ad : Option Addr) (n cp : Nat) (E : List RCell) : Prop where
  len : E.length = n
  cap : n ≤ cp
  vals : ValsAt w ad (rvals E)
  ok : ∀ e ∈ E, e.ok w
  nil : ad = none → cp = 0
theorem RPage.kept {w w' : World} {ad : Option Addr} {n cap : Nat} {E : List RCell} (h : RPage w ad n cap E) (f : Fr [] w w') : RPage w' ad n cap E :=
  ⟨h.len, h.cap, h.vals.kept f (by simp), fun e he => (h.ok e he).kept f, h.nil⟩

def hdX (k : UInt8) (n : Nat) (X : Int) : List UInt8 := [k, UInt8.ofNat n, UInt8.ofNat (X / 16777216 % 256).toNat, UInt8.ofNat (X / 65536 % 256).toNat, UInt8.ofNat (X / 256 % 256).toNat, UInt8.ofNat (X % 256).toNat]
theorem hdX_length (k : UInt8) (n : Nat) (X : Int) : (hdX k n X).length = 6 := rfl
theorem hdX_hd6 (k : UInt8) (n x : Nat) : hdX k n (x : Int) = hd6 k n x := by
  unfold hdX hd6 be4
  have e (d : Nat) (hd : 0 < d) : UInt8.ofNat ((x : Int) / (d : Int) % 256).toNat = UInt8.ofNat (x / d) := by
    apply UInt8.toNat_inj.1
    rw [u8_ofNat_toNat, u8_ofNat_toNat]
    have h1 : ((x : Int) / (d : Int) % 256).toNat = (x / d) % 256 := by
      rw [← Int.natCast_ediv]
      omega
    rw [h1]
    omega
  have e1 := e 16777216 (by omega)
  have e2 := e 65536 (by omega)
  have e3 := e 256 (by omega)
  have e4 : UInt8.ofNat ((x : Int) % 256).toNat = UInt8.ofNat x := by
    apply UInt8.toNat_inj.1
    rw [u8_ofNat_toNat, u8_ofNat_toNat]
    omega
  rw [show ((16777216 : Nat) : Int) = 16777216 from rfl] at e1
  rw [show ((65536 : Nat) : Int) = 65536 from rfl] at e2
  rw [show ((256 : Nat) : Int) = 256 from rfl] at e3
  rw [e1, e2, e3, e4]
  rfl
theorem six_arr (k : UInt8) (n : Nat) (X K : Int) (hK : K = k.toNat) (hn : n < 256) : #[.int .u8 K, .int .u8 (n : Int), .int .u8 (X / 16777216 % 256), .int .u8 (X / 65536 % 256), .int .u8 (X / 256 % 256), .int .u8 (X % 256)] = arr (hdX k n X) := by
  apply Array.ext'
  simp [arr, hdX, hK]
  omega

theorem two_blk (w : World) (n : Nat) (h : n < 65536) : Blk (w.alloc (.cells #[.int .u8 ((n : Int) / 256), .int .u8 ((n : Int) % 256)] 5)) w.heap.size (be2 n) := by
  have e : #[Value.int .u8 ((n : Int) / 256), Value.int .u8 ((n : Int) % 256)] = arr (be2 n) := by
    apply Array.ext'
    simp [arr, be2]
    omega
  rw [e]
  exact heap_alloc_new w _

/-- What Put answers. -/
def PutTo (w : World) (k : UInt8) (n : Nat) (X : Int) (E : List RCell) (r : Ending) (w' : World) : Prop :=
  (6 + elen (rcells E) ≤ 512 ∧ 0 ≤ X ∧ X ≤ 4294967295 ∧ ∃ g c, r = .returned (.tuple #[.slice (some ⟨g, 0, none⟩) 512 c, .bool true]) ∧ RowB w' g c (hdX k n X ++ (enc (rcells E) ++ zs (506 - elen (rcells E)))) ∧ w.heap.size ≤ g ∧ Fr [] w w') ∨
  (¬ (6 + elen (rcells E) ≤ 512 ∧ 0 ≤ X ∧ X ≤ 4294967295) ∧ r = .returned (.tuple #[.slice none 0 0, .bool false]) ∧ Fr [] w w')

set_option maxHeartbeats 1000000 in
set_option maxRecDepth 100000 in
theorem put_any (w : World) (k : UInt8) (K X : Int) (hK : K = k.toNat) (hX : (Lit.int .i64 X).wf = true) (ad : Option Addr) (n cap : Nat) (E : List RCell) (h : RPage w ad n cap E) (hn : n < 256) (hlen : elen (rcells E) ≤ 10000) :
    Calls Try.prog 46 #[.agg #[.int .u8 K, .int .i64 X, .slice ad n cap]] w fun r w' =>
      PutTo w k n X E r w' := by
  have HK : Hid (K = (k.toNat : Int)) := hK
  clear hK
  go_enter Try.func46, Try.ntmps46
  go_wp2_with fail
  have bx0 := heap_alloc_new w (.cells #[.int .u8 K, .int .i64 X, .slice ad n cap] 75)
  have f1 := (Fr.refl [] w).alloc (.cells #[.int .u8 K, .int .i64 X, .slice ad n cap] 75)
  have hsz : (w.alloc (.cells #[.int .u8 K, .int .i64 X, .slice ad n cap] 75)).heap.size = w.heap.size + 1 := by simp
  generalize w.alloc (.cells #[.int .u8 K, .int .i64 X, .slice ad n cap] 75) = w1 at bx0 f1 hsz ⊢
  have o2 := own_alloc (Fr.refl [] w1) (hdX k n X) _ (six_arr k n X K HK.out hn) 6 rfl (by omega)
  rw [hsz] at o2
  have BX : Hid (w1.heap[w.heap.size]? = some (.cells #[.int .u8 K, .int .i64 X, .slice ad n cap] 75)) := bx0
  clear bx0
  have HEL := h.len
  have HS1 : Hid (w1.heap.size = w.heap.size + 1) := hsz
  clear hsz
  generalize w1.alloc (.cells #[.int .u8 K, .int .u8 (n : Int), .int .u8 (X / 16777216 % 256), .int .u8 (X / 65536 % 256), .int .u8 (X / 256 % 256), .int .u8 (X % 256)] 5) = w2 at o2 ⊢
  generalize w.heap.size = xb at BX o2 HS1 ⊢
  go_loopw [5, 6] (fun v i wr => ∃ (j g c : Nat), j ≤ n ∧ i = .int .i64 j ∧ v = .slice (some ⟨g, 0, none⟩) (6 + elen (rcells (E.take j))) c ∧ Own w1 wr (.slice (some ⟨g, 0, none⟩) (6 + elen (rcells (E.take j))) c) (6 + elen (rcells (E.take j))) (arr (hdX k n X ++ enc (rcells (E.take j)))).toList) (fun _ i _ => n - (intOf i).toNat)
  case atStart => exact ⟨0, _, 6, by omega, rfl, rfl, by simpa [rcells, enc, elen] using o2⟩
  case round =>
    obtain ⟨j, g, c, hj, rfl, rfl, ow⟩ := hrel
    have bx := BX.out
    have hcx := cell_of_row wr xb 2 _ _ _ (ow.2.same (by simp) BX.out)
    have hcx' : wr.cell? ⟨xb, 2, none⟩ = some (.slice ad n cap) := hcx
    clear hcx bx
    by_cases hlt : j < n
    · have hlt' : (j : Int) < n := by omega
      have hte : j < E.length := by omega
      have hp := h.kept (f1.trans ow.2)
      obtain ⟨ba, bo, hAD, hcell⟩ := hp.vals j E[j].val (by simp [rvals, hte])
      have hbe := hp.ok E[j] (List.getElem_mem _)
      have htk : E.take (j + 1) = E.take j ++ [E[j]] := List.take_succ_eq_append_getElem hte
      have hval : (rvals E)[j]? = some E[j].val := by simp [rvals, hte]
      have hmem : E[j] ∈ E := List.getElem_mem _
      have hsp : elen (rcells (E.take (j + 1))) ≤ elen (rcells E) := by
        have h1 := elen_split (rcells E) (j + 1)
        have h2 : (rcells E).take (j + 1) = rcells (E.take (j + 1)) := by simp [rcells]
        rw [h2] at h1
        omega
      subst hAD
      clear hp
      generalize E[j] = e at hcell hbe htk hval hmem
      obtain ⟨ea, en, ec, el⟩ := e
      have hcell' : wr.cell? ⟨ba, bo + j, none⟩ = some (.slice ea en ec) := hcell
      have KV : Hid (∀ w', Fr [] w1 w' → w'.cell? ⟨ba, bo + j, none⟩ = some (.slice ea en ec) ∧ w'.cell? ⟨xb, 2, none⟩ = some (.slice (some ⟨ba, bo, none⟩) n cap) ∧ BytesAt w' ea el) := by
        intro w' f'
        have hp' := h.kept (f1.trans f')
        obtain ⟨ba', bo', hAD', hcell''⟩ := hp'.vals j _ hval
        cases hAD'
        exact ⟨hcell'', cell_of_row w' xb 2 _ _ _ (f'.same (by simp) BX.out), (hp'.ok _ hmem).bytes⟩
      have hlen1 : elen (rcells (E.take (j + 1))) = elen (rcells (E.take j)) + 2 + en := by
        rw [htk]
        unfold rcells
        rw [List.map_append, elen_append]
        show elen _ + elen [el] = _
        have h1 : el.length = en := hbe.len
        rw [elen_one, h1]
        omega
      have henc : enc (rcells (E.take (j + 1))) = enc (rcells (E.take j)) ++ be2 en ++ el := by
        rw [htk]
        unfold rcells
        rw [List.map_append, enc_append]
        show enc _ ++ (be2 el.length ++ (el ++ [])) = _
        have : el.length = en := hbe.len
        rw [this]
        simp
      have HEN : Hid (el.length = en) := hbe.len
      have HENC : Hid (enc (rcells (E.take (j + 1))) = enc (rcells (E.take j)) ++ be2 en ++ el) := henc
      have HL1 : Hid (elen (rcells (E.take (j + 1))) = elen (rcells (E.take j)) + 2 + en) := hlen1
      have hsm : elen (rcells (E.take j)) + 2 + en ≤ 10000 := by omega
      have heb : BytesAt wr ea el := hbe.bytes
      have hnil : ea = none → en = 0 ∧ ec = 0 := hbe.nil
      have HNIL : Hid (ea = none → en = 0 ∧ ec = 0) := hnil
      clear hcell hbe htk hlen1 henc hsp hnil heb hval hmem
      obtain ⟨T, HT⟩ : ∃ T : Nat, Hid (elen (rcells (E.take j)) = T) := ⟨_, rfl⟩
      rw [HT.out] at ow HL1 hsm ⊢
      go_wp2_with (first
        | (refine wp_appB rfl _ _ rfl w1 g (6 + T) c _ rfl (ow.kept ((Fr.refl [] _).alloc _)) _ 2 2 (be2 en) rfl rfl (Blk.bytes (two_blk wr en (by omega))) (by omega) (by omega) (fun e => nomatch e) ?_; intro g4 c4 w4 o4; obtain ⟨x4, y4, z4⟩ := KV.out w4 o4.2; have Z4 : Hid (BytesAt w4 ea el) := z4; clear z4)
        | (refine wp_appB rfl _ _ rfl w1 g4 _ c4 _ rfl o4 ea en ec el rfl HEN.out Z4.out (by omega) (by omega) HNIL.out ?_; intro g5 c5 w5 o5)
        | fail)
      refine ⟨⟨j + 1, g5, c5, by omega, by go_num, ?_, ?_⟩, by simp [intOf]; omega⟩
      · rw [HL1.out]
        congr 1
        omega
      · rw [HL1.out, HENC.out, show 6 + (T + 2 + en) = 6 + T + 2 + en by omega]
        have e9 : hdX k n X ++ (enc (rcells (E.take j)) ++ be2 en ++ el) = hdX k n X ++ enc (rcells (E.take j)) ++ be2 en ++ el := by simp
        rw [e9, ← arr_append, ← arr_append]
        exact o5
    · obtain rfl : j = n := by omega
      have HTK : Hid (E.take j = E) := List.take_of_length_le (by omega)
      rw [HTK.out] at ow ⊢
      clear HTK
      obtain ⟨T, HT⟩ : ∃ T : Nat, Hid (elen (rcells E) = T) := ⟨_, rfl⟩
      rw [HT.out] at ow hlen ⊢
      have hX2 : -9223372036854775808 ≤ X ∧ X ≤ 9223372036854775807 := by
        simp [Lit.wf, show IntKind.i64.min = -9223372036854775808 from rfl, show IntKind.i64.max = 9223372036854775807 from rfl] at hX
        exact hX
      have hfr : Fr [] w wr := f1.trans ow.2
      by_cases hT : 6 + T ≤ 512
      · have hT' : ¬ (512 : Int) < 6 + T := by omega
        have hj2 : ¬ (255 : Int) < j := by omega
        by_cases hX0 : X < 0
        · go_wp2_with fail
          go_ret2
          exact Or.inr ⟨by rw [HT.out]; omega, rfl, hfr⟩
        · by_cases hX1 : 4294967295 < X
          · go_wp2_with fail
            go_ret2
            exact Or.inr ⟨by rw [HT.out]; omega, rfl, hfr⟩
          · obtain ⟨Z, e1, HZ⟩ : ∃ Z : Nat, (512 : Int) - (6 + T) = (Z : Int) ∧ Hid (Z = 506 - T) := ⟨506 - T, by omega, rfl⟩
            have hZ : Z ≤ 512 := by have := HZ.out; omega
            go_wp2_with (refine wp_appZ rfl _ _ rfl w1 g (6 + T) c Z _ rfl ow rfl (by omega) ?_; intro v6 w6 o6)
            rw [HZ.out, show 6 + T + (506 - T) = 512 by omega, arr_append] at o6
            obtain ⟨g6, c6, rfl, row6, hg6⟩ := own_row o6 (by simp only [List.length_append, hdX_length, zs_length]; have := HT.out; unfold elen at this; omega) (by omega)
            go_wp2_with fail
            go_ret2
            refine Or.inl ⟨by rw [HT.out]; omega, by omega, by omega, g6, c6, rfl, by rw [HT.out]; simpa using row6, ?_, f1.trans o6.2⟩
            have := f1.size
            omega
      · have hT' : (512 : Int) < 6 + T := by omega
        go_wp2_with fail
        go_ret2
        exact Or.inr ⟨by rw [HT.out]; omega, rfl, hfr⟩
end Go.Proofs.Ytlfpoeimgoikkaa
