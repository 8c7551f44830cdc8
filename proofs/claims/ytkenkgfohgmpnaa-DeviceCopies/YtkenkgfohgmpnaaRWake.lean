/-
  The document's device: Wake.
-/
import Derived.Test.YtkenkgfohgmpnaaRWriteNew
namespace Go.Proofs.Ytkenkgfohgmpnaa
open Go.RowKit Go.Maps

/-- What a block is woken as. -/
def wokenB (F : Fs) (e : Ent) : List UInt8 := tornTo e.s e.l (keepOf F e.n) 8

/-- A block, and what it is behind a Wake. -/
def Woke (B : Nat) (F : Fs) (e e' : Ent) : Prop := (e.o = false ∧ e' = e) ∨ (e.o = true ∧ ∃ g c, B ≤ g ∧ e' = ⟨e.n, g, c, wokenB F e, g, c, wokenB F e, false⟩)

structure WokeTo (B : Nat) (F : Fs) (E E' : List Ent) (j : Nat) : Prop where
  len : E'.length = E.length
  low : ∀ q e, q < j → E[q]? = some e → ∃ e', E'[q]? = some e' ∧ Woke B F e e'
  high : ∀ q, j ≤ q → E'[q]? = E[q]?

theorem WokeTo.start (B : Nat) (F : Fs) (E : List Ent) : WokeTo B F E E 0 := ⟨rfl, (fun q _ h => absurd h (by omega)), fun _ _ => rfl⟩

theorem WokeTo.skip {B : Nat} {F : Fs} {E E' : List Ent} {j : Nat} (h : WokeTo B F E E' j) {e : Ent} (he : E[j]? = some e) (ho : e.o = false) : WokeTo B F E E' (j + 1) := by
  refine ⟨h.len, fun q x hq hx => ?_, fun q hq => h.high q (by omega)⟩
  by_cases hqj : q = j
  · subst hqj
    rw [he] at hx
    cases hx
    exact ⟨e, (h.high q (Nat.le_refl _)).trans he, Or.inl ⟨ho, rfl⟩⟩
  · exact h.low q x (by omega) hx

theorem WokeTo.put {B : Nat} {F : Fs} {E E' : List Ent} {j : Nat} (h : WokeTo B F E E' j) {e : Ent} (he : E[j]? = some e) (ho : e.o = true) (g c : Nat) (hg : B ≤ g) : WokeTo B F E (E'.set j ⟨e.n, g, c, wokenB F e, g, c, wokenB F e, false⟩) (j + 1) := by
  have hlt := (List.getElem?_eq_some_iff.1 he).1
  refine ⟨by simpa using h.len, fun q x hq hx => ?_, fun q hq => ?_⟩
  · by_cases hqj : q = j
    · subst hqj
      rw [he] at hx
      cases hx
      exact ⟨_, by rw [List.getElem?_set_self (by rw [h.len]; exact hlt)], Or.inr ⟨ho, g, c, hg, rfl⟩⟩
    · rw [List.getElem?_set_ne (by omega)]
      exact h.low q x (by omega) hx
  · rw [List.getElem?_set_ne (by omega)]
    exact h.high q (by omega)

theorem keepOf_take (F : Fs) (k : Nat) (f : Int × Int) (n : Int) (h : F[k]? = some f) : keepOf (F.take (k + 1)) n = if f.1 = n then f.2 else keepOf (F.take k) n := by
  rw [List.take_add_one, h]
  exact keepOf_snoc _ _ _

theorem tornTo_at (l m : List UInt8) (k : Int) (i : Nat) (hi : i < 512) (hl : l.length = 512) (hm : m.length = 512) : (tornTo l m k 8)[i]? = if bitOf k (i / 64) = true then m[i]? else l[i]? := by
  have h8 : i / 64 < 8 := by omega
  simp only [tornTo, List.getElem?_map, List.getElem?_range hi, Option.map_some, h8, true_and]
  split
  · simp [List.getElem?_eq_getElem (show i < m.length by omega)]
  · simp [List.getElem?_eq_getElem (show i < l.length by omega)]

theorem oneByte' (b : UInt8) (w : World) : BytesAt (w.alloc (.cells #[.int .u8 (b.toNat : Int)] 5)) (some ⟨w.heap.size, 0, none⟩) [b] := by
  have hb : b.toNat < 256 := b.toNat_lt
  have := oneByte (b.toNat : Int) (by omega) (by omega) w
  simpa using this
theorem woken_take (T : List UInt8) (k : Nat) (b : UInt8) (h : T[k]? = some b) : T.take (k + 1) = T.take k ++ [b] := by
  rw [List.take_add_one, h]
  rfl

theorem rwake_put {w : World} {r g cap m : Nat} {N a : Int} {off : Bool} {E : List Ent} (h : RDev w r (.slice (some ⟨g, 0, none⟩) m cap) N a off E) (hm : m = E.length) (i : Nat) (en : Ent) (hi : E[i]? = some en)
    (g2 c2 : Nat) (T : List UInt8) (hT : T.length = 512) (b2 : BytesAt w (some ⟨g2, 0, none⟩) T) (h1 : g2 ≠ r) (h2 : g2 ≠ g) :
    w.cell? ⟨g, i * 4 + 1, none⟩ = some (.slice (some ⟨en.lg, 0, none⟩) 512 en.lc) ∧ w.frozen? ⟨g, i * 4 + 1, none⟩ = false ∧
    (w.setCell ⟨g, i * 4 + 1, none⟩ (.slice (some ⟨g2, 0, none⟩) 512 c2)).cell? ⟨g, i * 4 + 2, none⟩ = some (.slice (some ⟨en.sg, 0, none⟩) 512 en.sc) ∧
    (w.setCell ⟨g, i * 4 + 1, none⟩ (.slice (some ⟨g2, 0, none⟩) 512 c2)).frozen? ⟨g, i * 4 + 2, none⟩ = false ∧
    ((w.setCell ⟨g, i * 4 + 1, none⟩ (.slice (some ⟨g2, 0, none⟩) 512 c2)).setCell ⟨g, i * 4 + 2, none⟩ (.slice (some ⟨g2, 0, none⟩) 512 c2)).cell? ⟨g, i * 4 + 3, none⟩ = some (.bool en.o) ∧
    ((w.setCell ⟨g, i * 4 + 1, none⟩ (.slice (some ⟨g2, 0, none⟩) 512 c2)).setCell ⟨g, i * 4 + 2, none⟩ (.slice (some ⟨g2, 0, none⟩) 512 c2)).frozen? ⟨g, i * 4 + 3, none⟩ = false ∧
    RDev (((w.setCell ⟨g, i * 4 + 1, none⟩ (.slice (some ⟨g2, 0, none⟩) 512 c2)).setCell ⟨g, i * 4 + 2, none⟩ (.slice (some ⟨g2, 0, none⟩) 512 c2)).setCell ⟨g, i * 4 + 3, none⟩ (.bool false)) r (.slice (some ⟨g, 0, none⟩) m cap) N a off (E.set i ⟨en.n, g2, c2, T, g2, c2, T, false⟩) := by
  have hmem := List.mem_of_getElem? hi
  have ok := h.ents _ hmem
  have ap := h.apart' hmem
  obtain ⟨_, q1, _⟩ := h.at hm i _ hi
  have d1 := h.put hm i en (en.putL g2 c2 T) hi rfl ⟨hT, ok.s5, b2, ok.sb, ok.n0, ok.n1⟩ ⟨h1, ap.2.1, h2.symm, ap.2.2.2⟩ (i * 4 + 1) (.slice (some ⟨g2, 0, none⟩) 512 c2) (ecells_putL _ _ _ _ _ _ hi)
  have hi1 := set_at hi (en.putL g2 c2 T)
  have ok1 := d1.ents _ (List.mem_of_getElem? hi1)
  obtain ⟨_, _, q2, _⟩ := d1.at (by simpa using hm) i _ hi1
  have d2 := d1.put (by simpa using hm) i _ ((en.putL g2 c2 T).putS g2 c2 T) hi1 rfl ⟨hT, hT, ok1.lb, ok1.lb, ok.n0, ok.n1⟩ ⟨h1, h1, h2.symm, h2.symm⟩ (i * 4 + 2) (.slice (some ⟨g2, 0, none⟩) 512 c2) (ecells_putS _ _ _ _ _ _ hi1)
  have hi2 := set_at hi1 ((en.putL g2 c2 T).putS g2 c2 T)
  have ok2 := d2.ents _ (List.mem_of_getElem? hi2)
  obtain ⟨_, _, _, q3⟩ := d2.at (by simpa using hm) i _ hi2
  have d3 := d2.put (by simpa using hm) i _ ⟨en.n, g2, c2, T, g2, c2, T, false⟩ hi2 rfl ⟨hT, hT, ok2.lb, ok2.lb, ok.n0, ok.n1⟩ ⟨h1, h1, h2.symm, h2.symm⟩ (i * 4 + 3) (.bool false) (ecells_putO _ _ _ _ hi2)
  rw [List.set_set, List.set_set] at d3
  exact ⟨q1, h.frz hm _, q2, d1.frz (by simpa using hm) _, q3, d2.frz (by simpa using hm) _, d3⟩

set_option maxHeartbeats 2000000 in
set_option maxRecDepth 100000 in
theorem rwake {w : World} {r : Nat} {lv : Value} {N a : Int} {off : Bool} {E : List Ent} (h : RDev w r lv N a off E) (F : Fs) (ad : Option Addr) (c : Nat) (hF : FatesAt w ad F) (hlen : F.length ≤ 1000000)
    (hFk : ∀ w', Fr (r :: lv.ownBlock.toList) w w' → FatesAt w' ad F) :
    Calls Try.prog 17 #[.pointer (some ⟨r, 0, none⟩), .slice ad F.length c] w fun e w' => e = .returned (.tuple #[]) ∧ (∃ E', RDev w' r lv N 0 false E' ∧ WokeTo w.heap.size F E E' E.length) ∧ Fr (r :: lv.ownBlock.toList) w w' := by
  have c3 := h.cell3
  have z3 := h.frozen 3
  have d1 := h.set 3 (.bool false) a false h.a1 h.a2 rfl
  have c2 := d1.cell2
  have z2 := d1.frozen 2
  have d2 := d1.set 2 (.int .i64 0) 0 false (by omega) (by omega) rfl
  have f2 : Fr (r :: lv.ownBlock.toList) w ((w.setCell ⟨r, 3, none⟩ (.bool false)).setCell ⟨r, 2, none⟩ (.int .i64 0)) := ((Fr.refl _ _).setCell _ _ (by simp)).setCell _ _ (by simp)
  have hfew : (E.length : Int) ≤ 65536 := by have := h.few; omega
  have hfl : (F.length : Int) ≤ 1000000 := by omega
  obtain ⟨ad0, cap, rfl, hgd⟩ := h.form
  go_enter Try.func17, Try.ntmps17
  go_wp2
  generalize (w.setCell ⟨r, 3, none⟩ (.bool false)).setCell ⟨r, 2, none⟩ (.int .i64 0) = w0 at d2 f2
  clear c3 z3 d1 c2 z2
  go_loopw [4] (fun i wr => ∃ (j : Nat) (Ej : List Ent), j ≤ E.length ∧ i = .int .i64 j ∧ RDev wr r (.slice ad0 E.length cap) N 0 false Ej ∧ WokeTo w.heap.size F E Ej j ∧ Fr (r :: (Value.slice ad0 E.length cap).ownBlock.toList) w wr) (fun i _ => E.length - (intOf i).toNat)
  case atStart => exact ⟨0, E, by omega, rfl, d2, WokeTo.start _ _ _, f2⟩
  case round =>
    obtain ⟨j, Ej, hj, rfl, dj, wj, fj⟩ := hrel
    have c1 := dj.cell1
    by_cases hlt : j < E.length
    · have hlt' : (j : Int) < (E.length : Int) := by omega
      have hj0 : (0 : Int) ≤ (j : Int) := by omega
      obtain ⟨g, rfl⟩ := hgd (by omega)
      have hat0 := List.getElem?_eq_getElem hlt
      have hat : Ej[j]? = some E[j] := (wj.high j (Nat.le_refl _)).trans hat0
      generalize E[j] = en at hat hat0
      have hmem := List.mem_of_getElem? hat
      obtain ⟨q0, q1, q2, q3⟩ := dj.at wj.len.symm j _ hat
      have ok := dj.ents _ hmem
      have ap := dj.apart' hmem
      cases ho : en.o
      · rw [ho] at q3
        go_wp2
        exact ⟨⟨j + 1, Ej, by omega, by go_num, dj, wj.skip hat0 ho, fj⟩, by simp [intOf]; omega⟩
      · rw [ho] at q3
        go_wp2
        have hFj := hFk _ fj
        go_loopw [6, 7] (fun kp i wr' => ∃ k : Nat, k ≤ F.length ∧ i = .int .i64 k ∧ kp = .int .u8 (keepOf (F.take k) en.n) ∧ Fr [] wr wr') (fun _ i _ => F.length - (intOf i).toNat)
        case atStart => exact ⟨0, by omega, rfl, rfl, Fr.refl _ _⟩
        case round =>
          obtain ⟨k, hk, rfl, rfl, fk⟩ := hrel
          by_cases hkl : k < F.length
          · have hkl' : (k : Int) < (F.length : Int) := by omega
            have hk0 : (0 : Int) ≤ (k : Int) := by omega
            obtain ⟨fb, fo, hfa, p0, p1, _⟩ := (hFj.kept fk (by simp)) k F[k] (List.getElem?_eq_getElem hkl)
            subst hfa
            have dk := dj.kept fk (by simp)
            obtain ⟨q0', _⟩ := dk.at wj.len.symm j _ hat
            have hkt := keepOf_take F k F[k] en.n (List.getElem?_eq_getElem hkl)
            have HK : Hid (keepOf (F.take (k + 1)) en.n = if F[k].1 = en.n then F[k].2 else keepOf (F.take k) en.n) := hkt
            clear hkt
            cases hb : (F[k].1 == en.n)
            · go_wp2
              go_quiet (fail)
              go_wp2
              refine ⟨⟨k + 1, by omega, by go_num, ?_, fk.drewN _⟩, by simp [intOf]; omega⟩
              rw [HK.out, if_neg (by simpa using hb)]
            · go_wp2
              go_quiet (fail)
              go_wp2
              refine ⟨⟨k + 1, by omega, by go_num, ?_, fk.drewN _⟩, by simp [intOf]; omega⟩
              rw [HK.out, if_pos (by simpa using hb)]
          · obtain rfl : k = F.length := by omega
            rw [List.take_length]
            have dk := dj.kept fk (by simp)
            obtain ⟨kp0, kp1⟩ := keepOf_range F (fun f hf => (hF.wf f hf).2) en.n
            have HT : Hid (wokenB F en = tornTo en.s en.l (keepOf F en.n) 8) := rfl
            have hTl : (wokenB F en).length = 512 := tornTo_length _ _ _ _
            go_wp2
            generalize hkp : keepOf F en.n = kp at kp0 kp1 HT
            go_loopw [8, 9] (fun v i wr' => ∃ k : Nat, k ≤ 512 ∧ i = .int .i64 k ∧ Own wr wr' v k (arr ((wokenB F en).take k)).toList) (fun _ i _ => 512 - (intOf i).toNat)
            case atStart => exact ⟨0, by omega, rfl, ⟨World.ownsRow_nil _ _ _ _, Fr.refl _ _⟩⟩
            case round =>
              obtain ⟨k, hk5, rfl, ow⟩ := hrel
              by_cases hkl5 : k < 512
              · have hkl' : (k : Int) < 512 := by omega
                have hk0 : (0 : Int) ≤ (k : Int) := by omega
                have dk3 := dk.kept ow.2 (by simp)
                obtain ⟨_, r1, r2, _⟩ := dk3.at wj.len.symm j _ hat
                have ok3 := dk3.ents _ hmem
                have hls : k < en.s.length := by rw [ok3.s5]; exact hkl5
                have hll : k < en.l.length := by rw [ok3.l5]; exact hkl5
                obtain ⟨_, _, eS, tS⟩ := ok3.sb k (.int .u8 en.s[k].toNat) (by simp [arr, hls])
                obtain ⟨_, _, eL, tL⟩ := ok3.lb k (.int .u8 en.l[k].toNat) (by simp [arr, hll])
                cases eS
                cases eL
                rw [Nat.zero_add] at tS tL
                have hand := and_one_u8 (kp / 2 ^ (k / 64)) (Int.ediv_nonneg kp0 (by exact Int.le_of_lt (Int.pow_pos (by omega)))) (by have := Int.ediv_le_self (2 ^ (k / 64) : Int) kp0; omega)
                have HA := tornTo_at en.s en.l kp k hkl5 ok3.s5 ok3.l5
                rw [← HT.out, List.getElem?_eq_getElem hls, List.getElem?_eq_getElem hll] at HA
                have HW := woken_take (wokenB F en) k
                generalize en.l[k] = bl at tL HA
                generalize en.s[k] = bs at tS HA
                cases hbit : (bits BinOp.and IntKind.u8 (kp / 2 ^ (k / 64)) 1 == 1)
                · have hb : bitOf kp (k / 64) = false := by unfold bitOf; rw [← hand]; exact hbit
                  rw [hb, if_neg (by simp)] at HA
                  have HW' := HW bs HA
                  clear hand HA HW
                  go_wp2_with (first
                    | (refine wp_app rfl _ _ rfl _ _ k _ rfl (ow.kept ((Fr.refl [] _).alloc _)) _ 1 _ [bs] rfl rfl (oneByte' bs _) (by omega) (fun h => absurd h (by omega)) ?_; intro v5 w5 o5)
                    | go_in)
                  refine ⟨⟨k + 1, by omega, by go_num, ?_⟩, by simp [intOf]; omega⟩
                  rw [HW', ← arr_append]
                  exact o5
                · have hb : bitOf kp (k / 64) = true := by unfold bitOf; rw [← hand]; exact hbit
                  rw [hb, if_pos rfl] at HA
                  have HW' := HW bl HA
                  clear hand HA HW
                  go_wp2_with (first
                    | (refine wp_app rfl _ _ rfl _ _ k _ rfl (ow.kept ((Fr.refl [] _).alloc _)) _ 1 _ [bl] rfl rfl (oneByte' bl _) (by omega) (fun h => absurd h (by omega)) ?_; intro v5 w5 o5)
                    | go_in)
                  refine ⟨⟨k + 1, by omega, by go_num, ?_⟩, by simp [intOf]; omega⟩
                  rw [HW', ← arr_append]
                  exact o5
              · obtain rfl : k = 512 := by omega
                rw [List.take_of_length_le (by rw [hTl]; omega)] at ow
                rw [← hTl] at ow
                obtain ⟨g2, c2, rfl, b2, hg2, hlt2⟩ := Own.bytes ow hTl
                clear hkl5 hk5
                have d3 := dk.kept ow.2 (by simp)
                have hgl := (d3.row.lt g rfl).2
                have hgk := (dk.row.lt g rfl).2
                have hrk := dk.lt
                obtain ⟨x1, y1, x2, y2, x3, y3, d6⟩ := rwake_put d3 wj.len.symm j en hat g2 c2 (wokenB F en) hTl b2 (by omega) (by omega)
                have f6 := (((Fr.refl [g] wr).setCell ⟨g, j * 4 + 1, none⟩ (.slice (some ⟨g2, 0, none⟩) 512 c2) (by simp)).setCell ⟨g, j * 4 + 2, none⟩ (.slice (some ⟨g2, 0, none⟩) 512 c2) (by simp)).setCell ⟨g, j * 4 + 3, none⟩ (.bool false) (by simp)
                have f7 := (((fj.then fk (by simp)).then ow.2 (by simp)).then f6 (fun i _ hm => by simp at hm; simp [Value.ownBlock, hm]))
                have wj' := wj.put hat0 ho g2 c2 (by have := fj.size; have := fk.size; omega)
                clear ow
                go_wp2
                exact ⟨⟨j + 1, _, by omega, by go_num, d6, wj', f7⟩, by simp [intOf]; omega⟩
    · obtain rfl : j = E.length := by omega
      go_wp2
      go_end0
      exact ⟨rfl, ⟨Ej, dj, wj⟩, fj⟩

end Go.Proofs.Ytkenkgfohgmpnaa
