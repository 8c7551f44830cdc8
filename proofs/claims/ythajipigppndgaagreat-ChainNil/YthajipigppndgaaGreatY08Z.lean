/-
  A sector's stamp, and a log's first block laid: the program's seal and laid.
-/
import Derived.Test.YthajipigppndgaaGreatY07Z
import Derived.Test.YthajipigppndgaaGreatY04Z
import Derived.Deep.Cut
namespace Go.Proofs.YthajipigppndgaaGreat
open Go.RowKit Go.Maps

/-- What bytes begin with. -/
def decR (l : List UInt8) : Option (Rec × Nat) :=
  if l.length < 18 then none
  else if l.length - 18 < valL ((l.drop 12).take 2) then none
  else if valL ((l.drop 14).take 4) ≠ crc (l.take 14 ++ (l.drop 18).take (valL ((l.drop 12).take 2))) then none
  else (bodyD ((l.drop 18).take (valL ((l.drop 12).take 2))) (toI (valL (l.take 8))) (valL ((l.drop 8).take 4))).bind fun r => if rightB r = true then some (r, 18 + valL ((l.drop 12).take 2)) else none

/-- What Get answers. -/
def GetTo (w : World) (l : List UInt8) (e : Ending) (w' : World) : Prop :=
  (decR l = none ∧ e = .returned (.tuple #[.agg (recV (zeroR 0 0) zeroS), .int .i64 0, .int .i64 4]) ∧ Fr [] w w') ∨
  ∃ r n s, decR l = some (r, n) ∧ e = .returned (.tuple #[.agg (recV r s), .int .i64 (n : Int), .int .i64 0]) ∧ NewSpots w w' r s ∧ Fr [] w w'

theorem sizeR : (Tryz.prog.info? 148).map (·.size) = some 10 := by kernel_rfl
theorem resR3 {fn : Func} {p q t : Tmp} (h : fn.results = #[.cell p 148, .tmp q, .tmp t]) (tmps : Array Value) (w : World) (b : Nat) (r : Rec) (s : Spots) (hp : tmps.getD p undef = .pointer (some ⟨b, 0, none⟩)) (hg : RBox w b r s) :
    (results fn tmps).run Tryz.prog w = .ok (.tuple #[.agg (recV r s), tmps.getD q undef, tmps.getD t undef]) w := by
  have hl := run_loadVar_row w b 148 148 (recV r s) (0, 0) _ hg Tryz.underlying148 rfl (by rw [sizeR]; rfl)
  have hp2 : tmps[p]?.getD undef = .pointer (some ⟨b, 0, none⟩) := by simpa using hp
  simp only [results, h]
  simp [hp2, asAddr, hl]

theorem ret3 {x : Value} {a b : Int} (h : a = b) : Ending.returned (.tuple #[x, .int .i64 a, .int .i64 0]) = .returned (.tuple #[x, .int .i64 b, .int .i64 0]) := by rw [h]
theorem spanD_len {l : List UInt8} {wo : Bool} {q : Nat × Nat × List UInt8 × List UInt8} (h : spanD l wo = some q) : q.2.2.2.length ≤ l.length := by
  unfold spanD at h
  by_cases h1 : l.length < 8
  · rw [if_pos h1] at h; cases h
  rw [if_neg h1] at h
  generalize (if wo = true then valL ((l.drop 6).take 2) else 0) = x at h
  by_cases h2 : l.length - 8 ≠ x + valL ((l.drop 6).take 2)
  · rw [if_pos h2] at h; cases h
  rw [if_neg h2] at h
  cases h
  simp
theorem bodyD_len {l : List UInt8} {lsn turn : Int} {r : Rec} (h : bodyD l lsn turn = some r) : r.new.length ≤ l.length := by
  unfold bodyD at h
  split at h
  · cases h
  split at h
  · cases e : spanD (l.drop 17) true with
    | none => rw [e] at h; cases h
    | some q =>
      rw [e] at h
      cases h
      have := spanD_len e
      simp at this ⊢
      omega
  split at h
  · split at h
    · cases h
    cases e : spanD (l.drop 25) false with
    | none => rw [e] at h; cases h
    | some q =>
      rw [e] at h
      cases h
      have := spanD_len e
      simp at this ⊢
      omega
  split at h
  · cases h; simp
  · cases h
theorem NewSpots.kept {w0 w w' : World} {r : Rec} {s : Spots} {L : List Nat} (h : NewSpots w0 w r s) (f : Fr L w w') (hL : ∀ g ∈ L, ∀ cur t, w.heap[g]? = some (.cells cur t) → t ≠ 5) : NewSpots w0 w' r s :=
  ⟨h.o.kept f hL, h.n.kept f hL, h.c1, h.c2, h.ne⟩

section
variable {ops : Array Oper} {rest : List Oper} {o : Oper} {a : Act} {w : World} {Q : Exit → Act → World → Prop}
theorem wp_storeR (hgd : o.guard = none) (x y : Operand) (ho : o.op = .store 148 x y) (b : Nat) (r r' : Rec) (s s' : Spots) (hx : a.eval x = .pointer (some ⟨b, 0, none⟩)) (hy : a.eval y = .agg (recV r' s')) (hg : RBox w b r s)
    (h : ∀ w', RBox w' b r' s' → Fr [b] w w' → wpList Tryz.prog ops Q rest (a.put o.dst undef) w') : wpList Tryz.prog ops Q (o :: rest) a w :=
  wpList_store_row hgd 148 x y ho b (recV r' s') hx hy 148 (recV r s) hg sizeR rfl (by simp [recV]; exact ⟨rfl, rfl, rfl, rfl, rfl, rfl, rfl, rfl, rfl, rfl⟩)
    (h _ (setRow_heap w b _ _ _ _ hg) ⟨rfl, rfl, rfl, by simp, fun i _ hn => setRow_other w b i _ (fun e => hn (by simp [e]))⟩)
end

set_option maxHeartbeats 400000 in
set_option maxRecDepth 100000 in
theorem get_short (w : World) (ad : Option Addr) (n c : Nat) (l : List UInt8) (hl : l.length = n) (h8 : n < 18) :
    Calls Tryz.prog 251 #[.slice ad n c] w fun e w' => GetTo w l e w' := by
  have HL : Hid (l.length = n) := hl
  clear hl
  have h8' : (n : Int) < 18 := by omega
  go_enter Tryz.func251, Tryz.ntmps251
  go_wp2_with fail
  refine bodyPost_ret (resR3 rfl _ _ w.heap.size (zeroR 0 0) zeroS rfl (heap_alloc_new w _)) rfl (Or.inl ⟨?_, rfl, (Fr.refl [] w).alloc _⟩)
  unfold decR
  rw [if_pos (by rw [HL.out]; exact h8)]

set_option maxHeartbeats 400000 in
set_option maxRecDepth 100000 in
theorem get_main (w : World) (g o n c : Nat) (l : List UInt8) (hl : l.length = n) (hc : n ≤ c) (hn : n ≤ 100000) (hb : BytesAt w (some ⟨g, o, none⟩) l) (h8 : 18 ≤ n) :
    Calls Tryz.prog 251 #[.slice (some ⟨g, o, none⟩) n c] w fun e w' => GetTo w l e w' := by
  have HL : Hid (l.length = n) := hl
  have hgl : g < w.heap.size := by
    obtain ⟨b, off, e, hq⟩ := hb.at 0 (by omega)
    cases e
    exact block_lt_of_cell hq
  clear hl
  have h8' : ¬ (n : Int) < 18 := by omega
  have hi1 : (18 : Int) ≤ n := by omega
  have hi2 : (18 : Int) ≤ c := by omega
  have hi3 : (n : Int) ≤ c := by omega
  obtain ⟨o2, HO, hdp⟩ := take_at c 18 g o
  go_enter Tryz.func251, Tryz.ntmps251
  go_wp2_with fail
  have rR : RBox (w.alloc (.cells #[.int .i64 0, .int .i64 0, .int .u8 0, .int .i64 0, .int .i64 0, .int .i64 0, .int .i64 0, .int .i64 0, .slice none 0 0, .slice none 0 0] 148)) w.heap.size (zeroR 0 0) zeroS := heap_alloc_new w _
  have f1 := (Fr.refl [] w).alloc (.cells #[.int .i64 0, .int .i64 0, .int .u8 0, .int .i64 0, .int .i64 0, .int .i64 0, .int .i64 0, .int .i64 0, .slice none 0 0, .slice none 0 0] 148)
  have hsz1 : (w.alloc (.cells #[.int .i64 0, .int .i64 0, .int .u8 0, .int .i64 0, .int .i64 0, .int .i64 0, .int .i64 0, .int .i64 0, .slice none 0 0, .slice none 0 0] 148)).heap.size = w.heap.size + 1 := by simp
  generalize w.alloc (.cells #[.int .i64 0, .int .i64 0, .int .u8 0, .int .i64 0, .int .i64 0, .int .i64 0, .int .i64 0, .int .i64 0, .slice none 0 0, .slice none 0 0] 148) = w1 at rR f1 hsz1 ⊢
  go_region
  obtain ⟨R, HR⟩ : ∃ R, Hid (w.heap.size = R) := ⟨_, rfl⟩
  rw [HR.out] at rR hsz1 hgl ⊢
  have hbx : SBox (w1.alloc (.cells #[.slice (some ⟨g, o, none⟩) 18 c] 26)).drew (R + 1) (.slice (some ⟨g, o, none⟩) 18 c) := by
    have := heap_alloc_new w1 (.cells #[.slice (some ⟨g, o, none⟩) 18 c] 26)
    rw [hsz1] at this
    exact this
  have f2 : Fr [] w1 (w1.alloc (.cells #[.slice (some ⟨g, o, none⟩) 18 c] 26)).drew := ((Fr.refl [] w1).alloc _).drew
  have hsz2 : (w1.alloc (.cells #[.slice (some ⟨g, o, none⟩) 18 c] 26)).drew.heap.size = R + 1 + 1 := by rw [← hsz1]; simp
  generalize (w1.alloc (.cells #[.slice (some ⟨g, o, none⟩) 18 c] 26)).drew = w2 at hbx f2 hsz2 ⊢
  have r2 := rR.kept f2 (by simp)
  have F2 := f1.trans f2
  clear rR f1 f2 hsz1
  obtain ⟨H, HH⟩ : ∃ H, Hid (R + 1 = H) := ⟨_, rfl⟩
  have hgR : g ≠ R := by omega
  have hgH : g ≠ H := by have := HH.out; omega
  have hRH : R ≠ H := by have := HH.out; omega
  rw [HH.out] at hbx hsz2 ⊢
  have b2 := hb.kept F2 (by simp)
  have hl18 : (l.take 18).length = 18 := by rw [List.length_take, HL.out]; omega
  have b18 : BytesAt w2 (some ⟨g, o, none⟩) (l.take 18) := by simpa using b2.sub 0 18
  go_wp2_with fail
  refine (take64_any _ H g o 18 c (l.take 18) hbx hl18 (by omega) (by omega) b18 hgH).mono ?_
  rintro e w3 ⟨rfl, o3, hbx3, b3, f3⟩
  have r3 := r2.kept f3 (by simpa using hRH)
  have F3 := F2.then f3 (fun i hi hm => by simp at hm; have h1 := HH.out; have h2 := HR.out; omega)
  have hs3 := f3.size
  rw [show (l.take 18).take 8 = l.take 8 by rw [List.take_take]; rfl]
  obtain ⟨LS, HLS⟩ : ∃ LS, Hid (valL (l.take 8) = LS) := ⟨_, rfl⟩
  rw [HLS.out]
  clear hbx b18 f3 r2 F2 b2
  go_wp2_with fail
  refine (take32_any _ H g o3 (18 - 8) (c - 8) ((l.take 18).drop 8) hbx3 (by rw [List.length_drop, hl18]) (by omega) (by omega) b3 hgH).mono ?_
  rintro e w4 ⟨rfl, o4, hbx4, b4, f4⟩
  have r4 := r3.kept f4 (by simpa using hRH)
  have F4 := F3.then f4 (fun i hi hm => by simp at hm; have h1 := HH.out; have h2 := HR.out; omega)
  have hs4 := f4.size
  have e84 : ((l.take 18).drop 8).take 4 = (l.drop 8).take 4 := by rw [List.drop_take, List.take_take]; rfl
  rw [e84]
  obtain ⟨TU, HTU⟩ : ∃ TU, Hid (valL ((l.drop 8).take 4) = TU) := ⟨_, rfl⟩
  rw [HTU.out]
  have hTU : (TU : Int) < 4294967296 := by
    have h := valL_lt ((l.drop 8).take 4)
    rw [List.length_take, List.length_drop, HL.out, Nat.min_eq_left (by omega), HTU.out] at h
    simp at h
    omega
  clear hbx3 b3 f4 r3 F3 e84
  go_wp2_with fail
  have p5 : RBox (w4.alloc (.cells #[.int .i64 (wrap64 (LS : Int)), .int .i64 (TU : Int), .int .u8 0, .int .i64 0, .int .i64 0, .int .i64 0, .int .i64 0, .int .i64 0, .slice none 0 0, .slice none 0 0] 148)) w4.heap.size (zeroR (toI LS) TU) zeroS := heap_alloc_new w4 _
  have f5 : Fr [] w4 (w4.alloc (.cells #[.int .i64 (wrap64 (LS : Int)), .int .i64 (TU : Int), .int .u8 0, .int .i64 0, .int .i64 0, .int .i64 0, .int .i64 0, .int .i64 0, .slice none 0 0, .slice none 0 0] 148)) := (Fr.refl [] w4).alloc _
  generalize w4.alloc (.cells #[.int .i64 (wrap64 (LS : Int)), .int .i64 (TU : Int), .int .u8 0, .int .i64 0, .int .i64 0, .int .i64 0, .int .i64 0, .int .i64 0, .slice none 0 0, .slice none 0 0] 148) = w5 at p5 f5 ⊢
  obtain ⟨P, HP⟩ : ∃ P, Hid (w4.heap.size = P) := ⟨_, rfl⟩
  rw [HP.out] at p5 ⊢
  have hPH : P ≠ H := by have h1 := HP.out; omega
  have hPR : P ≠ R := by have h1 := HP.out; have h2 := HH.out; omega
  have hgP : g ≠ P := by have h1 := HP.out; have h2 := HH.out; omega
  have HPw : Hid (w.heap.size ≤ P) := hidI (by have h1 := HP.out; have h2 := F4.size; omega)
  have r5 := r4.kept f5 (by simp)
  have hbx5 := hbx4.kept f5 (by simp)
  have b5 := b4.kept f5 (by simp)
  have F5 := F4.trans f5
  clear r4 hbx4 b4 f5 F4
  refine (take16_any _ H g o4 (18 - 8 - 4) (c - 8 - 4) (((l.take 18).drop 8).drop 4) hbx5 (by rw [List.length_drop, List.length_drop, hl18]) (by omega) (by omega) b5 hgH).mono ?_
  rintro e w6 ⟨rfl, o6, hbx6, b6, f6⟩
  have r6 := r5.kept f6 (by simpa using hRH)
  have p6 := p5.kept f6 (by simpa using hPH)
  have F6 := F5.then f6 (fun i hi hm => by simp at hm; have h1 := HH.out; have h2 := HR.out; omega)
  have e122 : (((l.take 18).drop 8).drop 4).take 2 = (l.drop 12).take 2 := by rw [List.drop_drop, List.drop_take, List.take_take]; rfl
  rw [e122]
  obtain ⟨SZ, HSZ⟩ : ∃ SZ, Hid (valL ((l.drop 12).take 2) = SZ) := ⟨_, rfl⟩
  rw [HSZ.out]
  have hSZ : (SZ : Int) < 65536 := by
    have h := valL_lt ((l.drop 12).take 2)
    rw [List.length_take, List.length_drop, HL.out, Nat.min_eq_left (by omega), HSZ.out] at h
    simp at h
    omega
  have b14 : BytesAt w6 (some ⟨g, o6, none⟩) ((l.drop 14).take 4) := by
    have e : (((l.take 18).drop 8).drop 4).drop 2 = (l.drop 14).take 4 := by simp only [List.drop_drop, List.drop_take]
    rwa [e] at b6
  clear hbx5 b5 f6 r5 p5 F5 e122 b6
  have bw := hb.kept F6 (by simp)
  go_wp2_with fail
  by_cases hbig : n - 18 < SZ
  · have q1 : ((n - 18 : Nat) : Int) < SZ := by omega
    have HD : Hid (decR l = none) := hidI (by unfold decR; rw [if_neg (by rw [HL.out]; omega), HSZ.out, HL.out, if_pos hbig])
    go_quiet (fail)
    have r7 := r6.kept ((Fr.refl [] w6).drewN nq) (by simp)
    have F7 := F6.drewN nq
    generalize w6.drewN nq = w7 at r7 F7 ⊢
    go_wp2_with (refine wp_storeR rfl _ _ rfl R _ (zeroR 0 0) _ zeroS rfl rfl r7 ?_; intro w8 r8 f8)
    refine bodyPost_ret (resR3 rfl _ _ R (zeroR 0 0) zeroS rfl r8) rfl (Or.inl ⟨HD.out, rfl, F7.then f8 (fun i hi hm => by simp at hm; have h2 := HR.out; omega)⟩)
  · have q1 : ¬ ((n - 18 : Nat) : Int) < SZ := by omega
    have q2 : (14 : Int) ≤ c := by omega
    have q3 : (SZ : Int) ≤ ((c - 18 : Nat) : Int) := by omega
    have q4 : (0 : Int) ≤ SZ := by omega
    have hl4 : ((l.drop 14).take 4).length = 18 - 8 - 4 - 2 := by rw [List.length_take, List.length_drop, HL.out]; omega
    have hl14 : (l.take 14).length = 14 := by rw [List.length_take, HL.out]; omega
    have hlSZ : ((l.drop 18).take SZ).length = SZ := by rw [List.length_take, List.length_drop, HL.out]; omega
    have c14 : BytesAt w6 (some ⟨g, o, none⟩) (l.take 14) := by simpa using bw.sub 0 14
    have cSZ : BytesAt w6 (some ⟨g, o2, none⟩) ((l.drop 18).take SZ) := by
      rcases HO.out with e | rfl
      · have : SZ = 0 := by omega
        subst this
        simpa using BytesAt.nil _ _
      · exact bw.sub 18 SZ
    have X6 := hidI hbx6
    have B14 := hidI b14
    have C14 := hidI c14
    have CSZ := hidI cSZ
    obtain ⟨V, HV⟩ : ∃ V, Hid (valL (((l.drop 14).take 4).take 4) = V) := ⟨_, rfl⟩
    obtain ⟨CR, HCR⟩ : ∃ CR, Hid (crc (l.take 14 ++ (l.drop 18).take SZ) = CR) := ⟨_, rfl⟩
    clear hbx6 b14 c14 cSZ
    obtain ⟨bb, HBB⟩ : ∃ bb, Hid (((V : Int) != (CR : Int)) = bb) := ⟨_, rfl⟩
    go_cut [38] from 24 (fun s38 wx => s38 = .bool bb ∧ Fr [H] w6 wx)
    case first => as_aux_lemma =>
      obtain ⟨W0, HW0⟩ : ∃ W0, Hid (W0 = w6) := ⟨_, rfl⟩
      have gg : Fr [H] W0 w6.drew := (by rw [HW0.out]; exact (Fr.refl _ _).drew)
      have XD : Hid (SBox w6.drew H (.slice (some ⟨g, o6, none⟩) (18 - 8 - 4 - 2) (c - 8 - 4 - 2))) := hidI (X6.out.kept (Fr.refl [] w6).drew (by simp))
      have HHl : Hid (H < w6.heap.size) := hidI X6.out.lt
      rw [← HW0.out] at r6 X6 B14 C14 CSZ
      have SK : Hid (∀ w', Fr [H] W0 w' → w'.cell? ⟨R, 0, none⟩ = some (.int .i64 0)) := hidI (fun w' f => (r6.kept f (by simpa using hRH)).c0)
      have SX : Hid (∀ w', Fr [H] W0 w' → BytesAt w' (some ⟨g, o6, none⟩) ((l.drop 14).take 4) ∧ BytesAt w' (some ⟨g, o, none⟩) (l.take 14) ∧ BytesAt w' (some ⟨g, o2, none⟩) ((l.drop 18).take SZ)) := hidI (fun w' f => ⟨B14.out.kept f (fun b' off e => by cases e; simpa using hgH), C14.out.kept f (fun b' off e => by cases e; simpa using hgH), CSZ.out.kept f (fun b' off e => by cases e; simpa using hgH)⟩)
      have k0 := SK.out _ gg
      go_region_held3 (fun w' => w'.cell? ⟨R, 0, none⟩ = some (.int .i64 0)) (first | exact SK.out _ gg | exact SK.out _ (gg.alloc _))
        ((first
          | (go_at_call 276; refine (take32_any _ H g o6 (18 - 8 - 4 - 2) (c - 8 - 4 - 2) ((l.drop 14).take 4) (by first | exact XD.out | exact XD.out.kept ((Fr.refl [] _).alloc _) (by simp)) hl4 (by omega) (by omega) (by first | exact (SX.out _ gg).1 | exact (SX.out _ (gg.alloc _)).1) hgH).mono ?_; rintro e w7 ⟨rfl, o7, hbx7, b7, f7⟩; rw [HV.out]; (first | replace gg := gg.trans f7 | replace gg := (gg.alloc _).trans f7))
          | (go_at_call 265; refine (sum_any _ _ 2 14 c SZ (c - 18) _ _ (l.take 14) ((l.drop 18).take SZ) (by first | exact heap_alloc_new _ _ | exact f7.same (by have h := HHl.out; simp; omega) (heap_alloc_new _ _)) hl14 hlSZ (by first | exact (SX.out _ gg).2.1 | exact (SX.out _ (gg.alloc _)).2.1) (by first | exact (SX.out _ gg).2.2 | exact (SX.out _ (gg.alloc _)).2.2) (by omega) (by omega)).mono ?_; rintro e w8 ⟨rfl, hw8⟩; subst hw8; rw [HCR.out])))
      all_goals go_wp2
      all_goals go_meet
      all_goals (have HW := HW0.out; subst HW)
      all_goals (first | exact ⟨congrArg Value.bool HBB.out, gg⟩ | exact ⟨congrArg Value.bool HBB.out, gg.alloc _⟩)
    obtain ⟨rfl, fx⟩ := hcut
    have hV4 : Hid (valL ((l.drop 14).take 4) = V) := hidI (by rw [← HV.out, List.take_take]; rfl)
    have hD : decR l = if V ≠ CR then none else (bodyD ((l.drop 18).take SZ) (toI LS) TU).bind fun r => if rightB r = true then some (r, 18 + SZ) else none := by
      unfold decR
      rw [if_neg (by rw [HL.out]; omega), HSZ.out, HL.out, if_neg hbig, hV4.out, HCR.out, HLS.out, HTU.out]
    have HD := hidI hD
    clear hD
    have rx := r6.kept fx (by simpa using hRH)
    have px := p6.kept fx (by simpa using hPH)
    have cx := CSZ.out.kept fx (fun b' off e => by cases e; simpa using hgH)
    have FX := F6.then fx (fun i hi hm => by simp at hm; have h1 := HH.out; have h2 := HR.out; omega)
    have hgx : g < wc.heap.size := by have h1 := FX.size; have h2 := HR.out; omega
    have HRw : Hid (w.heap.size ≤ R) := hidI (by have h2 := HR.out; omega)
    have hw18 : IntKind.i64.wrap (18 + (SZ : Int)) = 18 + (SZ : Int) := by simp [IntKind.wrap, IntKind.signed, IntKind.bits]; omega
    clear X6 B14 C14 CSZ r6 p6 fx F6 hl4 hl14 bw HV HCR hV4
    cases bb
    · have HVC : Hid (V = CR) := hidI (by have h := HBB.out; rw [bne_eq_false_iff_eq] at h; omega)
      go_wp2_with fail
      refine (readBody_any wc P (toI LS) TU px g o2 SZ (c - 18) ((l.drop 18).take SZ) hlSZ (by omega) (by omega) cx hgP hgx).mono ?_
      rintro e w9 hB
      rcases hB with ⟨h1, rfl, f9⟩ | ⟨r', s', h1, rfl, rB, nB, f9⟩
      · have r9 := rx.kept f9 (by simpa using hPR.symm)
        have F9 := FX.then f9 (fun i hi hm => by simp at hm; have h1 := HPw.out; omega)
        go_wp2_with (refine wp_storeR rfl _ _ rfl R _ (zeroR 0 0) _ zeroS rfl rfl r9 ?_; intro w10 r10 f10)
        refine bodyPost_ret (resR3 rfl _ _ R (zeroR 0 0) zeroS rfl r10) rfl (Or.inl ⟨?_, rfl, F9.then f10 (fun i hi hm => by simp at hm; have h2 := HRw.out; omega)⟩)
        rw [HD.out, if_neg (fun h => h HVC.out), h1]
        rfl
      · have r9 := rx.kept f9 (by simpa using hPR.symm)
        have F9 := FX.then f9 (fun i hi hm => by simp at hm; have h1 := HPw.out; omega)
        have hnn : r'.new.length ≤ 1000000 := by
          have := bodyD_len h1
          omega
        have x0 := rB.c0
        have x1 := rB.c1
        have x2 := rB.c2
        have x3 := rB.c3
        have x4 := rB.c4
        have x5 := rB.c5
        have x6 := rB.c6
        have x7 := rB.c7
        have x8 := rB.c8
        have x9 := rB.c9
        have HNB := hidI (new_base nB FX.size)
        have hRR := right_any w9 r' s' hnn
        unfold recV at hRR
        clear nB f9 rx px cx FX
        go_wp2_with fail
        refine hRR.mono ?_
        rintro e w10 ⟨rfl, f10⟩
        clear x0 x1 x2 x3 x4 x5 x6 x7 x8 x9 hRR
        have r10 := r9.kept f10 (by simp)
        have F10 := F9.trans f10
        have rB10 := rB.kept f10 (by simp)
        have HN10 := hidI (HNB.out.kept (L := []) f10 (fun g' hg' => nomatch hg'))
        cases hrt : rightB r'
        · go_wp2_with (refine wp_storeR rfl _ _ rfl R _ (zeroR 0 0) _ zeroS rfl rfl r10 ?_; intro w11 r11 f11)
          refine bodyPost_ret (resR3 rfl _ _ R (zeroR 0 0) zeroS rfl r11) rfl (Or.inl ⟨?_, rfl, F10.then f11 (fun i hi hm => by simp at hm; have h2 := HRw.out; omega)⟩)
          rw [HD.out, if_neg (fun h => h HVC.out), h1]
          show (if rightB r' = true then _ else _) = none
          rw [hrt]
          rfl
        · have x0 := rB10.c0
          have x1 := rB10.c1
          have x2 := rB10.c2
          have x3 := rB10.c3
          have x4 := rB10.c4
          have x5 := rB10.c5
          have x6 := rB10.c6
          have x7 := rB10.c7
          have x8 := rB10.c8
          have x9 := rB10.c9
          go_wp2_with (refine wp_storeR rfl _ _ rfl R _ r' _ s' rfl rfl r10 ?_; intro w11 r11 f11)
          refine bodyPost_ret (resR3 rfl _ _ R r' s' rfl r11) rfl (Or.inr ⟨r', 18 + SZ, s', ?_, ?_, HN10.out.kept f11 (fun g' hg' cur t h => by simp at hg'; subst hg'; rw [r10] at h; cases h; decide), F10.then f11 (fun i hi hm => by simp at hm; have h2 := HRw.out; omega)⟩)
          · rw [HD.out, if_neg (fun h => h HVC.out), h1]
            show (if rightB r' = true then _ else _) = _
            rw [hrt]
            rfl
          · exact ret3 (by omega)
    · have hVC : V ≠ CR := by have h := HBB.out; rw [bne_iff_ne] at h; omega
      go_wp2_with (refine wp_storeR rfl _ _ rfl R _ (zeroR 0 0) _ zeroS rfl rfl rx ?_; intro w10 r10 f10)
      refine bodyPost_ret (resR3 rfl _ _ R (zeroR 0 0) zeroS rfl r10) rfl (Or.inl ⟨?_, rfl, FX.then f10 (fun i hi hm => by simp at hm; have h2 := HRw.out; omega)⟩)
      rw [HD.out, if_pos hVC]

theorem get_any (w : World) (ad : Option Addr) (n c : Nat) (l : List UInt8) (hl : l.length = n) (hc : n ≤ c) (hn : n ≤ 100000) (hb : BytesAt w ad l) :
    Calls Tryz.prog 251 #[.slice ad n c] w fun e w' => GetTo w l e w' := by
  by_cases h : n < 18
  · exact get_short w ad n c l hl h
  · obtain ⟨g, o, rfl, _⟩ := hb.at 0 (by omega)
    exact get_main w g o n c l hl hc hn hb (by omega)

end Go.Proofs.YthajipigppndgaaGreat

namespace Go.Proofs.YthajipigppndgaaGreat
open Go.RowKit Go.Maps

/-- A log's fields. -/
structure Lg where
  dv : Value
  first : Int
  count : Int
  turn : Int
  oldest : Int
  safe : Int
  fin : Int
  by' : Value
  from' : Int
  ls : Value
def logV (x : Lg) : Array Value := #[x.dv, .int .i64 x.first, .int .i64 x.count, .int .i64 x.turn, .int .i64 x.oldest, .int .i64 x.safe, .int .i64 x.fin, x.by', .int .i64 x.from', x.ls]
def LBox (w : World) (p : Nat) (x : Lg) : Prop := w.heap[p]? = some (.cells (logV x) 153)
theorem LBox.kept {w w' : World} {p : Nat} {x : Lg} {L : List Nat} (h : LBox w p x) (f : Fr L w w') (hp : p ∉ L) : LBox w' p x := f.same hp h
theorem LBox.lt {w : World} {p : Nat} {x : Lg} (h : LBox w p x) : p < w.heap.size := (Array.getElem?_eq_some_iff.1 h).1
theorem LBox.fz {w : World} {p : Nat} {x : Lg} (h : LBox w p x) (j : Nat) : w.frozen? ⟨p, j, none⟩ = false := frozen_of_row w p j _ _ h
theorem LBox.c0 {w : World} {p : Nat} {x : Lg} (h : LBox w p x) : w.cell? ⟨p, 0, none⟩ = some (x.dv) := cell_of_row w p 0 _ _ _ h
theorem LBox.s0 {w : World} {p : Nat} {x : Lg} (h : LBox w p x) (v : Value) : LBox (w.setCell ⟨p, 0, none⟩ v) p { x with dv := v } := heap_setCell_same w p 0 _ _ _ h
theorem LBox.c1 {w : World} {p : Nat} {x : Lg} (h : LBox w p x) : w.cell? ⟨p, 1, none⟩ = some (.int .i64 x.first) := cell_of_row w p 1 _ _ _ h
theorem LBox.s1 {w : World} {p : Nat} {x : Lg} (h : LBox w p x) (v : Int) : LBox (w.setCell ⟨p, 1, none⟩ (.int .i64 v)) p { x with first := v } := heap_setCell_same w p 1 _ _ _ h
theorem LBox.c2 {w : World} {p : Nat} {x : Lg} (h : LBox w p x) : w.cell? ⟨p, 2, none⟩ = some (.int .i64 x.count) := cell_of_row w p 2 _ _ _ h
theorem LBox.s2 {w : World} {p : Nat} {x : Lg} (h : LBox w p x) (v : Int) : LBox (w.setCell ⟨p, 2, none⟩ (.int .i64 v)) p { x with count := v } := heap_setCell_same w p 2 _ _ _ h
theorem LBox.c3 {w : World} {p : Nat} {x : Lg} (h : LBox w p x) : w.cell? ⟨p, 3, none⟩ = some (.int .i64 x.turn) := cell_of_row w p 3 _ _ _ h
theorem LBox.s3 {w : World} {p : Nat} {x : Lg} (h : LBox w p x) (v : Int) : LBox (w.setCell ⟨p, 3, none⟩ (.int .i64 v)) p { x with turn := v } := heap_setCell_same w p 3 _ _ _ h
theorem LBox.c4 {w : World} {p : Nat} {x : Lg} (h : LBox w p x) : w.cell? ⟨p, 4, none⟩ = some (.int .i64 x.oldest) := cell_of_row w p 4 _ _ _ h
theorem LBox.s4 {w : World} {p : Nat} {x : Lg} (h : LBox w p x) (v : Int) : LBox (w.setCell ⟨p, 4, none⟩ (.int .i64 v)) p { x with oldest := v } := heap_setCell_same w p 4 _ _ _ h
theorem LBox.c5 {w : World} {p : Nat} {x : Lg} (h : LBox w p x) : w.cell? ⟨p, 5, none⟩ = some (.int .i64 x.safe) := cell_of_row w p 5 _ _ _ h
theorem LBox.s5 {w : World} {p : Nat} {x : Lg} (h : LBox w p x) (v : Int) : LBox (w.setCell ⟨p, 5, none⟩ (.int .i64 v)) p { x with safe := v } := heap_setCell_same w p 5 _ _ _ h
theorem LBox.c6 {w : World} {p : Nat} {x : Lg} (h : LBox w p x) : w.cell? ⟨p, 6, none⟩ = some (.int .i64 x.fin) := cell_of_row w p 6 _ _ _ h
theorem LBox.s6 {w : World} {p : Nat} {x : Lg} (h : LBox w p x) (v : Int) : LBox (w.setCell ⟨p, 6, none⟩ (.int .i64 v)) p { x with fin := v } := heap_setCell_same w p 6 _ _ _ h
theorem LBox.c7 {w : World} {p : Nat} {x : Lg} (h : LBox w p x) : w.cell? ⟨p, 7, none⟩ = some (x.by') := cell_of_row w p 7 _ _ _ h
theorem LBox.s7 {w : World} {p : Nat} {x : Lg} (h : LBox w p x) (v : Value) : LBox (w.setCell ⟨p, 7, none⟩ v) p { x with by' := v } := heap_setCell_same w p 7 _ _ _ h
theorem LBox.c8 {w : World} {p : Nat} {x : Lg} (h : LBox w p x) : w.cell? ⟨p, 8, none⟩ = some (.int .i64 x.from') := cell_of_row w p 8 _ _ _ h
theorem LBox.s8 {w : World} {p : Nat} {x : Lg} (h : LBox w p x) (v : Int) : LBox (w.setCell ⟨p, 8, none⟩ (.int .i64 v)) p { x with from' := v } := heap_setCell_same w p 8 _ _ _ h
theorem LBox.c9 {w : World} {p : Nat} {x : Lg} (h : LBox w p x) : w.cell? ⟨p, 9, none⟩ = some (x.ls) := cell_of_row w p 9 _ _ _ h
theorem LBox.s9 {w : World} {p : Nat} {x : Lg} (h : LBox w p x) (v : Value) : LBox (w.setCell ⟨p, 9, none⟩ v) p { x with ls := v } := heap_setCell_same w p 9 _ _ _ h

set_option maxHeartbeats 400000 in
theorem lmade_yes (w : World) (p d : Nat) (h : w.cell? ⟨p, 0, none⟩ = some (.pointer (some ⟨d, 0, none⟩))) : Calls Tryz.prog 99 #[.pointer (some ⟨p, 0, none⟩)] w fun e w' => e = .returned (.bool true) ∧ w' = w := by
  go_enter Tryz.func99, Tryz.ntmps99
  go_wp2
  go_ret
  exact ⟨rfl, rfl⟩

theorem wrapI (x : Int) (h0 : -9223372036854775808 ≤ x) (h1 : x < 9223372036854775808) : IntKind.i64.wrap x = x := by simp [IntKind.wrap, IntKind.signed, IntKind.bits]; omega

set_option maxHeartbeats 400000 in
theorem most_any (w : World) (p : Nat) (n : Int) (h : w.cell? ⟨p, 2, none⟩ = some (.int .i64 n)) (h0 : 4 ≤ n) (h1 : n ≤ 65536) : Calls Tryz.prog 109 #[.pointer (some ⟨p, 0, none⟩)] w fun e w' => e = .returned (.int .i64 (408 * (n - 1))) ∧ w' = w := by
  have e1 := wrapI (n - 1) (by omega) (by omega)
  have e2 := wrapI (408 * (n - 1)) (by omega) (by omega)
  go_enter Tryz.func109, Tryz.ntmps109
  go_wp2
  go_ret
  exact ⟨rfl, rfl⟩

set_option maxHeartbeats 400000 in
theorem inBlock_any (w : World) (q : Nat) (h : (q : Int) < 4611686018427387904) : Calls Tryz.prog 100 #[.int .i64 ((q : Int) + 1)] w fun e w' => e = .returned (.int .i64 ((q % 408 : Nat) : Int)) ∧ w' = w := by
  have e1 := wrapI ((q : Int) + 1 - 1) (by omega) (by omega)
  have e0 : (q : Int) + 1 - 1 = q := by omega
  go_enter Tryz.func100, Tryz.ntmps100
  go_wp2
  go_ret
  exact ⟨ret_int (by omega), rfl⟩
set_option maxHeartbeats 400000 in
theorem inSector_any (w : World) (q : Nat) (h : (q : Int) < 4611686018427387904) : Calls Tryz.prog 172 #[.int .i64 ((q : Int) + 1)] w fun e w' => e = .returned (.int .i64 ((q % 51 : Nat) : Int)) ∧ w' = w := by
  have e1 := wrapI ((q : Int) + 1 - 1) (by omega) (by omega)
  have e0 : (q : Int) + 1 - 1 = q := by omega
  go_enter Tryz.func172, Tryz.ntmps172
  go_wp2
  go_ret
  exact ⟨ret_int (by omega), rfl⟩

set_option maxHeartbeats 400000 in
theorem block_any (w : World) (d : Value) (first count : Int) (q : Nat) (h : (q : Int) < 4611686018427387904) (f0 : 0 ≤ first) (f1 : first ≤ 65536) (c0 : 4 ≤ count) (c1 : count ≤ 65536) :
    Calls Tryz.prog 103 #[.agg #[d, .int .i64 first, .int .i64 count], .int .i64 ((q : Int) + 1)] w fun e w' => e = .returned (.int .i64 (first + (q : Int) / 408 % count)) ∧ Fr [] w w' := by
  have e1 := wrapI ((q : Int) + 1 - 1) (by omega) (by omega)
  have e0 : (q : Int) + 1 - 1 = q := by omega
  have hm0 := Int.emod_nonneg ((q : Int) / 408) (b := count) (by omega)
  have hm1 := Int.emod_lt_of_pos ((q : Int) / 408) (b := count) (by omega)
  have e2 := wrapI (first + (q : Int) / 408 % count) (by omega) (by omega)
  have hc0 : ¬ count = 0 := by omega
  have hq0 : (0 : Int) ≤ (q : Int) / 408 := by omega
  go_enter Tryz.func103, Tryz.ntmps103
  go_wp2
  go_quiet (fail)
  go_wp2
  go_ret
  exact ⟨rfl, ((Fr.refl [] w).alloc _).drewN _⟩

theorem ret_sl {a : Option Addr} {m n c : Nat} (h : m = n) : Ending.returned (.slice a m c) = .returned (.slice a n c) := by rw [h]
set_option maxHeartbeats 400000 in
theorem sectorOf_any (w : World) (g c : Nat) (q : Nat) (h : (q : Int) < 4611686018427387904) (hc : 512 ≤ c) :
    Calls Tryz.prog 171 #[.slice (some ⟨g, 0, none⟩) 512 c, .int .i64 ((q : Int) + 1)] w fun e w' => e = .returned (.slice (some ⟨g, q / 51 % 8 * 64, none⟩) 64 (c - q / 51 % 8 * 64)) ∧ w' = w := by
  have e1 := wrapI ((q : Int) + 1 - 1) (by omega) (by omega)
  have e0 : (q : Int) + 1 - 1 = q := by omega
  obtain ⟨k, HK⟩ : ∃ k, Hid (q / 51 % 8 = k) := ⟨_, rfl⟩
  have hk : k < 8 := by have h := HK.out; omega
  have ek : (q : Int) / 51 % 8 = (k : Int) := by have h := HK.out; omega
  rw [HK.out]
  have e2 := wrapI ((k : Int) * 64) (by omega) (by omega)
  have e3 := wrapI ((k : Int) * 64 + 64) (by omega) (by omega)
  have g1 : (0 : Int) ≤ (k : Int) * 64 := by omega
  have g2 : (k : Int) * 64 ≤ (k : Int) * 64 + 64 := by omega
  have g3 : (k : Int) * 64 + 64 ≤ (c : Int) := by omega
  have hne : ¬ c = ((k : Int) * 64).toNat := by omega
  go_enter Tryz.func171, Tryz.ntmps171
  go_wp2
  go_ret
  exact ⟨ret_sl (by omega), rfl⟩

/-- What a sector's stamp says. -/
def stampP (l : List UInt8) : Int := toI (valL (l.take 8))
def stampT (l : List UInt8) : Int := (valL ((l.drop 8).take 4) : Nat)
def stampU (l : List UInt8) : Int := (valL ((l.drop 12).take 1) : Nat)

theorem sizeSt : (Tryz.prog.info? 217).map (·.size) = some 3 := by kernel_rfl
def TBox (w : World) (b : Nat) (x y z : Int) : Prop := w.heap[b]? = some (.cells #[.int .i64 x, .int .i64 y, .int .i64 z] 217)
theorem TBox.kept {w w' : World} {b : Nat} {x y z : Int} {L : List Nat} (h : TBox w b x y z) (f : Fr L w w') (hb : b ∉ L) : TBox w' b x y z := f.same hb h
theorem TBox.c0 {w : World} {b : Nat} {x y z : Int} (h : TBox w b x y z) : w.cell? ⟨b, 0, none⟩ = some (.int .i64 x) := cell_of_row w b 0 _ _ _ h
theorem TBox.c1 {w : World} {b : Nat} {x y z : Int} (h : TBox w b x y z) : w.cell? ⟨b, 1, none⟩ = some (.int .i64 y) := cell_of_row w b 1 _ _ _ h
theorem TBox.c2 {w : World} {b : Nat} {x y z : Int} (h : TBox w b x y z) : w.cell? ⟨b, 2, none⟩ = some (.int .i64 z) := cell_of_row w b 2 _ _ _ h
theorem resT {fn : Func} {p : Tmp} (h : fn.results = #[.cell p 217]) (tmps : Array Value) (w : World) (b : Nat) (x y z : Int) (hp : tmps.getD p undef = .pointer (some ⟨b, 0, none⟩)) (hg : TBox w b x y z) :
    (results fn tmps).run Tryz.prog w = .ok (.agg #[.int .i64 x, .int .i64 y, .int .i64 z]) w := by
  have hl := run_loadVar_row w b 217 217 #[.int .i64 x, .int .i64 y, .int .i64 z] (0, 0) _ hg Tryz.underlying217 rfl (by rw [sizeSt]; rfl)
  have hp2 : tmps[p]?.getD undef = .pointer (some ⟨b, 0, none⟩) := by simpa using hp
  simp only [results, h]
  simp [hp2, asAddr, hl]
section
variable {ops : Array Oper} {rest : List Oper} {o : Oper} {a : Act} {w : World} {Q : Exit → Act → World → Prop}
theorem wp_storeT (hgd : o.guard = none) (x y : Operand) (ho : o.op = .store 217 x y) (b : Nat) (p q r p' q' r' : Int) (hx : a.eval x = .pointer (some ⟨b, 0, none⟩)) (hy : a.eval y = .agg #[.int .i64 p', .int .i64 q', .int .i64 r']) (hg : TBox w b p q r)
    (h : ∀ w', TBox w' b p' q' r' → Fr [b] w w' → wpList Tryz.prog ops Q rest (a.put o.dst undef) w') : wpList Tryz.prog ops Q (o :: rest) a w :=
  wpList_store_row hgd 217 x y ho b #[.int .i64 p', .int .i64 q', .int .i64 r'] hx hy 217 #[.int .i64 p, .int .i64 q, .int .i64 r] hg sizeSt rfl (by simp; exact ⟨rfl, rfl, rfl⟩)
    (h _ (setRow_heap w b _ _ _ _ hg) ⟨rfl, rfl, rfl, by simp, fun i _ hn => setRow_other w b i _ (fun e => hn (by simp [e]))⟩)
end

set_option maxHeartbeats 400000 in
set_option maxRecDepth 100000 in
theorem readStamp_any (w : World) (g o n c : Nat) (l : List UInt8) (hl : l.length = n) (h13 : 13 ≤ n) (hc : n ≤ c) (hb : BytesAt w (some ⟨g, o, none⟩) l) :
    Calls Tryz.prog 279 #[.slice (some ⟨g, o, none⟩) n c] w fun e w' => e = .returned (.agg #[.int .i64 (stampP l), .int .i64 (stampT l), .int .i64 (stampU l)]) ∧ Fr [] w w' := by
  have HL : Hid (l.length = n) := hl
  have hgl : g < w.heap.size := by
    obtain ⟨b, off, e, hq⟩ := hb.at 0 (by omega)
    cases e
    exact block_lt_of_cell hq
  clear hl
  have hbx : SBox ((w.alloc (.cells #[.slice (some ⟨g, o, none⟩) n c] 26)).alloc (.cells #[.int .i64 0, .int .i64 0, .int .i64 0] 217)) w.heap.size (.slice (some ⟨g, o, none⟩) n c) := heap_alloc2_old w _ _
  have htx : TBox ((w.alloc (.cells #[.slice (some ⟨g, o, none⟩) n c] 26)).alloc (.cells #[.int .i64 0, .int .i64 0, .int .i64 0] 217)) (w.heap.size + 1) 0 0 0 := heap_alloc2_new w _ _
  have f1 : Fr [] w ((w.alloc (.cells #[.slice (some ⟨g, o, none⟩) n c] 26)).alloc (.cells #[.int .i64 0, .int .i64 0, .int .i64 0] 217)) := kept_two _ _
  go_enter Tryz.func279, Tryz.ntmps279
  go_wp2_with fail
  generalize ((w.alloc (.cells #[.slice (some ⟨g, o, none⟩) n c] 26)).alloc (.cells #[.int .i64 0, .int .i64 0, .int .i64 0] 217)) = w1 at hbx htx f1 ⊢
  obtain ⟨B, HB⟩ : ∃ B, Hid (w.heap.size = B) := ⟨_, rfl⟩
  rw [HB.out] at hbx htx hgl ⊢
  have hgb : g ≠ B := by omega
  have b1 := hb.kept f1 (by simp)
  refine (take64_any _ B g o n c l hbx HL.out (by omega) hc b1 hgb).mono ?_
  rintro e w2 ⟨rfl, o2, hbx2, b2, f2⟩
  have t2 := htx.kept f2 (by simp)
  have F2 := f1.then f2 (fun i hi hm => by simp at hm; have := HB.out; omega)
  obtain ⟨LS, HLS⟩ : ∃ LS, Hid (valL (l.take 8) = LS) := ⟨_, rfl⟩
  rw [HLS.out]
  clear hbx htx f1 f2 b1
  go_wp2_with fail
  refine (take32_any _ B g o2 (n - 8) (c - 8) (l.drop 8) hbx2 (by rw [List.length_drop, HL.out]) (by omega) (by omega) b2 hgb).mono ?_
  rintro e w3 ⟨rfl, o3, hbx3, b3, f3⟩
  have t3 := t2.kept f3 (by simp)
  have F3 := F2.then f3 (fun i hi hm => by simp at hm; have := HB.out; omega)
  obtain ⟨TU, HTU⟩ : ∃ TU, Hid (valL ((l.drop 8).take 4) = TU) := ⟨_, rfl⟩
  rw [HTU.out]
  have hTU : (TU : Int) < 4294967296 := by
    have h := valL_lt ((l.drop 8).take 4)
    rw [List.length_take, List.length_drop, HL.out, Nat.min_eq_left (by omega), HTU.out] at h
    simp at h
    omega
  clear hbx2 t2 F2 f3 b2
  go_wp2_with fail
  refine (take8_any _ B g o3 (n - 8 - 4) (c - 8 - 4) ((l.drop 8).drop 4) hbx3 (by rw [List.length_drop, List.length_drop, HL.out]) (by omega) (by omega) b3 hgb).mono ?_
  rintro e w4 ⟨rfl, o4, hbx4, b4, f4⟩
  have t4 := t3.kept f4 (by simp)
  have F4 := F3.then f4 (fun i hi hm => by simp at hm; have := HB.out; omega)
  rw [List.drop_drop]
  obtain ⟨US, HUS⟩ : ∃ US, Hid (valL ((l.drop 12).take 1) = US) := ⟨_, rfl⟩
  rw [HUS.out]
  have hUS : (US : Int) < 256 := by
    have h := valL_lt ((l.drop 12).take 1)
    rw [List.length_take, List.length_drop, HL.out, Nat.min_eq_left (by omega), HUS.out] at h
    simp at h
    omega
  clear hbx3 t3 F3 f4 b3
  go_wp2_with (refine wp_storeT rfl _ _ rfl (B + 1) _ _ _ (wrap64 (LS : Int)) TU US rfl rfl t4 ?_; intro w5 t5 f5)
  refine bodyPost_ret (resT rfl _ _ (B + 1) _ _ _ rfl t5) rfl ⟨?_, F4.then f5 (fun i hi hm => by simp at hm; have := HB.out; omega)⟩
  unfold stampP stampT stampU
  rw [HLS.out, HTU.out, HUS.out]
  rfl

end Go.Proofs.YthajipigppndgaaGreat

namespace Go.Proofs.YthajipigppndgaaGreat
open Go.RowKit Go.Maps

theorem own_empty (w : World) : Own w w (.slice none 0 0) 0 (arr []).toList := ⟨⟨by simp [arr], Or.inl ⟨rfl, rfl⟩⟩, Fr.refl _ _⟩

/-- A stamp's bytes. -/
def stampL (P T U : Nat) : List UInt8 := beK 8 P ++ beK 4 T ++ beK 1 U
theorem stampL_length (P T U : Nat) : (stampL P T U).length = 13 := by simp [stampL, beK_length]

set_option maxHeartbeats 400000 in
set_option maxRecDepth 100000 in
theorem seal_any (w : World) (g c o c' : Nat) (p : List UInt8) (hg : RowB w g c p) (P T U : Nat) (hP : P < 9223372036854775808) (hT : T < 4294967296) (hU : U ≤ 51) (ho : o + 64 ≤ p.length) (hc : 64 ≤ c') :
    Calls Tryz.prog 173 #[.slice (some ⟨g, o, none⟩) 64 c', .agg #[.int .i64 (P : Int), .int .i64 (T : Int), .int .i64 (U : Int)]] w fun e w' => e = .returned (.tuple #[]) ∧ RowB w' g c (over (over p o (stampL P T U)) (o + (13 + U)) (zs (51 - U))) ∧ Fr [g] w w' := by
  have hgl := hg.lt
  have htx : TBox (w.alloc (.cells #[.int .i64 (P : Int), .int .i64 (T : Int), .int .i64 (U : Int)] 217)) w.heap.size P T U := heap_alloc_new w _
  have f1 : Fr [] w (w.alloc (.cells #[.int .i64 (P : Int), .int .i64 (T : Int), .int .i64 (U : Int)] 217)) := (Fr.refl [] w).alloc _
  have hP' : (P : Int) < 9223372036854775808 := by omega
  have hT' : (T : Int) < 4294967296 := by omega
  have hU' : (U : Int) < 256 := by omega
  obtain ⟨M, HM⟩ : ∃ M, Hid (13 + U = M) := ⟨_, rfl⟩
  have hw13 : IntKind.i64.wrap (13 + (U : Int)) = (M : Int) := by
    rw [wrapI (13 + (U : Int)) (by omega) (by omega), ← HM.out]
    omega
  have hi1 : (M : Int) ≤ 64 := by have h := HM.out; omega
  have hi2 : (64 : Int) ≤ c' := by omega
  have hi3 : (M : Int) ≤ c' := by omega
  go_enter Tryz.func173, Tryz.ntmps173
  go_wp2_with fail
  generalize w.alloc (.cells #[.int .i64 (P : Int), .int .i64 (T : Int), .int .i64 (U : Int)] 217) = w1 at htx f1 ⊢
  obtain ⟨B, HB⟩ : ∃ B, Hid (w.heap.size = B) := ⟨_, rfl⟩
  rw [HB.out] at htx hgl ⊢
  refine (put64_any w1 w1 _ 0 [] P _ (by first | rfl | omega) (by omega) rfl (by omega) (own_empty w1)).mono ?_
  rintro e w2 ⟨v2, rfl, o2⟩
  have t2 := (htx.kept o2.2 (by simp)).c1
  go_wp2_with fail
  refine (put32_any w1 w2 _ (0 + 8) ([] ++ beK 8 P) T _ (by first | rfl | omega) (by omega) (by simp [beK_length]) (by omega) o2).mono ?_
  rintro e w3 ⟨v3, rfl, o3⟩
  have t3 := (htx.kept o3.2 (by simp)).c2
  go_wp2_with fail
  refine (put8_any w1 w3 _ (0 + 8 + 4) ([] ++ beK 8 P ++ beK 4 T) U _ (by first | rfl | omega) (by omega) (by simp [beK_length]) (by omega) o3).mono ?_
  rintro e w4 ⟨v4, rfl, o4⟩
  replace o4 : Own w1 w4 v4 13 (arr (stampL P T U)).toList := own_len o4 rfl
  obtain ⟨g4, c4, rfl, b4, hg4, -⟩ := own_at o4 (by omega) (stampL_length P T U)
  have T4 := hidI (htx.kept o4.2 (by simp))
  have r4 := hg.kept (f1.trans o4.2) (by simp)
  have F4 := f1.trans o4.2
  have HgB : Hid (g ≠ B) := hidI (by omega)
  clear t2 t3 o2 o3 htx f1 o4
  obtain ⟨dp, hdp, HDP⟩ : ∃ dp : Option Addr, (if c' = M then some (⟨g, o, none⟩ : Addr) else some ⟨g, o + M, none⟩) = dp ∧ Hid (0 < 64 - M → dp = some ⟨g, o + M, none⟩) := ⟨_, rfl, hidI (fun h => by rw [if_neg (by omega)])⟩
  go_wp2_with (first
    | (refine wp_copyB rfl _ _ rfl g o _ 64 c' _ 13 c4 c p (stampL P T U) rfl rfl r4 (by rw [stampL_length]; rfl) (fun _ => rfl) b4 (by rw [stampL_length]; omega) ?_; intro w5 r5 f5; have t5 := (T4.out.kept f5 (by have h := HgB.out; simp; exact h.symm)).c2)
    | (refine wp_clearB rfl _ rfl dp g (o + M) (64 - M) _ c _ rfl r5 HDP.out (by rw [over_length _ _ _ (by rw [stampL_length]; omega)]; have h := HM.out; omega) ?_; intro w6 r6 f6))
  refine bodyPost_end (results_none Tryz.results173 _ _ _) rfl ⟨rfl, ?_, (F4.mono (M := [g]) (fun _ _ e => nomatch e)).trans (f5.trans f6)⟩
  have h := HM.out
  rw [h, show 51 - U = 64 - M by omega]
  exact r6

end Go.Proofs.YthajipigppndgaaGreat

