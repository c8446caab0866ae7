/- Several texts in one: Recs, Opw, Code, Draw, Fun. Conditions: those of each theorem. -/
import Derived.Test.YtgpgifpblchjjaaBza0
import Derived.Orders
import Derived.LoopN
/- Rows of structs of numbers. Conditions: those of each theorem. -/
namespace Go.Proofs.Ytgpgifpblchjjaa.D
open Go.RowKit
set_option linter.unusedVariables false
set_option linter.unusedSimpArgs false

section
variable {P : Program} {TD : TypeId → Option TI} {c : Cx} {r : V × List E}

theorem stride_ok (hT : TyOk P TD) {t : TypeId} {n : Nat} (h : strideOf TD t = some n) : 2 ≤ n ∧ ∃ e f, P.underlying t = some (.slice e) ∧ P.info? e = some f ∧ f.size = n ∧ ∃ z, f.zero = some z := by
  unfold strideOf at h
  split at h
  · rename_i e s b z h1
    split at h
    · rename_i fs k b2 z2 h2
      cases hk : Nat.ble 2 k with
      | false => rw [hk] at h; cases h
      | true =>
      rw [hk, cond_true] at h
      have hk := Nat.le_of_ble_eq_true hk
      injection h with h
      subst h
      obtain ⟨u1, _⟩ := hT.ok _ _ h1
      obtain ⟨_, f, hf, hfs, _, hz⟩ := hT.ok _ _ h2
      exact ⟨by omega, e, f, u1, hf, hfs, _, hz⟩
    · cases h
  · cases h
theorem ofConst_int {v : Value} {k : IntKind} {n : Int} (h : ofConst v = .int k n) : v = .int k n := by
  unfold ofConst at h
  split at h <;> first | (injection h with h1 h2; subst h1; subst h2; rfl) | (cases h; done) | skip
  split at h <;> cases h
theorem recsZero_ok (hT : TyOk P TD) {t : TypeId} {n b : Nat} (h : zeroRecs TD t = some (n, b)) : 2 ≤ n ∧ ∃ e f cs, P.underlying t = some (.slice e) ∧ P.info? e = some f ∧ f.size = n ∧ f.bytes = b ∧ f.zero = some (.agg cs) ∧ cs.toList = List.replicate n (.int .i64 0) := by
  unfold zeroRecs at h
  split at h
  · rename_i e s b1 z h1
    split at h
    · rename_i fs k b2 cs h2
      split at h
      · rename_i zs hz
        cases hc : Nat.ble 2 k && Nat.beq zs.length k && zs.all (fun z => z == 0) with
        | false => rw [hc] at h; cases h
        | true =>
          rw [hc, cond_true] at h
          injection h with h
          injection h with h3 h4
          subst h3; subst h4
          obtain ⟨u1, _⟩ := hT.ok _ _ h1
          obtain ⟨_, f, hf, hfs, hfb, hfz⟩ := hT.ok _ _ h2
          rw [Bool.and_eq_true, Bool.and_eq_true] at hc
          have hl := Nat.eq_of_beq_eq_true hc.1.2
          have hk := Nat.le_of_ble_eq_true hc.1.1
          obtain ⟨a1, a2⟩ := ints64_ok hz
          refine ⟨by omega, e, f, cs, u1, hf, hfs, hfb, hfz, ?_⟩
          have hcl : cs.toList.length = k := by simpa [hl] using a1.symm
          refine List.ext_getElem (by simp [hcl]) fun j h5 h6 => ?_
          have h7 := a2 j (by simpa using h5)
          have h0 : eli zs j = 0 := by
            have hj : j < zs.length := by omega
            have := List.all_eq_true.1 hc.2 zs[j] (List.getElem_mem hj)
            have e : eli zs j = zs[j] := by simp [eli, List.getD, hj]
            rw [e]; simpa using this
          rw [h0, List.getElem?_map, List.getElem?_eq_getElem h5, Option.map_some, Option.some.injEq] at h7
          rw [ofConst_int h7, List.getElem_replicate]
      · cases h
    · cases h
  · cases h

theorem recs_own (hr : Rel c) {id n : Nat} {xs : List Int} (hid : id < c.h.length) (hl : getE c.h id = .recs n xs) :
    0 < n ∧ ∃ m a cap, xs.length = m * n ∧ c.hv id = .slice a m cap ∧ m ≤ cap ∧ (xs.length = 0 ∨ ∃ g, a = some ⟨g, 0, none⟩ ∧ ∀ j, j < xs.length → c.w.cell? ⟨g, j, none⟩ = some (.int .i64 (eli xs j))) := by
  have he := hr.ent id hid
  rw [hl] at he
  obtain ⟨hn, e, m, hx, ho⟩ := he
  refine ⟨hn, m, ?_⟩
  rcases ho.2 with ⟨hv, hm⟩ | ⟨g, cap, cur, hv, _, hg, hnc, hm, hs, ht⟩
  · exact ⟨none, 0, hx, by rw [hv, hm], by omega, .inl (by rw [hx, hm]; simp)⟩
  · refine ⟨_, cap, hx, hv, hnc, .inr ⟨g, rfl, fun j hj => ?_⟩⟩
    rw [hv] at ho
    rw [ho.cellAt j (by omega), List.getElem?_map, List.getElem?_eq_getElem hj]
    simp [eli, List.getD, hj]
theorem eli_cut {xs : List Int} {a n j : Nat} (hj : j < n) : eli ((xs.drop a).take n) j = eli xs (a + j) := by
  unfold eli
  rw [List.getD_eq_getElem?_getD, List.getD_eq_getElem?_getD, take_drop_at _ hj]
theorem run_indexR {t e : TypeId} {f : TypeInfo} {n : Nat} (u1 : P.underlying t = some (.slice e)) (hf : P.info? e = some f) (hs : f.size = n) {w : World} {b off len cap : Nat} {k : IntKind} {i : Int} (h0 : 0 ≤ i) (h1 : i < (len : Int)) :
    (Instr.indexAt t (.slice (some ⟨b, off, none⟩) len cap) (.int k i)).run P w = .ok (.pointer (some ⟨b, off + i.toNat * n, none⟩)) w := by
  simp [Instr.indexAt, asIntOf, run_underlying u1, sizeOf, typeInfo, hf, hs, h0, h1, add_none]
theorem run_loadStruct {t : TypeId} {fs : Array Field} {f : TypeInfo} (hu : P.underlying t = some (.struct fs)) (hf : P.info? t = some f) {w : World} {b off : Nat} {xs : List Int}
    (hx : ∀ j, j < xs.length → w.cell? ⟨b, off + j, none⟩ = some (.int .i64 (eli xs j))) (hs : f.size = xs.length) : (Instr.loadAt t (.pointer (some ⟨b, off, none⟩))).run P w = .ok (.agg (xs.map (Value.int .i64)).toArray) w := by
  have hl := run_loadCells_list (P := P) w ⟨b, off, none⟩ (xs.map (Value.int .i64)) (fun j v hv => by
    rw [List.getElem?_map, Option.map_eq_some_iff] at hv
    obtain ⟨y, hy, rfl⟩ := hv
    have hj := (List.getElem?_eq_some_iff.1 hy).1
    rw [add_none, hx j hj]
    simp [eli, List.getD, hy])
  have hsz : (sizeOf t).run P w = .ok (xs.map (Value.int .i64)).length w := by simp [sizeOf, typeInfo, hf, hs]
  simp only [Instr.loadAt, Instr.sureAddr, Sem.run_bind, Sem.run_pure, Result.andThen_ok, loadVar, run_isAgg hu, if_true, hsz, hl]
theorem run_loadCells {t : TypeId} {fs : Array Field} {f : TypeInfo} (hu : P.underlying t = some (.struct fs)) (hf : P.info? t = some f) {w : World} {b off n : Nat} {g : Nat → Int}
    (hx : ∀ j, j < n → w.cell? ⟨b, off + j, none⟩ = some (.int .i64 (g j))) (hs : f.size = n) : (Instr.loadAt t (.pointer (some ⟨b, off, none⟩))).run P w = .ok (.agg (((List.range n).map g).map (Value.int .i64)).toArray) w :=
  run_loadStruct hu hf (fun j hj => by
    have hj' : j < n := by simpa using hj
    rw [hx j hj']
    simp [eli, List.getD, hj']) (by simpa using hs)
theorem agg_ints (c : Cx) (xs : List Int) : VR c (.agg (xs.map (V.int .i64))) (.agg (xs.map (Value.int .i64)).toArray) := by
  refine ⟨_, rfl, by simp, fun j hj => ?_⟩
  have hj' : j < xs.length := by simpa using hj
  have e1 : (xs.map (V.int .i64)).getD j .junk = .int .i64 xs[j] := by simp [List.getD, hj']
  have e2 : (xs.map (Value.int .i64)).toArray.getD j undef = .int .i64 xs[j] := by simp [hj']
  rw [e1, e2]; rfl
theorem agg_cells (c : Cx) (xs : List Int) (off n : Nat) : VR c (.agg (cellsV xs off n)) (.agg (((List.range n).map fun j => eli xs (off + j)).map (Value.int .i64)).toArray) := by
  have := agg_ints c ((List.range n).map fun j => eli xs (off + j))
  rw [List.map_map] at this
  exact this
/-- A struct of numbers. -/
theorem agg_of {vs : List V} {ys : List Int} (h : ints64 vs = some ys) {x : Value} (hx : VR c (.agg vs) x) : x = .agg (ys.map (Value.int .i64)).toArray := by
  obtain ⟨a1, a2⟩ := ints64_ok h
  obtain ⟨cs, rfl, hs, hall⟩ := (show VR1 c (.agg vs) x from hx)
  congr 1
  apply Array.ext'
  refine List.ext_getElem (by simp; omega) fun j h1 h2 => ?_
  have hj : j < vs.length := by simp at h1; omega
  have h3 := hall j hj
  have e : vs.getD j .junk = .int .i64 (eli ys j) := by rw [List.getD_eq_getElem?_getD, a2 j hj]; rfl
  rw [e] at h3
  have h4 : cs.getD j undef = .int .i64 (eli ys j) := h3
  have hjc : j < cs.size := by omega
  have hjy : j < ys.length := by omega
  have e2 : cs.getD j undef = cs[j] := by simp [hjc]
  rw [e2] at h4
  simp only [Array.getElem_toList, List.getElem_map, h4]
  simp [eli, List.getD, hjy]
theorem ints_one {xs : List Int} : ∀ u ∈ xs.map (Value.int .i64), u.oneCell' = true := by
  intro u hu
  simp only [List.mem_map] at hu
  obtain ⟨y, _, rfl⟩ := hu
  rfl
/-- A new row of structs. -/
theorem push_recs (hr : Rel c) {n m : Nat} {ys : List Int} {e : TypeId} {x : Value} {w' : World} (hn : 0 < n) (hy : ys.length = m * n) (hg : c.w.grownBy w' none) (ho : w'.ownsRow 0 e n x m (ys.map (Value.int .i64)))
    (hx : ∀ b, blk x = some b → c.w.heap.size ≤ b) :
    Ext c (c.push (.recs n ys) x w') ∧ Rel (c.push (.recs n ys) x w') ∧ VR (c.push (.recs n ys) x w') (.own c.h.length) x := by
  have hh : Handle x := by
    rcases ho.2 with ⟨rfl, _⟩ | ⟨g, cap, cur, rfl, _⟩
    · exact .inl ⟨_, _, _, rfl⟩
    · exact .inl ⟨_, _, _, rfl⟩
  have hlt : ∀ b, blk x = some b → b < w'.heap.size := fun b hb => by
    rcases ho.2 with ⟨rfl, _⟩ | ⟨g, cap, cur, rfl, _, hgc, _⟩
    · simp [blk] at hb
    · simp [blk] at hb; subst hb; exact (Array.getElem?_eq_some_iff.1 hgc).1
  have hE := Cx.ext_push hr (.recs n ys) x hg hx
  refine ⟨hE, Cx.rel_push hr hh hg (fun b hb => ⟨hx b hb, hlt b hb⟩) ⟨hn, e, m, hy, by rw [Cx.push_new]; exact ho⟩, ?_, ?_⟩
  · simp [Cx.push]
  · rw [Cx.push_new]
theorem run_buildR0 {t e : TypeId} {f : TypeInfo} (ht : P.underlying t = some (.slice e)) (hf : P.info? e = some f) {w : World} : (Instr.buildSlice t 0 #[]).run P w = .ok (.slice (some ⟨w.heap.size, 0, none⟩) 0 0) (w.alloc (.cells #[] e)) := by
  simp [Instr.buildSlice, run_underlying ht, sizeOf, typeInfo, hf, Instr.fill, newRow]
  have hr0 : Array.range 0 = #[] := Array.eq_empty_of_size_eq_zero (by simp)
  rw [hr0, Array.map_empty]
theorem run_buildR1 {t e : TypeId} {f : TypeInfo} {z : Value} {n : Nat} (hn : 2 ≤ n) (hn2 : n ≤ 1000) (ht : P.underlying t = some (.slice e)) (hf : P.info? e = some f) (hs : f.size = n) (hz : f.zero = some z) {w : World} {cs : Array Value} (hcs : cs.size = n) :
    (Instr.buildSlice t 1 #[(0, .agg cs)]).run P w = .ok (.slice (some ⟨w.heap.size, 0, none⟩) 1 1) (w.alloc (.cells cs e)) := by
  have hfill : ∀ zs : Array Value, zs.size = n → Instr.fill (fun i => some (i * n, n)) zs [(0, Value.agg cs)] = some cs := by
    intro zs hzs
    have hz2 := zip_fold 0 cs.toList 0 zs (by simp; omega)
    unfold Instr.fill
    simp only [Value.cells]
    refine (if_neg ?_).trans ?_
    · intro hc; simp [hcs, hzs] at hc
    unfold Instr.fill
    congr 1
    apply Array.ext'
    rw [← Array.foldl_toList, Array.toList_zipIdx]
    have hd : zs.toList.drop cs.size = [] := List.drop_eq_nil_of_le (by simp; omega)
    simpa [hd] using hz2
  have h24 : ¬ (2 ^ 24 < 1 * n) := by omega
  have h0 : ¬ (1 * n = 0) := by omega
  have hf2 := hfill ((Array.range (1 * n)).map (fun i => z.cells[i % z.cells.size]!)) (by simp)
  simp only [Instr.buildSlice, Sem.run_bind, run_underlying ht, Result.andThen_ok, sizeOf, typeInfo, run_program, hf, Sem.run_pure, hs, gt_iff_lt, h24, h0, if_false, zeroValue, hz]
  rw [hf2]
  simp [newRow]
theorem made_zero {cs : Array Value} {n k : Nat} (hn : 0 < n) (h : cs.toList = List.replicate n (.int .i64 0)) : (madeCells cs (k * n)).toList = (List.replicate (k * n) (0 : Int)).map (Value.int .i64) := by
  have hcs : cs.size = n := by rw [← Array.length_toList, h, List.length_replicate]
  refine List.ext_getElem (by simp [madeCells]) fun j h1 h2 => ?_
  have hlt : j % cs.size < cs.size := Nat.mod_lt _ (by omega)
  have e : cs[j % cs.size] = .int .i64 0 := by
    have : cs.toList[j % cs.size]'(by simpa using hlt) = .int .i64 0 := by
      simp only [h, List.getElem_replicate]
    simpa using this
  simp [madeCells, hlt, e]
theorem run_sliceR {t e : TypeId} {f : TypeInfo} {n : Nat} (ht : P.underlying t = some (.slice e)) (hf : P.info? e = some f) (hs : f.size = n) {w : World} {ad : Option Addr} {q cap a m : Nat} {vlo vhi : Option Value}
    (h : (Instr.sliceBounds true q cap vlo vhi none).run P w = .ok (a, a + m, cap) w) :
    (Instr.sliceAt t (.slice ad q cap) vlo vhi none).run P w = .ok (.slice (if cap = a then ad else ad.map (·.add (a * n))) m (cap - a)) w := by
  simp [Instr.sliceAt, Instr.slice, run_underlying ht, h, sizeOf, typeInfo, hf, hs]
/-- append to a row of structs of one's own. -/
theorem run_append_recs (t ty e e2 : TypeId) (i : TypeInfo) (z : Value) {s : Nat} (ht : P.underlying t = some (.slice e)) (hi : P.info? e = some i) (hz : i.zero = some z)
    (hsize : i.size = s) (hs1 : 0 < s) (hby : i.bytes ≤ 64) (hzs : z.cells.size = s) {w : World}
    {v : Value} {n : Nat} {xs : List Value} (hown : w.ownsRow 0 e2 s v n xs)
    (a : Option Addr) (m c : Nat) (news : List Value) (hl : news.length = m * s) (hnews : m = 0 ∨ ∃ b, a = some b ∧ ∀ j u, news[j]? = some u → w.cell? (b.add j) = some u) (h1 : ∀ u ∈ news, u.oneCell' = true)
    (hsm : n + m ≤ 1099511627776) :
    ∃ v' w' e3, (Builtin.append_ #[t, t] ty #[v, .slice a m c]).run P w = .ok v' w' ∧ w'.ownsRow 0 e3 s v' (n + m) (xs ++ news) ∧ w.grownBy w' (blk v) ∧
      (∀ b, blk v' = some b → blk v = some b ∨ w.heap.size ≤ b) := by
  have hx : xs.length = n * s := hown.1
  have hfirst : (Builtin.firstCells s m (.slice a m c)).run P w = .ok news.toArray w := by
    rcases hnews with h0 | ⟨b, rfl, hn⟩
    · subst h0
      have : news = [] := List.eq_nil_of_length_eq_zero (by rw [hl, Nat.zero_mul])
      subst this
      cases a <;> simp [Builtin.firstCells, loadCells, loadCellsFrom]
    · exact run_firstCells_some (P := P) w s m b m c news hl hn
  have hbyt : (n + m) * i.bytes ≤ 140737488355328 := by
    have := Nat.mul_le_mul hsm hby
    omega
  have hlen : (xs ++ news).length = (n + m) * s := by rw [List.length_append, hx, hl, Nat.add_mul]
  have grown : ∀ old,
      (w.drew.alloc (.cells (xs.toArray ++ news.toArray ++ Builtin.zeroCells z.cells (grownCap w (n + m) old e - (n + m))) e)).ownsRow 0 e s
        (.slice (some ⟨w.heap.size, 0, none⟩) (n + m) (grownCap w (n + m) old e)) (n + m) (xs ++ news) ∧
      ∀ row, w.grownBy (w.drew.alloc (.cells (xs.toArray ++ news.toArray ++ Builtin.zeroCells z.cells (grownCap w (n + m) old e - (n + m))) e)) row := by
    intro old
    have hge := grownCap_ge w (n + m) old e
    refine ⟨⟨hlen, .inr ⟨w.heap.size, _, _, rfl, Nat.zero_le _, heap_alloc_new w.drew _, hge, grownCap_le_maxLen w (n + m) old e (by unfold maxLen; omega), ?_, ?_⟩⟩,
      fun row => ⟨rfl, rfl, rfl, by simp, fun k hk _ => Below.heap_alloc w.drew _ k hk⟩⟩
    · have e1 : (n + m) * s + (grownCap w (n + m) old e - (n + m)) * s = grownCap w (n + m) old e * s := by rw [← Nat.add_mul]; congr 1; omega
      simp only [Array.size_append, List.size_toArray, size_zeroCells, hzs]
      rw [← List.length_append, hlen]; exact e1
    · simp only [Array.toList_append, List.append_assoc]
      rw [← List.append_assoc, ← hlen]
      exact List.take_left
  rcases hown.2 with ⟨rfl, rfl⟩ | ⟨g, cap, cur, rfl, hbg, hg, hnc, hcm, hcs, htake⟩
  · have hxs : xs = [] := List.eq_nil_of_length_eq_zero (by rw [hx, Nat.zero_mul])
    subst hxs
    by_cases hm : m = 0
    · subst hm
      have hn : news = [] := List.eq_nil_of_length_eq_zero (by rw [hl, Nat.zero_mul])
      subst hn
      refine ⟨.slice none 0 0, w, e2, ?_, World.ownsRow_nil w 0 e2 s, grown_self _ _, fun b hb => by simp [blk] at hb⟩
      simp [Builtin.append_, run_underlying ht, sizeOf, typeInfo, hi, hsize, Builtin.lenOf, hfirst]
    · rcases hnews with h0 | ⟨b, rfl, hn⟩
      · exact absurd h0 hm
      · have hr := run_append_nil (P := P) w t ty e i z ht hi hz b m c news (by rw [hsize]; exact hl) hn (by omega) (by omega) (by have hb := hbyt; simp only [Nat.zero_add] at hb; omega)
        have hgr := grown 0
        rw [show ([] : List Value).toArray = #[] from rfl, Array.empty_append] at hgr
        simp only [Nat.zero_add, List.nil_append] at hgr ⊢
        exact ⟨_, _, e, hr, hgr.1, hgr.2 _, fun b hb => .inr (by simp [blk] at hb; omega)⟩
  · by_cases hroom : n + m ≤ cap
    · have hle : (n + m) * s ≤ cap * s := Nat.mul_le_mul_right _ hroom
      have hfit : n * s + news.length ≤ cur.size := by rw [hl, hcs, ← Nat.add_mul]; exact hle
      have hst := run_storeCells_at P g (n * s) e2 news 0 cur w hg (by simpa using hfit) h1
      simp only [Nat.add_zero] at hst
      have hr : (Builtin.append_ #[t, t] ty #[.slice (some ⟨g, 0, none⟩) n cap, .slice a m c]).run P w =
          .ok (.slice (some ⟨g, 0, none⟩) (n + m) cap) (w.setRow g (cur.toList.take (n * s) ++ news ++ cur.toList.drop (n * s + news.length)).toArray) := by
        simp [Builtin.append_, run_underlying ht, sizeOf, typeInfo, hi, hsize, Builtin.lenOf, hroom, hfirst, add_none, hst]
      refine ⟨_, _, e2, hr, ⟨hlen, .inr ⟨g, cap, _, rfl, hbg, setRow_heap w g cur _ e2 _ hg, hroom, hcm, ?_, ?_⟩⟩, ⟨rfl, rfl, rfl, by simp, fun k _ hk => setRow_other w g k _ (fun e => hk (by simp [blk, e]))⟩, fun b hb => .inl hb⟩
      · simp only [List.size_toArray, List.length_append, List.length_take, List.length_drop, Array.length_toList]
        omega
      · rw [htake, ← hlen]
        exact List.take_left
    · rcases hnews with h0 | ⟨b, rfl, hn⟩
      · omega
      · have holds : ∀ j u, xs[j]? = some u → w.cell? ((⟨g, 0, none⟩ : Addr).add j) = some u := hown.cells (g := g) rfl
        have hr := run_append_grow (P := P) w t ty e i z ht hi hz ⟨g, 0, none⟩ n cap xs (by rw [hsize]; exact hx) holds b m c news (by rw [hsize]; exact hl) hn (by omega) (by omega) (growslice_fits (by omega) hbyt)
        exact ⟨_, _, e, hr, (grown cap).1, (grown cap).2 _, fun b hb => .inr (by simp [blk] at hb; omega)⟩
theorem append_recs (hr : Rel c) {t e ty : TypeId} {i : TypeInfo} {z : Value} {n : Nat} (hn : 0 < n) (ht : P.underlying t = some (.slice e)) (hi : P.info? e = some i) (hz : i.zero = some z)
    (hsize : i.size = n) (hby : i.bytes ≤ 64) (hzs : z.cells.size = n) {id : Nat} {xs ys : List Int} (hid : id < c.h.length) (hl : getE c.h id = .recs n xs) (hsm : xs.length + ys.length ≤ 1099511627776) {vx : Value}
    (hx : ∃ a m cap, vx = .slice a m cap ∧ ys.length = m * n ∧ (ys.length = 0 ∨ ∃ b off, a = some ⟨b, off, none⟩ ∧ ∀ j, j < ys.length → c.w.cell? ⟨b, off + j, none⟩ = some (.int .i64 (eli ys j)))) :
    ∃ c' y, c'.h = c.h.set id .dead ++ [.recs n (xs ++ ys)] ∧ Ext c c' ∧ Rel c' ∧ VR c' (.own c.h.length) y ∧ (Builtin.append_ #[t, t] ty #[c.hv id, vx]).run P c.w = .ok y c'.w := by
  obtain ⟨a, m, cap, rfl, hym, h0⟩ := hx
  have he := hr.ent id hid
  rw [hl] at he
  obtain ⟨_, e2, q, hxq, ho⟩ := he
  have hal : (getE c.h id).alive = true := by rw [hl]; rfl
  have hqm : q + m ≤ 1099511627776 := by
    have h1 : q * 1 ≤ q * n := Nat.mul_le_mul_left _ hn
    have h2 : m * 1 ≤ m * n := Nat.mul_le_mul_left _ hn
    omega
  have hnews : m = 0 ∨ ∃ b, a = some b ∧ ∀ j u, (ys.map (Value.int .i64))[j]? = some u → c.w.cell? (b.add j) = some u := by
    rcases h0 with h0 | ⟨b, off, ha, hcell⟩
    · left
      rw [h0] at hym
      rcases Nat.eq_zero_or_pos m with h | h
      · exact h
      · have := Nat.mul_pos h hn; omega
    · refine .inr ⟨_, ha, fun j u hu => ?_⟩
      rw [List.getElem?_map, Option.map_eq_some_iff] at hu
      obtain ⟨y, hy, rfl⟩ := hu
      have hj := (List.getElem?_eq_some_iff.1 hy).1
      rw [add_none, hcell j hj]
      simp [eli, List.getD, hy]
  obtain ⟨v', w', e3, hrun, ho', hg, hb⟩ := run_append_recs (P := P) t ty e e2 i z ht hi hz hsize hn hby hzs ho a m cap (ys.map (Value.int .i64)) (by simpa using hym) hnews ints_one hqm
  have hlt : ∀ b, blk v' = some b → b < w'.heap.size := fun b hb => by
    rcases ho'.2 with ⟨rfl, _⟩ | ⟨g, cap, cur, rfl, _, hgc, _⟩
    · simp [blk] at hb
    · simp [blk] at hb; subst hb; exact (Array.getElem?_eq_some_iff.1 hgc).1
  have hh : Handle v' := by
    rcases ho'.2 with ⟨rfl, _⟩ | ⟨g, cap, cur, rfl, _⟩
    · exact .inl ⟨_, _, _, rfl⟩
    · exact .inl ⟨_, _, _, rfl⟩
  have hE := Cx.ext_grow (e := .recs n (xs ++ ys)) (x := v') hid hal hg hb
  refine ⟨c.grow id (.recs n (xs ++ ys)) v' w', v', rfl, hE, Cx.rel_grow hr hh hid hal hg (fun b hbb => ⟨hb b hbb, hlt b hbb⟩) ?_, ?_, hrun⟩
  · refine ⟨hn, e3, q + m, by rw [List.length_append, hxq, hym, Nat.add_mul], ?_⟩
    have : (c.grow id (.recs n (xs ++ ys)) v' w').hv c.h.length = v' := by simp [Cx.grow]
    rw [this, List.map_append]; exact ho'
  · show (c.h.length < (c.h.set id .dead ++ [E.recs n (xs ++ ys)]).length ∧ v' = (c.grow id (.recs n (xs ++ ys)) v' w').hv c.h.length)
    exact ⟨by simp, by simp [Cx.grow]⟩
/-- A struct is stored into a row of structs. -/
theorem store_recs (hr : Rel c) {t : TypeId} {f : TypeInfo} (hf : P.info? t = some f) {id m off : Nat} {xs ys : List Int} (hs : f.size = ys.length) (hoff : off + ys.length ≤ xs.length)
    (hl : getE c.h id = .recs m xs) {vp : Value} (hp : VR c (.ptr id off) vp) :
    ∃ c', c'.h = c.h.set id (.recs m (xs.take off ++ (ys ++ xs.drop (off + ys.length)))) ∧ Ext c c' ∧ Rel c' ∧ (Instr.storeAt t vp (.agg (ys.map (Value.int .i64)).toArray)).run P c.w = .ok () c'.w := by
  obtain ⟨hid, g, hbg, rfl⟩ := (show VR0 c (.ptr id off) vp from hp)
  have he := hr.ent id hid
  rw [hl] at he
  obtain ⟨hm, e, q, hxq, ho⟩ := he
  have hal : (getE c.h id).alive = true := by rw [hl]; rfl
  rcases ho.2 with ⟨hv, hq⟩ | ⟨g', cap, cur, hv, hb0, hg, hnc, hcm, hcs, htake⟩
  · rw [hv] at hbg; simp [blk] at hbg
  · rw [hv] at hbg
    simp [blk] at hbg
    subst hbg
    have hle : q * m ≤ cap * m := Nat.mul_le_mul_right _ hnc
    have hst := run_storeCells_at P g' off e (ys.map (Value.int .i64)) 0 cur c.w hg (by simp; omega) ints_one
    simp only [Nat.add_zero, List.length_map] at hst
    generalize hcur : (cur.toList.take off ++ ys.map (Value.int .i64) ++ cur.toList.drop (off + ys.length)).toArray = cur' at hst
    have hgr : c.w.grownBy (c.w.setRow g' cur') (blk (c.hv id)) := by rw [hv]; exact grown_setRow _ _ _
    have hnl : (xs.take off ++ (ys ++ xs.drop (off + ys.length))).length = xs.length := by
      simp only [List.length_append, List.length_take, List.length_drop]; omega
    have hsame : sameE (getE c.h id) (.recs m (xs.take off ++ (ys ++ xs.drop (off + ys.length)))) = true := by
      rw [hl]; simp only [sameE]; rw [hnl]; simp
    have hE := Cx.ext_upd (e := .recs m (xs.take off ++ (ys ++ xs.drop (off + ys.length)))) hid hal hsame hgr
    refine ⟨c.upd id (.recs m (xs.take off ++ (ys ++ xs.drop (off + ys.length)))) (c.w.setRow g' cur'), rfl, hE, Cx.rel_upd hr hid hal hsame hgr ?_, ?_⟩
    · refine ⟨hm, e, q, by rw [hnl, hxq], ?_⟩
      show (c.w.setRow g' cur').ownsRow 0 e m (c.hv id) q _
      rw [hv]
      have hlenT : cur'.toList = cur.toList.take off ++ ys.map (Value.int .i64) ++ cur.toList.drop (off + ys.length) := by rw [← hcur]
      refine ⟨by rw [List.length_map, hnl, hxq], .inr ⟨g', cap, cur', rfl, hb0, setRow_heap _ _ _ _ _ _ hg, hnc, hcm, ?_, ?_⟩⟩
      · rw [← Array.length_toList, hlenT]
        simp only [List.length_append, List.length_take, List.length_drop, List.length_map, Array.length_toList]; omega
      · rw [hlenT]
        have hx2 : xs.map (Value.int .i64) = cur.toList.take (q * m) := htake.symm
        rw [List.map_append, List.map_append, List.map_take, List.map_drop, hx2]
        refine List.ext_getElem? fun j => ?_
        have hcl : cur.toList.length = cap * m := by simpa using hcs
        simp only [List.getElem?_take, List.getElem?_append, List.length_take, List.length_append, List.length_map, List.getElem?_drop, hcl]
        have h5 : min off (cap * m) = off := by omega
        have h6 : min off (min (q * m) (cap * m)) = off := by omega
        rw [h5, h6]
        by_cases j1 : j < q * m
        · rw [if_pos j1]
          by_cases j2 : j < off
          · simp only [j1, j2, show j < off + ys.length from by omega, if_true]
          · by_cases j3 : j < off + ys.length
            · rw [if_pos j3, if_neg j2, if_neg j2, if_pos (by omega)]
            · rw [if_neg j3, if_neg j2, if_neg (by omega), if_pos (by omega)]
              congr 1; omega
        · rw [if_neg j1, if_neg (by omega), if_neg (by omega), if_neg (by omega)]
    · have hsz2 : (sizeOf t).run P c.w = .ok (ys.map (Value.int .i64)).toArray.size c.w := by simp [sizeOf, typeInfo, hf, hs]
      show (do storeVar t (← Instr.sureAddr (.pointer (some ⟨g', off, none⟩))) (.agg (ys.map (Value.int .i64)).toArray) : Sem Unit).run P c.w = .ok () (c.w.setRow g' cur')
      simp only [Instr.sureAddr, Sem.run_bind, Sem.run_pure, Result.andThen_ok, storeVar, Value.cells, hsz2, ne_eq, not_true_eq_false, if_false, hst]
end

end Go.Proofs.Ytgpgifpblchjjaa.D
/- Every operation of the small machine is one of the model's. Conditions: those of each theorem. -/
namespace Go.Proofs.Ytgpgifpblchjjaa.D
open Go.RowKit
set_option linter.unusedVariables false
set_option linter.unusedSimpArgs false

theorem RelT.args {c : Cx} {σ : St} {a : Act} (h : RelT c σ a) (xs : List Operand) : ArgsR c (xs.map σ.ev) (xs.map a.eval) := by
  refine ⟨by simp, fun j hj => ?_⟩
  have hj' : j < xs.length := by simpa using hj
  have e1 : (xs.map σ.ev).getD j .junk = σ.ev xs[j] := by simp [List.getD, hj']
  have e2 : (xs.map a.eval).getD j undef = a.eval xs[j] := by simp [List.getD, hj']
  rw [e1, e2]; exact h.ev _

theorem RelT.opt {c : Cx} {σ : St} {a : Act} (h : RelT c σ a) (x : Option Operand) : OptR c (x.map σ.ev) (x.map a.eval) := by
  cases x with
  | none => trivial
  | some x => exact h.ev x

theorem same_operand {l c : Operand} (h : sameOperand l c = true) {a : Act} {k : IntKind} {n : Int} (hl : a.eval l = .int k n) : ∃ kc, a.eval c = .int kc n := by
  unfold sameOperand at h
  split at h
  · have := Nat.eq_of_beq_eq_true h; subst this; exact ⟨k, hl⟩
  · rename_i k1 x1 k2 x2
    have e : x1 = x2 := by simpa using h
    subst e
    simp [Act.eval] at hl
    obtain ⟨_, rfl⟩ := hl
    exact ⟨_, rfl⟩
  · cases h

theorem ofConst_not_agg (v : Value) (zs : List V) : ofConst v ≠ .agg zs := by
  unfold ofConst
  split <;> first | (intro h; cases h; done) | skip
  split <;> (intro h; cases h)

theorem ofZero_agg {z : Value} {zs : List V} (h : ofZero z = .agg zs) : ∃ cs : Array Value, z = .agg cs ∧ zs = cs.toList.map ofConst := by
  cases z <;> simp only [ofZero] at h <;> first | exact absurd h (ofConst_not_agg _ _) | skip
  rename_i cs
  exact ⟨cs, rfl, by injection h with h; exact h.symm⟩

theorem size_one {TD : TypeId → Option TI} {i : TypeId} (h : fitsOne TD i = true) : ∃ t, TD i = some t ∧ t.size = 1 := by
  unfold fitsOne at h
  split at h
  · rename_i hh; exact ⟨_, hh, rfl⟩
  · cases h

theorem freeze_flat : ∀ (vs : List V) (h : List E) (out : List (List Int)) (h' : List E), freeze h vs = some (out, h') → ∀ j, j < vs.length → (vs.getD j .junk).flat = true := by
  intro vs
  induction vs with
  | nil => intro h out h' _ j hj; simp at hj
  | cons v vs ih =>
    intro h out h' hf j hj
    have key : v.flat = true ∧ ∃ h2 o2 h3, freeze h2 vs = some (o2, h3) := by
      cases v <;> first | (simp [freeze] at hf; done) | (simp only [freeze] at hf; done) | skip
      · rename_i s l
        cases s <;> cases l <;> first | (simp [freeze] at hf; done) | skip
        rename_i k zs
        cases k <;> first | (simp [freeze] at hf; done) | skip
        simp only [freeze, Option.map_eq_some_iff] at hf
        obtain ⟨⟨o2, h2⟩, hf, _⟩ := hf
        exact ⟨rfl, _, o2, h2, hf⟩
      · simp only [freeze] at hf
        split at hf
        · simp only [Option.map_eq_some_iff] at hf
          obtain ⟨⟨o2, h2⟩, hf, _⟩ := hf
          exact ⟨rfl, _, o2, h2, hf⟩
        · cases hf
    obtain ⟨hk, h2, o2, h3, hf2⟩ := key
    cases j with
    | zero => simpa using hk
    | succ j => simpa using ih h2 o2 h3 hf2 j (by simpa using hj)

theorem storeF_ok {P : Program} {c : Cx} {r : V × List E} (hr : Rel c) {t : TypeId} {f : TypeInfo} (hf : P.info? t = some f) (hs : f.size = 1) {p v : V} {κ : List E → R} {vp x : Value}
    (hfl : v.flat = true) (h : storeF p v c.h κ = some r) (hp : VR c p vp) (hv : VR c v x) :
    ∃ c', κ c'.h = some r ∧ Ext c c' ∧ Rel c' ∧ (Instr.storeAt t vp x).run P c.w = .ok () c'.w := by
  cases v with
  | own i =>
    cases p with
    | ptr id off =>
      simp only [storeF] at h
      split at h
      · split at h
        · rename_i xs h' hfr
          obtain ⟨c1, e1, e2, hE1, hR1, hxl, hrow⟩ := freeze_ok [.own i] c [x] [xs] h' hr ⟨rfl, fun j hj => by
            have : j = 0 := by simp at hj; omega
            subst this; simpa using hv⟩ hfr
          have hx : RowV c1 xs x := by simpa using hrow 0 (by simp)
          have hv1 : VR c1 (.ro true (.ints .i64 xs)) x := by
            show RoR c1 true (.ints .i64 xs) x
            obtain ⟨a, cap, rfl, hc, h0⟩ := hx
            refine ⟨a, cap, rfl, hc, ?_⟩
            rcases h0 with h0 | ⟨b, o, ha, hF, hU, hcell⟩
            · exact .inl h0
            · exact .inr ⟨b, o, ha, fun _ => hF, hU, fun j hj => ⟨_, hcell j hj, rfl⟩⟩
          rw [← e1] at h
          obtain ⟨c', f1, f2, f3, f4⟩ := store_ok (P := P) hR1 hf hs rfl h (hE1.vr hp) hv1
          exact ⟨c', f1, hE1.trans f2, f3, by rw [← e2]; exact f4⟩
        · cases h
      · exact store_ok (P := P) hr hf hs hfl h hp hv
    | _ => cases h
  | _ => exact store_ok (P := P) hr hf hs hfl h hp hv
theorem ownZ_ok {TD : TypeId → Option TI} {fs : Array Field} : ∀ (zs : List V) (xs : List Value) (j : Nat) (c : Cx) (vs : List V) (h' : List E), Rel c → ownZ TD fs j zs c.h = some (vs, h') → xs.length = zs.length →
    (∀ i, i < zs.length → VR0 c (zs.getD i .junk) (xs.getD i undef)) → ∃ c', c'.h = h' ∧ c'.w = c.w ∧ Ext c c' ∧ Rel c' ∧ vs.length = zs.length ∧ ∀ i, i < zs.length → VR0 c' (vs.getD i .junk) (xs.getD i undef) := by
  intro zs
  induction zs with
  | nil =>
    intro xs j c vs h' hr hz hl hv
    simp only [ownZ, Option.some.injEq, Prod.mk.injEq] at hz
    obtain ⟨rfl, rfl⟩ := hz
    exact ⟨c, rfl, rfl, Ext.refl c, hr, rfl, fun i hi => by simp at hi⟩
  | cons v zs ih =>
    intro xs j c vs h' hr hz hl hv
    obtain ⟨x, xs, rfl⟩ : ∃ u us, xs = u :: us := by
      cases xs with
      | nil => simp at hl
      | cons u us => exact ⟨u, us, rfl⟩
    have hl' : xs.length = zs.length := by simpa using hl
    have hx : VR0 c v x := by simpa using hv 0 (by simp)
    have hxs : ∀ i, i < zs.length → VR0 c (zs.getD i .junk) (xs.getD i undef) := fun i hi => by simpa using hv (i + 1) (by simpa using hi)
    have plain : (ownZ TD fs (j + 1) zs c.h).map (fun p => (v :: p.1, p.2)) = some (vs, h') → ∃ c', c'.h = h' ∧ c'.w = c.w ∧ Ext c c' ∧ Rel c' ∧ vs.length = (v :: zs).length ∧ ∀ i, i < (v :: zs).length → VR0 c' (vs.getD i .junk) ((x :: xs).getD i undef) := by
      intro hz
      simp only [Option.map_eq_some_iff, Prod.mk.injEq] at hz
      obtain ⟨⟨ws, h2⟩, h3, rfl, rfl⟩ := hz
      obtain ⟨c', e1, e2, e3, e4, e5, e6⟩ := ih xs (j + 1) c ws h2 hr h3 hl' hxs
      refine ⟨c', e1, e2, e3, e4, by simp [e5], fun i hi => ?_⟩
      cases i with
      | zero => simpa using e3.vr0 hx
      | succ i => simpa using e6 i (by simpa using hi)
    cases v <;> first | exact plain hz | skip
    simp only [ownZ] at hz
    split at hz
    · split at hz
      · split at hz
        · split at hz
          · rename_i l hle
            simp only [Option.map_eq_some_iff, Prod.mk.injEq] at hz
            obtain ⟨⟨ws, h2⟩, h3, rfl, rfl⟩ := hz
            have hl0 : l.len = 0 := by
              unfold emptyRow at hle
              split at hle <;> simp at hle <;> subst hle <;> rfl
            have hx2 : x = .slice none 0 0 := hx
            subst hx2
            obtain ⟨hE, hR, hV⟩ := push_row hr (l := l) (x := .slice none 0 0) (w' := c.w) (e := 0) (xs := []) (grown_self _ _) (by rw [hl0]; exact World.ownsRow_nil c.w 0 0 1) (fun b hb => by simp [blk] at hb) (fun c' _ j hj => by omega)
            obtain ⟨c', e1, e2, e3, e4, e5, e6⟩ := ih xs (j + 1) (c.push (.row l) (.slice none 0 0) c.w) ws h2 hR h3 hl' (fun i hi => hE.vr0 (hxs i hi))
            refine ⟨c', e1, e2, hE.trans e3, e4, by simp [e5], fun i hi => ?_⟩
            cases i with
            | zero => simpa using e3.vr0 (u := .own c.h.length) hV
            | succ i => simpa using e6 i (by simpa using hi)
          · cases hz
        · cases hz
      · cases hz
    · cases hz
/-- Operations on rows of structs. -/
theorem opR_wp {P : Program} {TD : TypeId → Option TI} (hT : TyOk P TD) {o : Oper} {σ : St} {a : Act} {c : Cx} {κ : V → List E → R} {r : V × List E} {f : (V → List E → R) → R}
    (hR : opR TD o σ = some f) (h : f κ = some r) (hr : Rel c) (ht : RelT c σ a) {N : Act → World → Prop} {Q : Exit → Act → World → Prop}
    (hN : ∀ v c' x, κ v c'.h = some r → Ext c c' → Rel c' → VR c' v x → N (a.put o.dst x) c'.w) : o.wp P a c.w N Q := by
  have hσ := ht.h
  obtain ⟨dst, op, ty, pos, after, guard⟩ := o
  have same : ∀ (v : V) (z : Value), κ v c.h = some r → VR c v z → (execOp a.eval ⟨dst, op, ty, pos, after, guard⟩).run P c.w = .ok (.value z) c.w →
      (⟨dst, op, ty, pos, after, guard⟩ : Oper).wp P a c.w N Q := fun v z h1 h2 h3 => wp_val h3 (hN v c z h1 (Ext.refl c) hr h2)
  cases op with
  | assign x =>
    have key : ∀ n, strideOf TD ty = some n → κ (.own σ.h.length) (σ.h ++ [.recs n []]) = some r → x = .const (.slice none 0 0) → (⟨dst, .assign x, ty, pos, after, guard⟩ : Oper).wp P a c.w N Q := by
      intro n hst h2 hx
      subst hx
      obtain ⟨hn2, e, fi, u1, hfi, hfs, zv, hzv⟩ := stride_ok hT hst
      obtain ⟨hE, hR', hV⟩ := push_recs hr (n := n) (m := 0) (ys := []) (e := e) (x := .slice none 0 0) (w' := c.w) (by omega) (by simp) (grown_self _ _) (World.ownsRow_nil c.w 0 e n) (fun b hb => by simp [blk] at hb)
      rw [hσ] at h2
      exact wp_val (x := .slice none 0 0) (w' := (c.push (.recs n []) (.slice none 0 0) c.w).w) rfl (hN _ (c.push (.recs n []) (.slice none 0 0) c.w) _ h2 hE hR' hV)
    simp only [opR] at hR
    unfold opRA at hR
    split at hR
    · split at hR
      · rename_i n hst
        injection hR with hR
        subst hR
        exact key n hst h rfl
      · cases hR
    · cases hR
  | build t parts =>
    simp only [opR] at hR
    unfold opRB at hR
    split at hR
    · rename_i hps
      have hps2 : parts = #[] := Array.toList_inj.1 hps
      subst hps2
      split at hR
      · rename_i fs sz by_ z ht0
        split at hR
        · rename_i zs hz
          cases hc : zs.any V.isNil && fs.toList.all (fun f => (TD f.type).isSome) with
          | false => rw [hc, cond_false] at hR; cases hR
          | true =>
            rw [hc, cond_true] at hR
            rw [Bool.and_eq_true] at hc
            obtain ⟨_, hc1⟩ := hc
            split at hR
            · rename_i vs h' hoz
              injection hR with hR
              subst hR
              obtain ⟨u1, fi, hfi, hfs, hfb, hfz⟩ := hT.ok _ _ ht0
              obtain ⟨cs, rfl, rfl⟩ := ofZero_agg hz
              have hsize : ∀ f ∈ fs.toList, ∃ g, P.info? f.type = some g ∧ g.size = (match TD f.type with | some i => i.size | none => 0) := fun f hf => by
                have := (List.all_eq_true.1 hc1) f hf
                cases hi : TD f.type with
                | none => rw [hi] at this; cases this
                | some i =>
                  obtain ⟨_, g, h1, h2, _⟩ := hT.ok _ _ hi
                  exact ⟨g, h1, h2⟩
              have hrun := run_build (P := P) (w := c.w) (ps := #[]) (size := fun t => match TD t with | some i => i.size | none => 0) u1 hfi hfz hsize (fun p hp => by cases hp)
              have hrun' : (execOp a.eval ⟨dst, .build t #[], ty, pos, after, guard⟩).run P c.w = .ok (.value (.agg cs)) c.w := by
                show (do let v ← Instr.build t (Array.map _ #[]); pure (Next.value v) : Sem Next).run P c.w = _
                rw [Array.map_empty, Sem.run_bind, hrun]; rfl
              rw [hσ] at hoz
              obtain ⟨c', e1, e2, e3, e4, e5, e6⟩ := ownZ_ok (cs.toList.map ofConst) cs.toList 0 c vs h' hr hoz (by simp) (fun j hj => by
                have hj' : j < cs.size := by simpa using hj
                have q1 : (cs.toList.map ofConst).getD j .junk = ofConst cs[j] := by simp [List.getD, hj']
                have q2 : cs.toList.getD j undef = cs[j] := by simp [List.getD, hj']
                rw [q1, q2]; exact vr0_const c _)
              rw [← e1] at h
              refine wp_val (w' := c'.w) (by rw [e2]; exact hrun') (hN _ c' _ h e3 e4 ⟨cs, rfl, by simp [e5], fun j hj => ?_⟩)
              have hj' : j < cs.size := by rw [e5] at hj; simpa using hj
              have := e6 j (by simpa using hj')
              have q2 : cs.toList.getD j undef = cs.getD j undef := by simp [List.getD, hj']
              rw [q2] at this; exact this
            · cases hR
        · cases hR
      · cases hR
    · cases hR
  | indexAddr t x i =>
    simp only [opR] at hR
    split at hR
    · rename_i n hst
      obtain ⟨hn2, e, fi, u1, hfi, hfs, zv, hzv⟩ := stride_ok hT hst
      have hx := ht.ev x
      have hi := ht.ev i
      split at hR
      · rename_i s m xs kk k hxv hiv
        injection hR with hR
        subst hR
        obtain ⟨h1, h2⟩ := bif_some h
        simp only [Bool.and_eq_true, idxOk, decide_eq_true_eq] at h1
        obtain ⟨h1, h3⟩ := h1
        have h1 := Nat.eq_of_beq_eq_true h1
        subst h1
        rw [hxv] at hx
        rw [hiv] at hi
        have hi := vr_int hi
        obtain ⟨hm, ad, q, cap, hv, hl, hc, h0⟩ := (show RecR c s m xs (a.eval x) from hx)
        have hdiv : xs.length / m = q := by rw [hl]; exact Nat.mul_div_cancel _ hm
        rw [hdiv] at h3
        have hlt : k.toNat < q := by omega
        have hlt2 : k.toNat * m + m ≤ q * m := by rw [← Nat.succ_mul]; exact Nat.mul_le_mul_right _ hlt
        rcases h0 with h0 | ⟨b, off, rfl, hF, hU, hcell⟩
        · omega
        · rw [hσ] at h2
          refine same _ (.pointer (some ⟨b, off + k.toNat * m, none⟩)) h2 ⟨by omega, b, _, rfl, hU, fun j hj => ?_⟩ ?_
          · rw [Nat.add_assoc]
            exact hcell _ (by omega)
          · simp only [execOp, hv, hi, Sem.run_bind, run_indexR (P := P) u1 hfi hfs h3.1 h3.2, Result.andThen_ok, Sem.run_pure]
      · rename_i id kk k hxv hiv
        split at hR
        · rename_i m xs hl
          injection hR with hR
          subst hR
          obtain ⟨h1, h2⟩ := bif_some h
          simp only [Bool.and_eq_true, idxOk, decide_eq_true_eq] at h1
          obtain ⟨h1, h3⟩ := h1
          have h1 := Nat.eq_of_beq_eq_true h1
          subst h1
          rw [hxv] at hx
          rw [hiv] at hi
          have hi := vr_int hi
          obtain ⟨hid, hxe⟩ := (show id < c.h.length ∧ a.eval x = c.hv id from hx)
          rw [hσ] at hl h2
          obtain ⟨hm, q, ad, cap, hlen, hv, hc, h0⟩ := recs_own hr hid hl
          have hdiv : xs.length / m = q := by rw [hlen]; exact Nat.mul_div_cancel _ hm
          rw [hdiv] at h3
          have hlt : k.toNat < q := by omega
          have hlt2 : k.toNat * m + m ≤ q * m := by rw [← Nat.succ_mul]; exact Nat.mul_le_mul_right _ hlt
          rcases h0 with h0 | ⟨g, rfl, hcell⟩
          · omega
          · refine same _ (.pointer (some ⟨g, 0 + k.toNat * m, none⟩)) h2 ⟨hid, g, by rw [hv]; rfl, by simp⟩ ?_
            simp only [execOp, hxe, hv, hi, Sem.run_bind, run_indexR (P := P) u1 hfi hfs h3.1 h3.2, Result.andThen_ok, Sem.run_pure]
        · cases hR
      · cases hR
    · cases hR
  | fieldAddr t x f =>
    simp only [opR] at hR
    split at hR
    · rename_i fs sz by_ z htd
      split at hR
      · rename_i m xs o' hxv
        split at hR
        · rename_i fd hfd
          split at hR
          · rename_i d' n' by2 z' hfd2
            injection hR with hR
            subst hR
            obtain ⟨h1, h2⟩ := bif_some h
            have h1 : fd.offset < m := by simpa [Nat.blt_eq] using h1
            have hx := ht.ev x
            rw [hxv] at hx
            obtain ⟨hp, b, off, e, hU, hcell⟩ := (show VR0 c (.rref m xs o') (a.eval x) from hx)
            obtain ⟨u1, _⟩ := hT.ok _ _ htd
            obtain ⟨_, fi, hfi, hfs, _⟩ := hT.ok _ _ hfd2
            rw [hσ] at h2
            refine same _ (.pointer (some ⟨b, off + fd.offset, none⟩)) h2 ⟨b, _, _, rfl, hU, hcell _ h1, rfl⟩ ?_
            have hne : ¬ fi.size = 0 := by simp at hfs; omega
            simp [execOp, Instr.fieldAt, run_underlying u1, hfd, Instr.sureAddr, e, fieldPlace, sizeOf, typeInfo, hfi, hne, add_none]
          · cases hR
        · cases hR
      · cases hR
    · cases hR
  | load t p =>
    simp only [opR] at hR
    split at hR
    · rename_i fs n by_ z htd
      obtain ⟨u1, fi, hfi, hfs, _⟩ := hT.ok _ _ htd
      have hp := ht.ev p
      split at hR
      · rename_i m xs o' hpv
        injection hR with hR
        subst hR
        obtain ⟨h1, h2⟩ := bif_some h
        have h1 := Nat.eq_of_beq_eq_true h1
        subst h1
        rw [hpv] at hp
        obtain ⟨_, b, off, e, hU, hcell⟩ := (show VR0 c (.rref m xs o') (a.eval p) from hp)
        rw [hσ] at h2
        refine same _ _ h2 (agg_cells c xs o' m) ?_
        simp only [execOp, e, Sem.run_bind, run_loadCells (P := P) u1 hfi hcell hfs, Result.andThen_ok, Sem.run_pure]
      · rename_i id off hpv
        split at hR
        · rename_i m xs hl
          injection hR with hR
          subst hR
          obtain ⟨h1, h2⟩ := bif_some h
          have h1 := of_decide_eq_true h1
          rw [hpv] at hp
          obtain ⟨hid, g, hg, e⟩ := (show VR0 c (.ptr id off) (a.eval p) from hp)
          rw [hσ] at hl h2
          obtain ⟨hm, q, ad, cap, hlen, hv, hc, h0⟩ := recs_own hr hid hl
          refine same _ _ h2 (agg_cells c xs off n) ?_
          rcases h0 with h0 | ⟨g', rfl, hcell⟩
          · have hn0 : n = 0 := by omega
            subst hn0
            have hrun := run_loadCells (P := P) (w := c.w) (b := g) (off := off) (n := 0) (g := fun j => eli xs (off + j)) u1 hfi (fun j hj => by omega) hfs
            simp only [execOp, e, Sem.run_bind, hrun, Result.andThen_ok, Sem.run_pure]
          · rw [hv] at hg
            simp [blk] at hg
            subst hg
            have hrun := run_loadCells (P := P) (w := c.w) (b := g') (off := off) (n := n) (g := fun j => eli xs (off + j)) u1 hfi (fun j hj => hcell _ (by omega)) hfs
            simp only [execOp, e, Sem.run_bind, hrun, Result.andThen_ok, Sem.run_pure]
        · cases hR
      · cases hR
    · cases hR
  | store t p x =>
    simp only [opR] at hR
    split at hR
    · rename_i fs n by_ z htd
      obtain ⟨u1, fi, hfi, hfs, _⟩ := hT.ok _ _ htd
      have hp := ht.ev p
      have hx := ht.ev x
      split at hR
      · rename_i id off ws hpv hxv
        split at hR
        · rename_i m xs hl
          split at hR
          · rename_i ys hys
            injection hR with hR
            subst hR
            obtain ⟨h1, h2⟩ := bif_some h
            simp only [Bool.and_eq_true, decide_eq_true_eq] at h1
            obtain ⟨h1, h3⟩ := h1
            have h1 := Nat.eq_of_beq_eq_true h1
            subst h1
            rw [hpv] at hp
            rw [hxv] at hx
            have hxe := agg_of hys hx
            rw [hσ] at hl h2
            obtain ⟨c', e1, e2, e3, e4⟩ := store_recs (P := P) hr hfi hfs h3 hl hp
            rw [← e1] at h2
            exact wp_skp (by simp only [execOp, hxe, Sem.run_bind, e4, Result.andThen_ok, Sem.run_pure]) (hN .junk c' undef h2 e2 e3 trivial)
          · cases hR
        · cases hR
      · cases hR
    · cases hR
  | slice t x lo hi mx =>
    cases mx with
    | some m => simp [opR] at hR
    | none =>
      simp only [opR] at hR
      split at hR
      · rename_i n hst
        obtain ⟨hn2, e, fi, u1, hfi, hfs, zv, hzv⟩ := stride_ok hT hst
        have hx := ht.ev x
        split at hR
        · rename_i s m xs hxv
          injection hR with hR
          subst hR
          obtain ⟨h1, h2⟩ := bif_some h
          have h1 := Nat.eq_of_beq_eq_true h1
          subst h1
          rw [hxv] at hx
          obtain ⟨hm, ad, q, cap, hv, hl, hc, h0⟩ := (show RecR c s m xs (a.eval x) from hx)
          have hdiv : xs.length / m = q := by rw [hl]; exact Nat.mul_div_cancel _ hm
          rw [hdiv] at h2
          obtain ⟨b, k, h3, h4, h5, _⟩ := cut_ok (P := P) (ht.opt lo) (ht.opt hi) hc h2
          have hlt2 : b * m + k * m ≤ q * m := by rw [← Nat.add_mul]; exact Nat.mul_le_mul_right _ h4
          have hlen : ((xs.drop (b * m)).take (k * m)).length = k * m := by rw [List.length_take, List.length_drop]; omega
          rw [hσ] at h3
          refine same _ (.slice (if cap = b then ad else ad.map (·.add (b * m))) k (cap - b)) h3 ⟨hm, _, k, cap - b, rfl, hlen, by omega, ?_⟩ ?_
          · rw [hlen]
            rcases Nat.eq_zero_or_pos (k * m) with hz | hz
            · exact .inl hz
            · have hkp : 0 < k := Nat.pos_of_mul_pos_right hz
              rcases h0 with h0 | ⟨g, off, rfl, hF, hU, hcell⟩
              · omega
              · refine .inr ⟨g, off + b * m, ?_, hF, hU, fun j hj => ?_⟩
                · have : ¬ cap = b := by omega
                  simp [this, add_none]
                · rw [eli_cut hj, Nat.add_assoc]
                  exact hcell _ (by omega)
          · simp only [execOp, hv, Option.map_none, Sem.run_bind, run_sliceR (P := P) u1 hfi hfs h5, Result.andThen_ok, Sem.run_pure]
        · cases hR
      · cases hR
  | buildSlice t k parts =>
    simp only [opR] at hR
    split at hR
    · rename_i n hst
      obtain ⟨hn2, e, fi, u1, hfi, hfs, zv, hzv⟩ := stride_ok hT hst
      split at hR
      · rename_i hpl
        injection hR with hR
        subst hR
        have hpa : parts = #[] := by apply Array.ext'; simpa using hpl
        subst hpa
        obtain ⟨hE, hR', hV⟩ := push_recs hr (n := n) (m := 0) (ys := []) (e := e) (x := .slice (some ⟨c.w.heap.size, 0, none⟩) 0 0) (w' := c.w.alloc (.cells #[] e)) (by omega) (by simp) (World.grownBy_alloc c.w _ none)
          (World.ownsRow_lit (base := 0) (e := e) (size := n) c.w #[] 0 (Nat.zero_le _) (by unfold maxLen; omega) (by simp)) (fun b hb => by simp [blk] at hb; omega)
        rw [hσ] at h
        refine wp_val (w' := c.w.alloc (.cells #[] e)) ?_ (hN _ _ _ h hE hR' hV)
        show (do let v ← Instr.buildSlice t 0 (Array.map _ #[]); pure (Next.value v) : Sem Next).run P c.w = _
        rw [Array.map_empty, Sem.run_bind, run_buildR0 u1 hfi]; rfl
      · rename_i x hpl
        split at hR
        · rename_i ws hxv
          split at hR
          · rename_i ys hys
            injection hR with hR
            subst hR
            obtain ⟨h1, h2⟩ := bif_some h
            simp only [Bool.and_eq_true, decide_eq_true_eq] at h1
            obtain ⟨h1, h3⟩ := h1
            have h1 := Nat.eq_of_beq_eq_true h1
            have hx := ht.ev x
            rw [hxv] at hx
            have hxe := agg_of hys hx
            have hcs : (ys.map (Value.int .i64)).toArray.size = n := by simpa using h1
            have hpa : parts.map (fun (i, x) => (i, a.eval x)) = #[(0, Value.agg (ys.map (Value.int .i64)).toArray)] := by
              apply Array.ext'
              simp [hpl, hxe]
            have hrun := run_buildR1 (P := P) (w := c.w) hn2 h3 u1 hfi hfs hzv hcs
            obtain ⟨hE, hR', hV⟩ := push_recs hr (n := n) (m := 1) (ys := ys) (e := e) (x := .slice (some ⟨c.w.heap.size, 0, none⟩) 1 1) (w' := c.w.alloc (.cells (ys.map (Value.int .i64)).toArray e)) (by omega) (by omega) (World.grownBy_alloc c.w _ none)
              (World.ownsRow_lit (base := 0) (e := e) (size := n) c.w (ys.map (Value.int .i64)).toArray 1 (Nat.zero_le _) (by unfold maxLen; omega) (by omega)) (fun b hb => by simp [blk] at hb; omega)
            rw [hσ] at h2
            refine wp_val (w' := c.w.alloc (.cells (ys.map (Value.int .i64)).toArray e)) ?_ (hN _ _ _ h2 hE hR' hV)
            show (do let v ← Instr.buildSlice t 1 (parts.map fun (i, x) => (i, a.eval x)); pure (Next.value v) : Sem Next).run P c.w = _
            rw [hpa, Sem.run_bind, hrun]; rfl
          · cases hR
        · cases hR
      · cases hR
    · cases hR
  | makeSlice t l cp =>
    simp only [opR] at hR
    split at hR
    · rename_i n b hst
      obtain ⟨hn2, e, fi, cs, u1, hfi, hfs, hfb, hfz, hcs⟩ := recsZero_ok hT hst
      split at hR
      · rename_i k hlv
        injection hR with hR
        subst hR
        obtain ⟨h1, h2⟩ := bif_some h
        simp only [Bool.and_eq_true, decide_eq_true_eq] at h1
        obtain ⟨⟨⟨h3, h4⟩, h5⟩, h6⟩ := h1
        have h6 : k.toNat ≤ 1099511627776 := of_decide_eq_true h6
        have hl := ht.ev l
        rw [hlv] at hl
        have hl := vr_int hl
        obtain ⟨kc, hcp⟩ := same_operand h3 hl
        have hk : k = ((k.toNat : Nat) : Int) := by omega
        have hbn : fi.bytes * k.toNat ≤ 281474976710656 := by
          have := Nat.mul_le_mul (show fi.bytes ≤ 64 by rw [hfb]; exact h4) h6
          omega
        obtain ⟨w', hrun, ho, hg⟩ := run_make_full (P := P) c.w 0 t e fi (.agg cs) n u1 hfi hfz hfs .i64 kc k.toNat hbn (by unfold maxLen; omega) (Nat.zero_le _)
        rw [show (Value.agg cs).cells = cs from rfl, made_zero (by omega) hcs] at ho
        obtain ⟨hE, hR', hV⟩ := push_recs hr (n := n) (m := k.toNat) (ys := List.replicate (k.toNat * n) 0) (by omega) (by simp) hg ho (fun b hb => by simp [blk] at hb; omega)
        rw [hσ] at h2
        refine wp_val ?_ (hN _ _ _ h2 hE hR' hV)
        rw [← hk] at hrun
        simp only [execOp, hl, hcp, Sem.run_bind, hrun, Result.andThen_ok, Sem.run_pure]
        rfl
      · cases hR
    · cases hR
  | call cl =>
    obtain ⟨callee, cargs, cats⟩ := cl
    cases callee with
    | builtin bi =>
      cases bi with
      | len =>
        simp only [opR] at hR
        split at hR
        · rename_i x t hx1 ht1
          have ea : cargs = #[x] := Array.toList_inj.1 hx1
          have et : cats = #[t] := Array.toList_inj.1 ht1
          subst ea; subst et
          split at hR
          · rename_i n hst
            obtain ⟨hn2, e, fi, u1, hfi, hfs, zv, hzv⟩ := stride_ok hT hst
            have hx := ht.ev x
            have hrun : ∀ ad q cap, a.eval x = .slice ad q cap → (execOp a.eval ⟨dst, .call ⟨.builtin .len, #[x], #[t]⟩, ty, pos, after, guard⟩).run P c.w = .ok (.value (.int .i64 (q : Nat))) c.w := fun ad q cap he => by
              have h9 : (Builtin.len_ #[t] ty #[.slice ad q cap]).run P c.w = .ok (.int .i64 (q : Nat)) c.w := by simp [Builtin.len_, run_underlying u1, goInt]
              simp only [execOp, resolve, invoke, builtin, Sem.run_bind, Sem.run_pure, Result.andThen_ok, List.map_toArray, List.map_cons, List.map_nil, he, h9]
            split at hR
            · rename_i s m xs hxv
              injection hR with hR
              subst hR
              obtain ⟨h1, h2⟩ := bif_some h
              have h1 := Nat.eq_of_beq_eq_true h1
              subst h1
              rw [hxv] at hx
              obtain ⟨hm, ad, q, cap, hv, hl, hc, h0⟩ := (show RecR c s m xs (a.eval x) from hx)
              have hdiv : xs.length / m = q := by rw [hl]; exact Nat.mul_div_cancel _ hm
              rw [hσ, hdiv] at h2
              exact same _ _ h2 rfl (hrun ad q cap hv)
            · rename_i id hxv
              split at hR
              · rename_i m xs hl
                injection hR with hR
                subst hR
                obtain ⟨h1, h2⟩ := bif_some h
                have h1 := Nat.eq_of_beq_eq_true h1
                subst h1
                rw [hxv] at hx
                obtain ⟨hid, hxe⟩ := (show id < c.h.length ∧ a.eval x = c.hv id from hx)
                rw [hσ] at hl
                obtain ⟨hm, q, ad, cap, hlen, hv, hc, h0⟩ := recs_own hr hid hl
                have hdiv : xs.length / m = q := by rw [hlen]; exact Nat.mul_div_cancel _ hm
                rw [hσ, hdiv] at h2
                exact same _ _ h2 rfl (hrun ad q cap (by rw [hxe, hv]))
              · cases hR
            · cases hR
          · cases hR
        · cases hR
      | append =>
        simp only [opR] at hR
        split at hR
        · rename_i s x t u hx1 ht1
          have ea : cargs = #[s, x] := Array.toList_inj.1 hx1
          have et : cats = #[t, u] := Array.toList_inj.1 ht1
          subst ea; subst et
          split at hR
          · rename_i n b hst
            obtain ⟨hn2, e, fi, cs, u1, hfi, hfs, hfb, hfz, hcs⟩ := recsZero_ok hT hst
            have hcsz : (Value.agg cs).cells.size = n := by show cs.size = n; rw [← Array.length_toList, hcs, List.length_replicate]
            have hs := ht.ev s
            have hx := ht.ev x
            split at hR
            · rename_i id hsv
              rw [hsv] at hs
              obtain ⟨hid, hse⟩ := (show id < c.h.length ∧ a.eval s = c.hv id from hs)
              split at hR
              · rename_i m xs hl
                rw [hσ] at hl
                have fin : ∀ (m2 : Nat) (ys : List Int), (bif Nat.beq t u && Nat.beq m n && Nat.beq m2 n && decide (b ≤ 64) && small (xs.length + ys.length) then κ (.own σ.h.length) (σ.h.set id .dead ++ [.recs n (xs ++ ys)]) else none) = some r →
                    (m2 = n → ∃ a' q cap, a.eval x = .slice a' q cap ∧ ys.length = q * n ∧ (ys.length = 0 ∨ ∃ b off, a' = some ⟨b, off, none⟩ ∧ ∀ j, j < ys.length → c.w.cell? ⟨b, off + j, none⟩ = some (.int .i64 (eli ys j)))) →
                    (⟨dst, .call ⟨.builtin .append, #[s, x], #[t, u]⟩, ty, pos, after, guard⟩ : Oper).wp P a c.w N Q := by
                  intro m2 ys hb hy
                  obtain ⟨h1, h2⟩ := bif_some hb
                  simp only [Bool.and_eq_true, decide_eq_true_eq] at h1
                  obtain ⟨⟨⟨⟨h3, h4⟩, h5⟩, h6⟩, h7⟩ := h1
                  have h3 := Nat.eq_of_beq_eq_true h3
                  have h4 := Nat.eq_of_beq_eq_true h4
                  have h5 := Nat.eq_of_beq_eq_true h5
                  have h7 := of_decide_eq_true h7
                  subst h3; subst h4
                  obtain ⟨c', y, e1, e2, e3, e4, e5⟩ := append_recs (P := P) (ty := ty) hr (by omega) u1 hfi hfz hfs (by rw [hfb]; exact h6) hcsz hid hl h7 (hy h5)
                  rw [hσ, ← e1] at h2
                  refine wp_val (w' := c'.w) ?_ (hN _ c' y h2 e2 e3 e4)
                  simp only [execOp, resolve, invoke, builtin, Sem.run_bind, Sem.run_pure, Result.andThen_ok, List.map_toArray, List.map_cons, List.map_nil, hse, e5]
                split at hR
                · rename_i id2 hxv
                  split at hR
                  · rename_i m2 ys hl2
                    injection hR with hR
                    subst hR
                    rw [hxv] at hx
                    obtain ⟨hid2, hxe⟩ := (show id2 < c.h.length ∧ a.eval x = c.hv id2 from hx)
                    rw [hσ] at hl2
                    refine fin m2 ys h (fun hm2 => ?_)
                    subst hm2
                    obtain ⟨hm, q, ad, cap, hlen, hv, hc, h0⟩ := recs_own hr hid2 hl2
                    refine ⟨ad, q, cap, by rw [hxe, hv], hlen, ?_⟩
                    rcases h0 with h0 | ⟨g, hg, hcell⟩
                    · exact .inl h0
                    · exact .inr ⟨g, 0, hg, fun j hj => by rw [Nat.zero_add]; exact hcell j hj⟩
                  · cases hR
                · rename_i s2 m2 ys hxv
                  injection hR with hR
                  subst hR
                  rw [hxv] at hx
                  refine fin m2 ys h (fun hm2 => ?_)
                  subst hm2
                  obtain ⟨hm, ad, q, cap, hv, hl, hc, h0⟩ := (show RecR c s2 m2 ys (a.eval x) from hx)
                  refine ⟨ad, q, cap, hv, hl, ?_⟩
                  rcases h0 with h0 | ⟨g, off, hg, _, _, hcell⟩
                  · exact .inl h0
                  · exact .inr ⟨g, off, hg, hcell⟩
                · cases hR
              · cases hR
            · cases hR
          · cases hR
        · cases hR
      | _ => simp [opR] at hR
    | _ => simp [opR] at hR
  | _ => simp [opR] at hR
theorem opC0_wp {P : Program} {TD : TypeId → Option TI} {K : FuncId → List V → List E → (V → List E → R) → R} (hT : TyOk P TD) (hK : KOk P K) {o : Oper} {σ : St} {a : Act} {c : Cx} {κ : V → List E → R} {r : V × List E}
    (h : opC0 TD K o σ κ = some r) (hr : Rel c) (ht : RelT c σ a) {N : Act → World → Prop} {Q : Exit → Act → World → Prop}
    (hN : ∀ v c' x, κ v c'.h = some r → Ext c c' → Rel c' → VR c' v x → N (a.put o.dst x) c'.w) : o.wp P a c.w N Q := by
  have hσ := ht.h
  obtain ⟨dst, op, ty, pos, after, guard⟩ := o
  -- an operation that leaves the world alone
  have same : ∀ (v : V) (z : Value), κ v c.h = some r → VR c v z → (execOp a.eval ⟨dst, op, ty, pos, after, guard⟩).run P c.w = .ok (.value z) c.w →
      (⟨dst, op, ty, pos, after, guard⟩ : Oper).wp P a c.w N Q := fun v z h1 h2 h3 => wp_val h3 (hN v c z h1 (Ext.refl c) hr h2)
  unfold opC0 at h
  split at h
  · rename_i x hop
    simp only at hop; subst hop
    rw [hσ] at h
    exact same _ _ h (ht.ev x) rfl
  · rename_i x hop
    simp only at hop; subst hop
    rw [hσ] at h
    split at h
    · -- an empty row of one's own
      split at h
      · split at h
        · split at h
          · rename_i l hl
            have hl0 : l.len = 0 := by
              unfold emptyRow at hl
              split at hl <;> simp at hl <;> subst hl <;> rfl
            obtain ⟨hE, hR, hV⟩ := push_row hr (l := l) (x := .slice none 0 0) (w' := c.w) (e := 0) (xs := []) (grown_self _ _) (by rw [hl0]; exact World.ownsRow_nil c.w 0 0 1) (fun b hb => by simp [blk] at hb) (fun c' _ j hj => by omega)
            exact wp_val (x := .slice none 0 0) (w' := (c.push (.row l) (.slice none 0 0) c.w).w) rfl (hN _ (c.push (.row l) (.slice none 0 0) c.w) _ h hE hR hV)
          · cases h
        · cases h
      · cases h
    · exact same _ _ h (ht.ev x) rfl
  · -- pick
    rename_i cc x y hop
    simp only at hop; subst hop
    rw [hσ] at h
    split at h
    · rename_i t hc
      have hcv := ht.ev cc
      rw [hc] at hcv
      have hcv := vr_bool hcv
      have hx := ht.ev x
      have hy := ht.ev y
      have hrun : (execOp a.eval ⟨dst, .pick cc x y, ty, pos, after, guard⟩).run P c.w = .ok (.value (if t then a.eval x else a.eval y)) c.w := by
        simp [execOp, hcv, asBool]
      split at h
      · rename_i bx by_ ex ey
        rw [ex] at hx; rw [ey] at hy
        have hx := vr_bool hx
        have hy := vr_bool hy
        refine same _ _ h ?_ hrun
        cases t
        · show (if false = true then a.eval x else a.eval y) = .bool (bif false then bx else by_)
          simp [hy]
        · show (if true = true then a.eval x else a.eval y) = .bool (bif true then bx else by_)
          simp [hx]
      · cases t with
        | true => exact same _ _ h (by simpa using hx) hrun
        | false => exact same _ _ h (by simpa using hy) hrun
    · cases h
  · -- binOp
    rename_i op' t x y yt hop
    simp only at hop; subst hop
    rw [hσ] at h
    obtain ⟨v, z, h1, h2, h3⟩ := bin_ok (P := P) (t := t) (ox := x) (oy := y) h (ht.ev x) (ht.ev y) (fun hb => by
      unfold descOf at hb
      split at hb
      · rename_i hd
        split at hd
        · rename_i i hi
          have := (hT.ok _ _ hi).1
          rw [hd] at this; exact this
        · cases hd
      · cases hb)
    refine same v z h1 h2 ?_
    show (do let x ← (do eqGuard op' t x y (a.eval x) (a.eval y); binOp op' t (a.eval x) (a.eval y) : Sem Value); pure (Next.value x) : Sem Next).run P c.w = _
    rw [Sem.run_bind, h3]; rfl
  · -- unOp
    rename_i op' t x hop
    simp only at hop; subst hop
    rw [hσ] at h
    obtain ⟨v, z, h1, h2, h3⟩ := un_ok (P := P) h (ht.ev x)
    exact same v z h1 h2 (by simp only [execOp, Sem.run_bind, h3, Result.andThen_ok, Sem.run_pure])
  · -- convert
    rename_i s d x hop
    simp only at hop; subst hop
    rw [hσ] at h
    split at h
    · rename_i e sz by_ z sz2 by2 z2 hts htd
      split at h
      · rename_i sz3 by3 z3 hte
        obtain ⟨u1, _⟩ := hT.ok _ _ hts
        obtain ⟨u2, _⟩ := hT.ok _ _ htd
        obtain ⟨u3, _⟩ := hT.ok _ _ hte
        obtain ⟨v, z, h1, h2, h3⟩ := toStr_ok (P := P) hr u1 u3 u2 h (ht.ev x)
        exact same v z h1 h2 (by simp only [execOp, Sem.run_bind, h3, Result.andThen_ok, Sem.run_pure])
      · cases h
    · obtain ⟨v, z, h1, h2, h3⟩ := conv_ok hT h (ht.ev x)
      exact same v z h1 h2 (by simp only [execOp, Sem.run_bind, h3, Result.andThen_ok, Sem.run_pure])
  · -- a byte of a text
    rename_i t x i hop
    simp only at hop; subst hop
    rw [hσ] at h
    split at h
    · rename_i sz by_ z ht0
      obtain ⟨u1, _⟩ := hT.ok _ _ ht0
      obtain ⟨v, z, h1, h2, h3⟩ := idxStr_ok (P := P) u1 h (ht.ev x) (ht.ev i)
      exact same v z h1 h2 (by simp only [execOp, Sem.run_bind, h3, Result.andThen_ok, Sem.run_pure])
    · cases h
  · -- extract
    rename_i t i hop
    simp only at hop; subst hop
    rw [hσ] at h
    split at h
    · rename_i vs hv
      obtain ⟨h1, h2⟩ := bif_some h
      have h1' : i < vs.length := of_decide_eq_true h1
      have hx := ht.ev t
      rw [hv] at hx
      obtain ⟨cs, e, hs, hall⟩ := hx
      refine same _ (cs.getD i undef) h2 (hall i h1').vr ?_
      have hlt : i < cs.size := by omega
      simp [execOp, e, Instr.extract, hlt]
    · cases h
  · -- nilCheck
    rename_i x hop
    simp only at hop; subst hop
    rw [hσ] at h
    split at h
    · rename_i id off hv
      have hx := ht.ev x
      rw [hv] at hx
      obtain ⟨hid, g, hg, e⟩ := (show VR0 c (.ptr id off) (a.eval x) from hx)
      exact same _ (a.eval x) h hx (by simp [execOp, e])
    · cases h
  · -- indexAddr
    rename_i t x i hop
    simp only at hop; subst hop
    rw [hσ] at h
    split at h
    · rename_i n e sz by_ z ht0
      split at h
      · rename_i d' by2 z' he
        split at h
        · rename_i id off kk k hx0 hi0
          obtain ⟨hk, h⟩ := bif_some h
          have hx := ht.ev x
          have hi := ht.ev i
          rw [hx0] at hx
          rw [hi0] at hi
          obtain ⟨hid, g, hg, e1⟩ := (show VR0 c (.ptr id off) (a.eval x) from hx)
          have e2 := vr_int hi
          obtain ⟨u1, _⟩ := hT.ok _ _ ht0
          obtain ⟨_, fi, hfi, hfs, _⟩ := hT.ok _ _ he
          simp only [idxOk, Bool.and_eq_true, decide_eq_true_eq] at hk
          refine same _ (.pointer (some ⟨g, off + k.toNat, none⟩)) h ⟨hid, hk, g, hg, rfl⟩ ?_
          have hfs1 : fi.size = 1 := hfs
          simp [execOp, Instr.indexAt, asIntOf, asInt, e1, e2, run_underlying u1, Instr.sureAddr, sizeOf, typeInfo, hfi, hfs1, hk.1, hk.2, add_none]
        · cases h
      · cases h
    · rename_i e sz by_ z ht0
      split at h
      · rename_i d' by2 z' he
        obtain ⟨v, z, h1, h2, h3⟩ := idx_ok hT hr ht0 rfl he rfl h (ht.ev x) (ht.ev i)
        exact same v z h1 h2 (by simp only [execOp, Sem.run_bind, h3, Result.andThen_ok, Sem.run_pure])
      · cases h
    · cases h
  · -- fieldAddr
    rename_i t x f hop
    simp only at hop; subst hop
    rw [hσ] at h
    split at h
    · rename_i fs sz by_ z id off htd hv
      split at h
      · rename_i fd hfd
        split at h
        · rename_i d' n' by2 z' hfd2
          have hx := ht.ev x
          rw [hv] at hx
          obtain ⟨hid, g, hg, e⟩ := (show VR0 c (.ptr id off) (a.eval x) from hx)
          obtain ⟨u1, _⟩ := hT.ok _ _ htd
          obtain ⟨_, fi, hfi, hfs, _⟩ := hT.ok _ _ hfd2
          refine same _ (.pointer (some ⟨g, off + fd.offset, none⟩)) h ⟨hid, g, hg, rfl⟩ ?_
          have hne : ¬ fi.size = 0 := by simp at hfs; omega
          simp [execOp, Instr.fieldAt, run_underlying u1, hfd, Instr.sureAddr, e, fieldPlace, sizeOf, typeInfo, hfi, hne, add_none]
        · cases h
      · cases h
    · cases h
  · -- load
    rename_i t p hop
    simp only at hop; subst hop
    rw [hσ] at h
    split at h
    · rename_i fs n by_ z htd
      obtain ⟨u1, fi, hfi, hfs, _⟩ := hT.ok _ _ htd
      obtain ⟨v, z, e1, e2, e3⟩ := loadAgg_ok (P := P) hr u1 hfi hfs h (ht.ev p)
      exact same v z e1 e2 (by simp only [execOp, Sem.run_bind, e3, Result.andThen_ok, Sem.run_pure])
    · rename_i m e n by_ z htd
      obtain ⟨u1, fi, hfi, hfs, _⟩ := hT.ok _ _ htd
      obtain ⟨v, z, e1, e2, e3⟩ := loadArr_ok (P := P) hr u1 hfi hfs h (ht.ev p)
      exact same v z e1 e2 (by simp only [execOp, Sem.run_bind, e3, Result.andThen_ok, Sem.run_pure])
    · rename_i i hi h1 h2
      obtain ⟨u1, _⟩ := hT.ok _ _ ‹TD t = some i›
      obtain ⟨v, z, e1, e2, e3⟩ := load_ok (P := P) hr u1 ⟨fun fs e => by obtain ⟨d, s, b, z⟩ := i; simp only at e; subst e; exact hi _ _ _ _ rfl, fun n e' e => by obtain ⟨d, s, b, z⟩ := i; simp only at e; subst e; exact h1 _ _ _ _ _ rfl⟩ h (ht.ev p)
      exact same v z e1 e2 (by simp only [execOp, Sem.run_bind, e3, Result.andThen_ok, Sem.run_pure])
    · cases h
  · -- store
    rename_i t p x hop
    simp only at hop; subst hop
    rw [hσ] at h
    split at h
    · rename_i fs n by_ z htd
      obtain ⟨_, fi, hfi, hfs, _⟩ := hT.ok _ _ htd
      obtain ⟨c', e1, e2, e3, e4⟩ := storeAgg_ok (P := P) hr hfi hfs h (ht.ev p) (ht.ev x)
      exact wp_skp (by simp only [execOp, Sem.run_bind, e4, Result.andThen_ok, Sem.run_pure]) (hN .junk c' undef e1 e2 e3 trivial)
    · rename_i d by_ z hns htd
      obtain ⟨_, fi, hfi, hfs, _⟩ := hT.ok _ _ htd
      have key : (σ.ev x).flat = true → storeF (σ.ev p) (σ.ev x) c.h (fun h => κ .junk h) = some r → (⟨dst, .store t p x, ty, pos, after, guard⟩ : Oper).wp P a c.w N Q := by
        intro hfl hst
        obtain ⟨c', e1, e2, e3, e4⟩ := storeF_ok (P := P) hr hfi hfs hfl hst (ht.ev p) (ht.ev x)
        exact wp_skp (by simp only [execOp, Sem.run_bind, e4, Result.andThen_ok, Sem.run_pure]) (hN .junk c' undef e1 e2 e3 trivial)
      split at h
      · cases h
      · cases h
      · cases h
      · rename_i n1 n2 n3
        refine key ?_ h
        cases hv : σ.ev x <;> first | rfl | exact absurd hv (n1 _) | exact absurd hv (n2 _) | exact absurd hv n3
    · cases h
  · -- slice
    rename_i t x lo hi hop
    simp only at hop; subst hop
    rw [hσ] at h
    split at h
    · rename_i e sz by_ z ht0
      split at h
      · rename_i d' by2 z' he
        obtain ⟨u1, _⟩ := hT.ok _ _ ht0
        obtain ⟨_, fi, hfi, hfs, _⟩ := hT.ok _ _ he
        obtain ⟨v, z, h1, h2, h3⟩ := slice_ok (P := P) hr u1 hfi hfs (ht.opt lo) (ht.opt hi) h (ht.ev x)
        exact same v z h1 h2 (by simp only [execOp, Option.map_none, Sem.run_bind, h3, Result.andThen_ok, Sem.run_pure])
      · cases h
    · rename_i sz by_ z ht0
      obtain ⟨u1, _⟩ := hT.ok _ _ ht0
      obtain ⟨v, z, h1, h2, h3⟩ := sliceStr_ok (P := P) u1 (ht.opt lo) (ht.opt hi) h (ht.ev x)
      exact same v z h1 h2 (by simp only [execOp, Option.map_none, Sem.run_bind, h3, Result.andThen_ok, Sem.run_pure])
    · cases h
  · -- buildSlice
    rename_i t n parts hop
    simp only at hop; subst hop
    rw [hσ] at h
    split at h
    · rename_i e sz by_ z ht0
      split at h
      · rename_i d by2 ze he
        obtain ⟨hc, h⟩ := bif_some h
        simp only [Bool.and_eq_true, decide_eq_true_eq] at hc
        obtain ⟨⟨⟨hc1, hc2⟩, hc3⟩, hc4⟩ := hc
        have hsz : parts.size = n := Nat.eq_of_beq_eq_true hc1
        obtain ⟨u1, _⟩ := hT.ok _ _ ht0
        obtain ⟨_, fi, hfi, hfs, hfb, hfz⟩ := hT.ok _ _ he
        have hzs : ze.cells.size = 1 := by cases ze <;> first | rfl | (simp [notAgg] at hc4)
        have hlen : (parts.toList.map fun p => σ.ev p.2).length = n := by simp [hsz]
        have hargs := ht.args (parts.toList.map (·.2))
        simp only [List.map_map] at hargs
        have hargs : ArgsR c (parts.toList.map fun p => σ.ev p.2) (parts.toList.map fun p => a.eval p.2) := hargs
        split at h
        · rename_i l hl
          obtain ⟨h1, h2⟩ := rowOf_ok hl
          rw [hlen] at h1 h2
          obtain ⟨c', x, e1, e2, e3, e4, e5⟩ := buildSlice_ok (P := P) hr u1 hfi hfs hfz hzs hc3 ht hsz hc2 h1
            (fun j hj x hx => by
              have := (atom_of_vr (h2 j hj) hx).2
              cases x <;> first | rfl | (simp [Value.oneCell'] at this)) (c1 := c) rfl hr (Ext.refl c)
            (fun j hj c' hE => hE.atom (atom_of_vr (h2 j hj) (hargs.2 j (by omega))).1)
          exact wp_val (by simp only [execOp, Sem.run_bind, e5, Result.andThen_ok, Sem.run_pure]) (hN _ c' x (by rw [e1]; exact h) e2 e3 e4)
        · split at h
          · split at h
            · rename_i xs h' hfr
              obtain ⟨c1, e1, e2, hE1, hR1, hxl, hrow⟩ := freeze_ok _ c _ _ _ hr hargs hfr
              rw [hlen] at hxl hrow
              obtain ⟨c', x, f1, f2, f3, f4, f5⟩ := buildSlice_ok (P := P) hr u1 hfi hfs hfz hzs hc3 ht hsz hc2 (l := .rows xs) hxl
                (fun j hj x hx => by
                  have hj' : j < parts.toList.length := by simpa [hsz] using hj
                  have hv : (parts.toList.map fun p => σ.ev p.2).getD j .junk = σ.ev parts.toList[j].2 := by
                    have hj2 : j < parts.size := by omega
                    simp [List.getD, hj2]
                  have hflat := freeze_flat _ _ _ _ hfr j (by omega)
                  exact (flat_one hr hflat hx).2.2) e2 hR1 hE1
                (fun j hj c' hE => hE.rowV (hrow j hj))
              exact wp_val (by simp only [execOp, Sem.run_bind, f5, Result.andThen_ok, Sem.run_pure]) (hN _ c' x (by rw [f1, e1]; exact h) f2 f3 (by rw [← e1]; exact f4))
            · cases h
          · cases h
      · cases h
    · cases h
  · -- makeSlice
    rename_i t l cp hop
    simp only at hop; subst hop
    rw [hσ] at h
    split at h
    · rename_i e sz by_ z n ht0 hn
      split at h
      · rename_i d b ze he
        obtain ⟨hc, h⟩ := bif_some h
        simp only [Bool.and_eq_true, decide_eq_true_eq] at hc
        obtain ⟨⟨⟨⟨hc1, hc2⟩, hc3⟩, hc4⟩, hc5⟩ := hc
        obtain ⟨u1, _⟩ := hT.ok _ _ ht0
        obtain ⟨_, fi, hfi, hfs, hfb, hfz⟩ := hT.ok _ _ he
        have hx := ht.ev l
        rw [hn] at hx
        have hx := vr_int hx
        obtain ⟨kc, hcx⟩ := same_operand hc1 hx
        obtain ⟨m, rfl⟩ := Int.eq_ofNat_of_zero_le hc3
        split at h
        · rename_i l hl
          obtain ⟨c', x, e1, e2, e3, e4, e5⟩ := make_ok (P := P) hr u1 hfi hfs (by rw [hfb]; exact hc2) hfz hc5 (n := m) (l := l) (by simpa using hl) (by have := of_decide_eq_true hc4; simpa using this) (kl := .i64) (kc := kc)
          exact wp_val (by simp only [execOp, hx, hcx, Sem.run_bind, e5, Result.andThen_ok, Sem.run_pure]) (hN _ c' x (by rw [e1]; exact h) e2 e3 e4)
        · cases h
      · cases h
    · cases h
  · -- box
    rename_i t x hop
    simp only at hop; subst hop
    rw [hσ] at h
    have hx := ht.ev x
    have one : (σ.ev x).flat = true → κ (.ptr c.h.length 0) (c.h ++ [.cells [σ.ev x]]) = some r → (⟨dst, .box t x, ty, pos, after, guard⟩ : Oper).wp P a c.w N Q := by
      intro hfl hk
      obtain ⟨hv0, _, hcells⟩ := flat_one hr hfl hx
      obtain ⟨hE, hR, hV⟩ := push_cells hr (vs := [σ.ev x]) (xs := #[a.eval x]) rfl (fun j hj => by
        have : j = 0 := by simpa using hj
        subst this; simpa using hv0) t
      exact wp_val (w' := c.w.alloc (.cells #[a.eval x] t)) (by simp [execOp, Instr.box, newVar, newRow, hcells]) (hN _ _ _ hk hE hR hV)
    split at h
    · rename_i vs hv
      obtain ⟨h1, h2⟩ := bif_some h
      rw [hv] at hx
      obtain ⟨cs, e, hs, hall⟩ := (show VR1 c (.agg vs) (a.eval x) from hx)
      obtain ⟨hE, hR, hV⟩ := push_cells hr (vs := vs) (xs := cs) hs hall t
      exact wp_val (w' := c.w.alloc (.cells cs t)) (by simp [execOp, Instr.box, newVar, newRow, e, Value.cells]) (hN _ _ _ h2 hE hR hV)
    · cases h
    · cases h
    · rename_i n1 n2 n3
      refine one ?_ h
      cases hv : σ.ev x <;> first | rfl | exact absurd hv (n1 _) | exact absurd hv (n2 _) | exact absurd hv n3
  · -- build
    rename_i t parts hop
    simp only at hop; subst hop
    rw [hσ] at h
    split at h
    · rename_i fs sz by_ z ht0
      split at h
      · rename_i zs hz
        cases hcc : buildOk TD fs parts zs.length σ.ev with
        | true =>
          rw [hcc, cond_true] at h
          have hc := hcc
          simp only [buildOk, Bool.and_eq_true] at hc
          obtain ⟨hc1, hc2⟩ := hc
          obtain ⟨u1, fi, hfi, hfs, hfb, hfz⟩ := hT.ok _ _ ht0
          obtain ⟨cs, rfl, rfl⟩ := ofZero_agg hz
          have hsize : ∀ f ∈ fs.toList, ∃ g, P.info? f.type = some g ∧ g.size = (match TD f.type with | some i => i.size | none => 0) := fun f hf => by
            have := (Array.all_eq_true_iff_forall_mem.1 hc1) f (by simpa using hf)
            cases hi : TD f.type with
            | none => rw [hi] at this; cases this
            | some i =>
              obtain ⟨_, g, h1, h2, _⟩ := hT.ok _ _ hi
              exact ⟨g, h1, h2⟩
          have hpart : ∀ p ∈ parts.toList, ∃ fd, fs[p.1]? = some fd ∧ (match TD fd.type with | some i => i.size | none => 0) = 1 ∧ fd.offset < cs.size ∧ (σ.ev p.2).flat = true := fun p hp => by
            have := (Array.all_eq_true_iff_forall_mem.1 hc2) p (by simpa using hp)
            cases hfd : fs[p.1]? with
            | none => rw [hfd] at this; cases this
            | some fd =>
              rw [hfd] at this
              simp only [Bool.and_eq_true, decide_eq_true_eq, List.length_map, Array.length_toList] at this
              obtain ⟨⟨h1, h2⟩, h3⟩ := this
              obtain ⟨ti, hi1, hi2⟩ := size_one h1
              exact ⟨fd, rfl, by rw [hi1]; exact hi2, h2, h3⟩
          have hrun := run_build (P := P) (w := c.w) (ps := parts.map fun (i, x) => (i, a.eval x)) (size := fun t => match TD t with | some i => i.size | none => 0) u1 hfi hfz hsize (fun p hp => by
            simp only [Array.toList_map, List.mem_map] at hp
            obtain ⟨q, hq, rfl⟩ := hp
            obtain ⟨fd, h1, h2, h3, h4⟩ := hpart q hq
            exact ⟨fd, h1, h2, h3, (flat_one hr h4 (ht.ev q.2)).2.2⟩)
          have hrun' : (execOp a.eval ⟨dst, .build t parts, ty, pos, after, guard⟩).run P c.w = .ok (.value (.agg ((parts.map fun (i, x) => (i, a.eval x)).toList.foldl (fun acc p => match fs[p.1]? with | some fd => acc.setIfInBounds fd.offset p.2 | none => acc) cs))) c.w := by
            show (do let v ← Instr.build t (parts.map fun (i, x) => (i, a.eval x)); pure (Next.value v) : Sem Next).run P c.w = _
            rw [Sem.run_bind, hrun]; rfl
          refine same _ _ h ?_ hrun'
          -- the fields belong together
          have key : ∀ (ps : List (Nat × Operand)) (vs : List V) (xs : Array Value), (∀ p ∈ ps, (σ.ev p.2).flat = true) → xs.size = vs.length → (∀ j, j < vs.length → VR0 c (vs.getD j .junk) (xs.getD j undef)) →
              VR c (.agg (ps.foldl (fun acc p => match fs[p.1]? with | some fd => acc.set fd.offset (σ.ev p.2) | none => acc) vs))
                (.agg ((ps.map fun p => (p.1, a.eval p.2)).foldl (fun acc p => match fs[p.1]? with | some fd => acc.setIfInBounds fd.offset p.2 | none => acc) xs)) := by
            intro ps
            induction ps with
            | nil => intro vs xs _ h1 h2; exact ⟨xs, rfl, h1, h2⟩
            | cons p ps ih =>
              intro vs xs h0 h1 h2
              simp only [List.foldl_cons, List.map_cons]
              have h0' : ∀ q ∈ ps, (σ.ev q.2).flat = true := fun q hq => h0 q (by simp [hq])
              cases hfd : fs[p.1]? with
              | none => exact ih _ _ h0' h1 h2
              | some fd =>
                refine ih _ _ h0' (by simpa using h1) (fun j hj => ?_)
                have hj' : j < vs.length := by simpa using hj
                have hv := (flat_one hr (h0 p (by simp)) (ht.ev p.2)).1
                by_cases hjo : fd.offset = j
                · subst hjo
                  have e1 : (vs.set fd.offset (σ.ev p.2)).getD fd.offset .junk = σ.ev p.2 := by simp [List.getD, hj']
                  have e2 : (xs.setIfInBounds fd.offset (a.eval p.2)).getD fd.offset undef = a.eval p.2 := by
                    have : fd.offset < xs.size := by omega
                    simp [this]
                  rw [e1, e2]; exact hv
                · have e1 : (vs.set fd.offset (σ.ev p.2)).getD j .junk = vs.getD j .junk := by simp [List.getD, hjo]
                  have e2 : (xs.setIfInBounds fd.offset (a.eval p.2)).getD j undef = xs.getD j undef := by simp [Array.getElem?_setIfInBounds_ne hjo]
                  rw [e1, e2]; exact h2 j hj'
          have hl : (parts.map fun (i, x) => (i, a.eval x)).toList = parts.toList.map fun p => (p.1, a.eval p.2) := by simp
          rw [hl]
          exact key parts.toList _ _ (fun p hp => (hpart p hp).choose_spec.2.2.2) (by simp) (fun j hj => by
            have hj' : j < cs.size := by simpa using hj
            have e1 : (cs.toList.map ofConst).getD j .junk = ofConst cs[j] := by simp [List.getD, hj']
            have e2 : cs.getD j undef = cs[j] := by simp [hj']
            rw [e1, e2]; exact vr0_const c _)
        | false =>
          rw [hcc, cond_false] at h
          unfold buildA at h
          split at h
          · rename_i p hps
            split at h
            · rename_i fd ws hfd hws
              obtain ⟨hc, h⟩ := bif_some h
              simp only [Bool.and_eq_true, decide_eq_true_eq] at hc
              obtain ⟨⟨hc1, hc2⟩, hc3⟩ := hc
              obtain ⟨u1, fi, hfi, hfs, hfb, hfz⟩ := hT.ok _ _ ht0
              obtain ⟨cs, rfl, rfl⟩ := ofZero_agg hz
              have hsize : ∀ f ∈ fs.toList, ∃ g, P.info? f.type = some g ∧ g.size = (match TD f.type with | some i => i.size | none => 0) := fun f hf => by
                have := (Array.all_eq_true_iff_forall_mem.1 hc1) f (by simpa using hf)
                cases hi : TD f.type with
                | none => rw [hi] at this; cases this
                | some i =>
                  obtain ⟨_, g, h1, h2, _⟩ := hT.ok _ _ hi
                  exact ⟨g, h1, h2⟩
              have hx := ht.ev p.2
              rw [hws] at hx
              obtain ⟨xs, hxe, hxs, hxa⟩ := (show VR1 c (.agg ws) (a.eval p.2) from hx)
              have hsz : (match TD fd.type with | some i => i.size | none => 0) = xs.size := by
                unfold sizeIs at hc2
                cases hi : TD fd.type with
                | none => rw [hi] at hc2; cases hc2
                | some i => rw [hi] at hc2; rw [hxs]; exact Nat.eq_of_beq_eq_true hc2
              have hpa : parts.map (fun (i, x) => (i, a.eval x)) = #[(p.1, Value.agg xs)] := by
                apply Array.ext'
                simp [hps, hxe]
              have hlen : (cs.toList.map ofConst).length = cs.size := by simp
              have hrun := run_buildA (P := P) (w := c.w) (size := fun t => match TD t with | some i => i.size | none => 0) u1 hfi hfz hsize hfd hsz (by omega)
              refine same _ (.agg (cs.toList.take fd.offset ++ (xs.toList ++ cs.toList.drop (fd.offset + xs.size))).toArray) h ⟨_, rfl, ?_, fun j hj => ?_⟩ ?_
              · simp only [List.size_toArray, List.length_append, List.length_take, List.length_drop, List.length_map, Array.length_toList]; omega
              · have hx6 : ∀ (l1 l2 l3 : List V) (m1 m2 m3 : List Value), l1.length = m1.length → l2.length = m2.length → (∀ j, j < l1.length → VR0 c (l1.getD j .junk) (m1.getD j undef)) → (∀ j, j < l2.length → VR0 c (l2.getD j .junk) (m2.getD j undef)) → (∀ j, j < l3.length → VR0 c (l3.getD j .junk) (m3.getD j undef)) → ∀ j, j < (l1 ++ (l2 ++ l3)).length → VR0 c ((l1 ++ (l2 ++ l3)).getD j .junk) ((m1 ++ (m2 ++ m3)).getD j undef) := by
                  intro l1 l2 l3 m1 m2 m3 e1 e2 a1 a2 a3 j hj
                  simp only [List.getD_eq_getElem?_getD] at a1 a2 a3 ⊢
                  by_cases h1 : j < l1.length
                  · rw [List.getElem?_append_left (l₁ := l1) h1, List.getElem?_append_left (l₁ := m1) (by omega)]; exact a1 j h1
                  · rw [List.getElem?_append_right (l₁ := l1) (by omega), List.getElem?_append_right (l₁ := m1) (by omega), e1]
                    by_cases h2 : j - m1.length < l2.length
                    · rw [List.getElem?_append_left (l₁ := l2) h2, List.getElem?_append_left (l₁ := m2) (by omega)]; exact a2 _ h2
                    · rw [List.getElem?_append_right (l₁ := l2) (by omega), List.getElem?_append_right (l₁ := m2) (by omega), e2]
                      simp only [List.length_append] at hj
                      exact a3 _ (by omega)
                have hcst : ∀ j, j < cs.size → VR0 c ((cs.toList.map ofConst).getD j .junk) (cs.toList.getD j undef) := fun j hj => by
                  have e1 : (cs.toList.map ofConst).getD j .junk = ofConst cs[j] := by simp [List.getD, hj]
                  have e2 : cs.toList.getD j undef = cs[j] := by simp [List.getD, hj]
                  rw [e1, e2]; exact vr0_const c _
                have := hx6 ((cs.toList.map ofConst).take fd.offset) ws ((cs.toList.map ofConst).drop (fd.offset + ws.length)) (cs.toList.take fd.offset) xs.toList (cs.toList.drop (fd.offset + xs.size)) (by simp) (by simp [hxs]) (fun j hj => ?_) (fun j hj => ?_) (fun j hj => ?_) j hj
                · simpa [Array.getD_eq_getD_getElem?, List.getD_eq_getElem?_getD] using this
                · simp only [List.length_take, List.length_map, Array.length_toList] at hj
                  simp only [List.getD_eq_getElem?_getD, List.getElem?_take, show j < fd.offset by omega, if_true]
                  simpa only [List.getD_eq_getElem?_getD] using hcst j (by omega)
                · have := hxa j hj
                  simpa [Array.getD_eq_getD_getElem?, List.getD_eq_getElem?_getD] using this
                · simp only [List.length_drop, List.length_map, Array.length_toList] at hj
                  simp only [List.getD_eq_getElem?_getD, List.getElem?_drop, hxs]
                  simpa only [List.getD_eq_getElem?_getD] using hcst (fd.offset + ws.length + j) (by omega)
              · show (do let v ← Instr.build t (parts.map fun (i, x) => (i, a.eval x)); pure (Next.value v) : Sem Next).run P c.w = _
                rw [hpa, Sem.run_bind, hrun]; rfl
            · cases h
          · cases h
      · cases h
    · cases h
  · -- alloc
    rename_i t hop
    simp only at hop; subst hop
    rw [hσ] at h
    split at h
    · rename_i d sz by_ z htd
      obtain ⟨_, fi, hfi, hfs, hfb, hfz⟩ := hT.ok _ _ htd
      have hrun : ∀ cs : Array Value, z.cells = cs → (execOp a.eval ⟨dst, .alloc t, ty, pos, after, guard⟩).run P c.w = .ok (.value (.pointer (some ⟨c.w.heap.size, 0, none⟩))) (c.w.alloc (.cells cs t)) := by
        intro cs hcs
        have hz : (zeroValue t).run P c.w = .ok z c.w := by simp [zeroValue, typeInfo, hfi, hfz]
        simp [execOp, Instr.alloc, hz, newVar, newRow, hcs]
      split at h
      · rename_i vs hz
        obtain ⟨h1, h2⟩ := bif_some h
        obtain ⟨cs, rfl, rfl⟩ := ofZero_agg hz
        obtain ⟨hE, hR, hV⟩ := push_cells hr (vs := cs.toList.map ofConst) (xs := cs) (by simp) (fun j hj => by
          have hj' : j < cs.size := by simpa using hj
          have e1 : (cs.toList.map ofConst).getD j .junk = ofConst cs[j] := by simp [List.getD, hj']
          have e2 : cs.getD j undef = cs[j] := by simp [hj']
          rw [e1, e2]; exact vr0_const c _) t
        exact wp_val (w' := c.w.alloc (.cells cs t)) (hrun cs rfl) (hN _ _ _ h2 hE hR hV)
      · cases h
      · cases h
      · rename_i n1 n2 n3
        have hzc : ofZero z = ofConst z := by
          cases z <;> first | rfl | exact absurd rfl (n1 _)
        have hfl : (ofZero z).flat = true := by
          cases hv : ofZero z <;> first | rfl | exact absurd hv (n1 _) | exact absurd hv (n2 _) | exact absurd hv n3
        have hx : VR c (ofZero z) z := by rw [hzc]; exact vr_const c z
        obtain ⟨hv0, _, hcells⟩ := flat_one hr hfl hx
        obtain ⟨hE, hR, hV⟩ := push_cells hr (vs := [ofZero z]) (xs := #[z]) rfl (fun j hj => by
          have : j = 0 := by simpa using hj
          subst this; simpa using hv0) t
        exact wp_val (w' := c.w.alloc (.cells #[z] t)) (hrun #[z] hcells) (hN _ _ _ h hE hR hV)
    · cases h
  · -- field
    rename_i t x f hop
    simp only at hop; subst hop
    rw [hσ] at h
    split at h
    · rename_i fs sz by_ z vs htd hv
      split at h
      · rename_i fd hfd
        split at h
        · cases h
        · cases h
        · rename_i i n1 n2 hfd2
          obtain ⟨h1, h2⟩ := bif_some h
          have h1' : fd.offset < vs.length := of_decide_eq_true h1
          have hx := ht.ev x
          rw [hv] at hx
          obtain ⟨cs, e, hs, hall⟩ := (show VR1 c (.agg vs) (a.eval x) from hx)
          obtain ⟨u1, _⟩ := hT.ok _ _ htd
          obtain ⟨u2, _⟩ := hT.ok _ _ hfd2
          refine same _ (cs.getD fd.offset undef) h2 (hall _ h1').vr ?_
          have hagg : (isAgg fd.type).run P c.w = .ok false c.w := by
            obtain ⟨d, s, b, z⟩ := i
            simp only at u2
            simp only [isAgg, Sem.run_bind, run_underlying u2, Result.andThen_ok]
            cases d <;> first | rfl | exact (n1 _ _ _ _ rfl).elim | exact (n2 _ _ _ _ _ rfl).elim
          have hlt : fd.offset < cs.size := by omega
          simp [execOp, Instr.field, run_underlying u1, hfd, e, asAgg, part, hagg, hlt]
        · cases h
      · cases h
    · cases h
  · -- call
    rename_i cl hop
    simp only at hop; subst hop
    rw [hσ] at h
    obtain ⟨callee, cargs, cats⟩ := cl
    simp only at h
    split at h
    · -- len
      split at h
      · rename_i x t hx1 ht1
        have ea : cargs = #[x] := Array.toList_inj.1 hx1
        have et : cats = #[t] := Array.toList_inj.1 ht1
        subst ea; subst et
        split at h
        · rename_i e sz by_ z ht0
          obtain ⟨u1, _⟩ := hT.ok _ _ ht0
          obtain ⟨v, z, h1, h2, h3⟩ := len_ok (P := P) (ty := ty) hr u1 h (ht.ev x)
          refine same v z h1 h2 ?_
          simp only [execOp, resolve, invoke, builtin, Sem.run_bind, Sem.run_pure, Result.andThen_ok, List.map_toArray, List.map_cons, List.map_nil, h3]
        · rename_i sz by_ z ht0
          obtain ⟨u1, _⟩ := hT.ok _ _ ht0
          obtain ⟨v, z, h1, h2, h3⟩ := lenStr_ok (P := P) (ty := ty) u1 h (ht.ev x)
          refine same v z h1 h2 ?_
          simp only [execOp, resolve, invoke, builtin, Sem.run_bind, Sem.run_pure, Result.andThen_ok, List.map_toArray, List.map_cons, List.map_nil, h3]
        · cases h
      · cases h
    · -- min
      split at h
      · rename_i x rest hxs
        have hargs := ht.args cargs.toList
        rw [hxs] at hargs
        obtain ⟨y, ys, hy, hxy, hrest⟩ := hargs.tail
        obtain ⟨v, z, h1, h2, h3⟩ := minmax_ok (P := P) (mx := false) rest x y ys h hxy hrest
        refine same v z h1 h2 ?_
        have hl : (cargs.map a.eval).toList = y :: ys := by rw [← hy]; simp
        simp only [Bool.false_eq_true, if_false] at h3
        simp only [execOp, resolve, invoke, builtin, Builtin.min_, hl, Sem.run_bind, Sem.run_pure, Result.andThen_ok, h3]
      · cases h
    · -- max
      split at h
      · rename_i x rest hxs
        have hargs := ht.args cargs.toList
        rw [hxs] at hargs
        obtain ⟨y, ys, hy, hxy, hrest⟩ := hargs.tail
        obtain ⟨v, z, h1, h2, h3⟩ := minmax_ok (P := P) (mx := true) rest x y ys h hxy hrest
        refine same v z h1 h2 ?_
        have hl : (cargs.map a.eval).toList = y :: ys := by rw [← hy]; simp
        simp only [if_true] at h3
        simp only [execOp, resolve, invoke, builtin, Builtin.max_, hl, Sem.run_bind, Sem.run_pure, Result.andThen_ok, h3]
      · cases h
    · -- append
      split at h
      · rename_i s x t u hx1 ht1
        have ea : cargs = #[s, x] := Array.toList_inj.1 hx1
        have et : cats = #[t, u] := Array.toList_inj.1 ht1
        subst ea; subst et
        have hh := bif_some h
        clear h
        obtain ⟨htu, h⟩ := hh
        have htu := Nat.eq_of_beq_eq_true htu
        subst htu
        split at h
        · rename_i e sz by_ z ht0
          split at h
          · rename_i d b ze he
            obtain ⟨hc, h⟩ := bif_some h
            simp only [Bool.and_eq_true, decide_eq_true_eq] at hc
            obtain ⟨u1, _⟩ := hT.ok _ _ ht0
            obtain ⟨_, fi, hfi, hfs, hfb, hfz⟩ := hT.ok _ _ he
            have hzs : ze.cells.size = 1 := by cases ze <;> first | rfl | (simp [notAgg] at hc)
            obtain ⟨v, c', y, h1, h2, h3, h4, h5⟩ := app_ok (P := P) (ty := ty) hr u1 hfi hfz hfs (by rw [hfb]; exact hc.1) hzs h (ht.ev s) (ht.ev x)
            refine wp_val (w' := c'.w) ?_ (hN v c' y h1 h2 h3 h4)
            simp only [execOp, resolve, invoke, builtin, Sem.run_bind, Sem.run_pure, Result.andThen_ok, List.map_toArray, List.map_cons, List.map_nil, h5]
          · cases h
        · cases h
      · cases h
    · -- a function
      rename_i f
      obtain ⟨fn, hf, hb, hn⟩ := hK.fn _ _ _ _ _ h
      have hcalls := hK.ok _ _ _ _ _ h c (cargs.map a.eval) rfl hr (by simpa using ht.args cargs.toList)
      unfold Oper.wp
      have hrun : (execOp a.eval ⟨dst, .call ⟨.value (.func f), cargs, cats⟩, ty, pos, after, guard⟩).run P c.w = .ok (.enter f (cargs.map a.eval)) c.w := by
        have hn' : ¬ fn.name = "runtime.NumGoroutine" := by simpa using hn
        have hb' : ¬ fn.body = none := by intro e; rw [e] at hb; cases hb
        simp [execOp, resolve, Act.eval, Deferred.ofValue, invoke, callFunc, hf, hb', hn']
      rw [hrun]
      refine hcalls.mono fun e w' ⟨x, v, c', h1, h2, h3, h4, h5, h6⟩ => ?_
      subst h1; subst h6
      exact hN v c' x h2 h3 h4 h5
    · cases h
  · cases h
theorem opC_wp {P : Program} {TD : TypeId → Option TI} {K : FuncId → List V → List E → (V → List E → R) → R} (hT : TyOk P TD) (hK : KOk P K) {o : Oper} {σ : St} {a : Act} {c : Cx} {κ : V → List E → R} {r : V × List E}
    (h : opC TD K o σ κ = some r) (hr : Rel c) (ht : RelT c σ a) {N : Act → World → Prop} {Q : Exit → Act → World → Prop}
    (hN : ∀ v c' x, κ v c'.h = some r → Ext c c' → Rel c' → VR c' v x → N (a.put o.dst x) c'.w) : o.wp P a c.w N Q := by
  unfold opC at h
  cases hR : opR TD o σ with
  | some f => rw [hR] at h; exact opR_wp hT hR h hr ht hN
  | none => rw [hR] at h; exact opC0_wp hT hK h hr ht hN

end Go.Proofs.Ytgpgifpblchjjaa.D
/- Regions and code of the small machine. Conditions: those of each theorem. -/
namespace Go.Proofs.Ytgpgifpblchjjaa.D
open Go.RowKit
set_option linter.unusedVariables false
set_option linter.unusedSimpArgs false

theorem RelT.known {c : Cx} {σ : St} {a : Act} (h : RelT c σ a) {t : Nat} {b : Bool} (hb : getT σ.t t = .bool b) : RelT c (σ.put (some t) (.bool b)) a ∧ a.tmps[t]? = some (.bool b) := by
  have h1 := h.t t
  rw [hb] at h1
  have h2 := vr_bool h1
  have h3 : a.tmps[t]? = some (.bool b) := by
    cases ht : a.tmps[t]? with
    | none => simp [ht] at h2; cases h2
    | some v => simp [ht] at h2; rw [h2]
  refine ⟨?_, h3⟩
  have hp := h.put (v := .bool b) (x := .bool b) (show VR c _ _ from rfl) (some t)
  have : a.put (some t) (.bool b) = a := by
    show ({ a with tmps := a.tmps.setIfInBounds t (.bool b) } : Act) = a
    have hlt : t < a.tmps.size := (Array.getElem?_eq_some_iff.1 h3).1
    have e : a.tmps.setIfInBounds t (.bool b) = a.tmps := by
      apply Array.ext_getElem?
      intro i
      by_cases hi : t = i
      · subst hi; simp [hlt, h3]
        have := Array.getElem?_eq_some_iff.1 h3
        exact this.2.symm
      · rw [Array.getElem?_setIfInBounds_ne hi]
    rw [e]
  rw [this] at hp
  exact hp

section
variable {P : Program} {TD : TypeId → Option TI} {K : FuncId → List V → List E → (V → List E → R) → R}

/-- What a guard says. -/
theorem guard_ok {ops : Array Oper} {c : Cx} {σ : St} {a : Act} (ht : RelT c σ a) {o : Oper} {j : Nat} {want b : Bool} {t : Nat} (hg : o.guard = some (j, want)) (hj : (ops[j]?).bind (·.dst) = some t) (hb : getT σ.t t = .bool b) :
    Region.wanted o (yielded ops a.tmps) = (b == want) := by
  obtain ⟨_, h3⟩ := ht.known hb
  unfold Region.wanted
  rw [hg]
  have : yielded ops a.tmps j = some b := by
    unfold yielded
    simp [hj, h3]
  simp [this]

theorem vr_undef {c : Cx} : VR c (.tup []) undef := ⟨#[], rfl, rfl, fun j hj => absurd hj (Nat.not_lt_zero _)⟩
theorem guard_no {ops : Array Oper} {c : Cx} {σ : St} {a : Act} (ht : RelT c σ a) {o : Oper} {j : Nat} {want : Bool} {t : Nat} (hg : o.guard = some (j, want)) (hj : (ops[j]?).bind (·.dst) = some t) (hb : getT σ.t t = .tup []) :
    Region.wanted o (yielded ops a.tmps) = false := by
  have h := ht.t t
  rw [hb] at h
  obtain ⟨cs, h1, h2, _⟩ := h
  unfold Region.wanted
  rw [hg]
  have : yielded ops a.tmps j = none := by
    unfold yielded
    rw [hj]
    simp only [Option.bind_some]
    cases hx : a.tmps[t]? with
    | none => rfl
    | some x =>
      have : a.tmps.getD t undef = x := by simp [Array.getD_eq_getD_getElem?, hx]
      rw [this] at h1
      subst h1
      rfl
  simp [this]

theorem opsC_wp (hT : TyOk P TD) (hK : KOk P K) {ops : Array Oper} {Q : Exit → Act → World → Prop} {r : V × List E} {κ : St → R} (c0 : Cx) : ∀ (is : List Nat), (∀ i ∈ is, i < ops.size) → ∀ (σ : St) (a : Act) (c : Cx),
    opsC TD K ops (is.map fun i => ops.getD i default) σ κ = some r → Ext c0 c → Rel c → RelT c σ a →
    (∀ σ' c' a', κ σ' = some r → Ext c0 c' → Rel c' → RelT c' σ' a' → Q .normal a' c'.w) → wpOps P ops Q is a c.w := by
  intro is
  induction is with
  | nil => intro _ σ a c h hE hr ht hQ; exact hQ σ c a h hE hr ht
  | cons i is ih =>
    intro hi σ a c h hE hr ht hQ
    have hlt := hi i (by simp)
    have hget : ops[i]? = some (ops.getD i default) := by simp [hlt]
    have ih' := ih (fun j hj => hi j (by simp [hj]))
    simp only [List.map_cons] at h
    generalize ops.getD i default = o at h hget
    unfold wpOps
    simp only [hget]
    -- the operation is carried out
    have run : ∀ (σ1 : St), RelT c σ1 a → opC TD K o σ1 (fun v h => opsC TD K ops (is.map fun i => ops.getD i default) (St.put { σ1 with h } o.dst v) κ) = some r →
        o.wp P a c.w (wpOps P ops Q is) Q := by
      intro σ1 ht1 h1
      refine opC_wp hT hK h1 hr ht1 (fun v c' x hk hE' hr' hv => ?_)
      exact ih' _ _ _ hk (hE.trans hE') hr' ((ht1.ext hE').put hv o.dst) hQ
    unfold opsC at h
    split at h
    · rename_i hg
      have hw : Region.wanted o (yielded ops a.tmps) = true := by unfold Region.wanted; rw [hg]
      rw [hw, if_pos rfl]
      exact .inl (run σ ht h)
    · rename_i j want hg
      split at h
      · rename_i t hj
        split at h
        · rename_i b hb
          rw [guard_ok ht hg hj hb]
          have hk := (ht.known hb).1
          cases b with
          | true =>
            rw [cond_true] at h
            cases want with
            | true => rw [cond_true] at h; rw [if_pos (by rfl)]; exact .inl (run _ hk h)
            | false =>
              rw [cond_false] at h
              rw [if_neg (by decide)]
              exact ih' _ _ _ h hE hr (hk.put vr_undef o.dst) hQ
          | false =>
            rw [cond_false] at h
            cases want with
            | true =>
              rw [cond_true] at h
              rw [if_neg (by decide)]
              exact ih' _ _ _ h hE hr (hk.put vr_undef o.dst) hQ
            | false => rw [cond_false] at h; rw [if_pos (by rfl)]; exact .inl (run _ hk h)
        · rename_i hb
          rw [guard_no ht hg hj hb, if_neg (by decide)]
          exact ih' _ _ _ h hE hr (ht.put vr_undef o.dst) hQ
        · cases h
      · cases h

/-- An exit as the model has it. -/
def X.exit_ : X → Exit
  | .normal => .normal
  | .exit id => .exit id
  | .ret => .ret

/-- A region whose order is drawn. -/
def DrawOk (P : Program) (TD : TypeId → Option TI) (K : FuncId → List V → List E → (V → List E → R) → R) (drawOk : Array Oper → Option (List (Nat × Nat))) : Prop :=
  ∀ (ops : Array Oper) (Q : Exit → Act → World → Prop) (r : V × List E) (κ : St → R) (c0 : Cx) (σ : St) (a : Act) (c : Cx) (id : Nat) (need : List (Nat × Nat)), drawOk ops = some need →
    (need = [] → opsC TD K ops ops.toList σ κ = some r) → (need ≠ [] → opsM TD K need ops 0 ops.toList σ κ = some r) → Ext c0 c → Rel c → RelT c σ a →
    (∀ σ' c' a', κ σ' = some r → Ext c0 c' → Rel c' → RelT c' σ' a' → Q .normal a' c'.w) → (Code.region id ops true).wp P Q a c.w

theorem toList_range (ops : Array Oper) : ops.toList = (List.range ops.size).map fun i => ops.getD i default := by
  apply List.ext_getElem?
  intro j
  by_cases hj : j < ops.size
  · simp [hj]
  · simp [hj]

end

/-! What stays of a state. -/

/-- The blocks of a context under other numbers. -/
def Cx.pick (c : Cx) (ids : List Nat) : Cx := ⟨c.F, ids.map fun i => (getE c.h i).re ids, fun j => c.hv (ids.getD j 0), c.w⟩

theorem re_some {ids : List Nat} {i j : Nat} (h : reName ids i = some j) : j < ids.length ∧ ids.getD j 0 = i := by
  unfold reName at h
  have := List.idxOf?_eq_some_iff.1 h
  obtain ⟨h1, h2, _⟩ := this
  exact ⟨h1, by simp [List.getD, h1]; exact h2⟩

theorem pick_get (c : Cx) (ids : List Nat) {j : Nat} (hj : j < ids.length) : getE (c.pick ids).h j = (getE c.h (ids.getD j 0)).re ids := by
  simp [Cx.pick, getE, List.getD, hj]
theorem E.re_alive (e : E) (ids : List Nat) : (e.re ids).alive = e.alive := by cases e <;> rfl

theorem pick_U {c : Cx} {ids : List Nat} {b : Nat} (h : (c.pick ids).U b) : c.U b := by
  obtain ⟨j, ha, hb⟩ := h
  have hj : j < ids.length := by have := alive_lt ha; simpa [Cx.pick] using this
  rw [pick_get c ids hj, E.re_alive] at ha
  exact ⟨_, ha, hb⟩

theorem pick_rowV {c : Cx} {ids : List Nat} {xs : List Int} {v : Value} (h : RowV c xs v) : RowV (c.pick ids) xs v := by
  obtain ⟨a, cap, rfl, hc, h0⟩ := h
  refine ⟨a, cap, rfl, hc, ?_⟩
  rcases h0 with h0 | ⟨b, off, ha, hF, hU, hcell⟩
  · exact .inl h0
  · exact .inr ⟨b, off, ha, hF, fun hu => hU (pick_U hu), hcell⟩
theorem pick_atom {c : Cx} {ids : List Nat} {a : Atom} {v : Value} (h : AtomR c a v) : AtomR (c.pick ids) a v := by
  cases a <;> first | exact h | exact pick_rowV h
theorem pick_ro {c : Cx} {ids : List Nat} {s : Bool} {l : L} {v : Value} (h : RoR c s l v) : RoR (c.pick ids) s l v := by
  obtain ⟨a, cap, rfl, hc, h0⟩ := h
  refine ⟨a, cap, rfl, hc, ?_⟩
  rcases h0 with h0 | ⟨b, off, ha, hF, hU, hcell⟩
  · exact .inl h0
  · refine .inr ⟨b, off, ha, hF, fun hu => hU (pick_U hu), fun j hj => ?_⟩
    obtain ⟨x, hx, hxa⟩ := hcell j hj
    exact ⟨x, hx, pick_atom hxa⟩
theorem pick_vr0 {c : Cx} {ids : List Nat} {u : V} {v : Value} (h : VR0 c u v) : VR0 (c.pick ids) (u.re0 ids) v := by
  cases u with
  | own id =>
    simp only [V.re0]
    split
    · rename_i j hj
      obtain ⟨h1, h2⟩ := re_some hj
      exact ⟨by simpa [Cx.pick] using h1, by simp only [Cx.pick, h2]; exact h.2⟩
    · trivial
  | sub id o n =>
    simp only [V.re0]
    split
    · rename_i j hj
      obtain ⟨h1, h2⟩ := re_some hj
      obtain ⟨_, a, cap, rfl, hn, hg, hl, hz⟩ := h
      refine ⟨by simpa [Cx.pick] using h1, a, cap, rfl, hn, ?_, fun l hl' => ?_, fun h0 => by simp only [Cx.pick, h2]; exact hz h0⟩
      · simp only [Cx.pick, h2]; exact hg
      · rw [pick_get c ids h1, h2] at hl'
        cases he : getE c.h id with
        | row l2 => rw [he] at hl'; simp [E.re] at hl'; subst hl'; exact hl l2 he
        | cells vs => rw [he] at hl'; simp [E.re] at hl'
        | dead => rw [he] at hl'; simp [E.re] at hl'
        | recs n xs => rw [he] at hl'; simp [E.re] at hl'
    · trivial
  | ptr id o =>
    simp only [V.re0]
    split
    · rename_i j hj
      obtain ⟨h1, h2⟩ := re_some hj
      obtain ⟨_, g, hg, rfl⟩ := h
      exact ⟨by simpa [Cx.pick] using h1, g, by simp only [Cx.pick, h2]; exact hg, rfl⟩
    · trivial
  | elt id o n i =>
    simp only [V.re0]
    split
    · rename_i j hj
      obtain ⟨h1, h2⟩ := re_some hj
      obtain ⟨_, hn, g, hg, rfl⟩ := h
      exact ⟨by simpa [Cx.pick] using h1, hn, g, by simp only [Cx.pick, h2]; exact hg, rfl⟩
    · trivial
  | ro s l => exact pick_ro h
  | ref a =>
    obtain ⟨b, off, x, rfl, hU, hc, ha⟩ := h
    exact ⟨b, off, x, rfl, fun hu => hU (pick_U hu), hc, pick_atom ha⟩
  | recs s n xs =>
    obtain ⟨hn, a, m, cap, rfl, hl, hc, h0⟩ := h
    refine ⟨hn, a, m, cap, rfl, hl, hc, ?_⟩
    rcases h0 with h0 | ⟨b, off, ha, hF, hU, hcell⟩
    · exact .inl h0
    · exact .inr ⟨b, off, ha, hF, fun hu => hU (pick_U hu), hcell⟩
  | rref n xs o =>
    obtain ⟨hp, b, off, rfl, hU, hc⟩ := h
    exact ⟨hp, b, off, rfl, fun hu => hU (pick_U hu), hc⟩
  | agg vs => exact h.elim
  | tup vs => exact h.elim
  | _ => exact h
theorem pick_vr1 {c : Cx} {ids : List Nat} {u : V} {v : Value} (h : VR1 c u v) : VR1 (c.pick ids) (u.re ids) v := by
  cases u with
  | agg vs =>
    obtain ⟨cs, rfl, hs, ha⟩ := h
    refine ⟨cs, rfl, by simpa [V.re] using hs, fun j hj => ?_⟩
    have hj' : j < vs.length := by simpa using hj
    have e : (vs.map (V.re0 ids)).getD j .junk = (vs.getD j .junk).re0 ids := by simp [List.getD, hj']
    rw [e]; exact pick_vr0 (ha j hj')
  | tup vs => exact h.elim
  | own id => exact (pick_vr0 (u := .own id) h).vr1
  | sub id o n => exact (pick_vr0 (u := .sub id o n) h).vr1
  | ptr id o => exact (pick_vr0 (u := .ptr id o) h).vr1
  | elt id o n i => exact (pick_vr0 (u := .elt id o n i) h).vr1
  | ro s l => exact (pick_vr0 (u := .ro s l) h).vr1
  | ref a => exact (pick_vr0 (u := .ref a) h).vr1
  | recs s n xs => exact (pick_vr0 (u := .recs s n xs) h).vr1
  | rref n xs o => exact (pick_vr0 (u := .rref n xs o) h).vr1
  | _ => exact h
theorem pick_vr {c : Cx} {ids : List Nat} {u : V} {v : Value} (h : VR c u v) : VR (c.pick ids) (u.re ids) v := by
  cases u with
  | tup vs => exact trivial
  | own id => exact (pick_vr1 (u := .own id) h).vr
  | sub id o n => exact (pick_vr1 (u := .sub id o n) h).vr
  | ptr id o => exact (pick_vr1 (u := .ptr id o) h).vr
  | elt id o n i => exact (pick_vr1 (u := .elt id o n i) h).vr
  | ro s l => exact (pick_vr1 (u := .ro s l) h).vr
  | ref a => exact (pick_vr1 (u := .ref a) h).vr
  | recs s n xs => exact (pick_vr1 (u := .recs s n xs) h).vr
  | rref n xs o => exact (pick_vr1 (u := .rref n xs o) h).vr
  | agg vs => exact (pick_vr1 (u := .agg vs) h).vr
  | _ => exact h

theorem pick_rel {c : Cx} (hr : Rel c) {ids : List Nat} (hn : ids.Nodup) (hl : ∀ i ∈ ids, i < c.h.length) : Rel (c.pick ids) := by
  have hin : ∀ j, j < ids.length → ids.getD j 0 < c.h.length := fun j hj => hl _ (by simp [List.getD, hj])
  have hlen : ∀ j, j < (c.pick ids).h.length ↔ j < ids.length := fun j => by simp [Cx.pick]
  refine ⟨fun j hj => hr.one _ (hin j ((hlen j).1 hj)), fun j hj => ?_, fun i j b hi hj hbi hbj => ?_, fun b hb => hr.lt b (pick_U hb), fun b hb => ⟨(hr.far b hb).1, fun hu => (hr.far b hb).2 (pick_U hu)⟩⟩
  · have hj' := (hlen j).1 hj
    have he := hr.ent _ (hin j hj')
    rw [pick_get c ids hj']
    cases hd : getE c.h (ids.getD j 0) with
    | row l =>
      rw [hd] at he
      obtain ⟨e, xs, ho, ha⟩ := he
      refine ⟨e, xs, ho, fun k hk => ?_⟩
      obtain ⟨x, hx, hxa⟩ := ha k hk
      exact ⟨x, hx, pick_atom hxa⟩
    | cells vs =>
      rw [hd] at he
      obtain ⟨b, e, cs, hv, hg, hs, ha⟩ := he
      refine ⟨b, e, cs, hv, hg, by simpa using hs, fun k hk => ?_⟩
      have hk' : k < vs.length := by simpa using hk
      obtain ⟨x, hx, hxa⟩ := ha k hk'
      refine ⟨x, hx, ?_⟩
      have e : (vs.map (V.re0 ids)).getD k .junk = (vs.getD k .junk).re0 ids := by simp [List.getD, hk']
      rw [e]; exact pick_vr0 hxa
    | dead => trivial
    | recs n xs => rw [hd] at he; exact he
  · have hi' := (hlen i).1 (alive_lt hi)
    have hj' := (hlen j).1 (alive_lt hj)
    rw [pick_get c ids hi', E.re_alive] at hi
    rw [pick_get c ids hj', E.re_alive] at hj
    have := hr.inj _ _ b hi hj hbi hbj
    have e1 : ids.getD i 0 = ids[i] := by simp [List.getD, hi']
    have e2 : ids.getD j 0 = ids[j] := by simp [List.getD, hj']
    rw [e1, e2] at this
    have hp := List.pairwise_iff_getElem.1 hn
    rcases Nat.lt_trichotomy i j with h | h | h
    · exact absurd this (hp i j hi' hj' h)
    · exact h
    · exact absurd this.symm (hp j i hj' hi' h)

end Go.Proofs.Ytgpgifpblchjjaa.D
/- Regions whose order is drawn: every order comes to the same. Conditions: those of each theorem. -/
namespace Go.Proofs.Ytgpgifpblchjjaa.D
open Go.RowKit
set_option linter.unusedVariables false
set_option linter.unusedSimpArgs false

/-- Operations that don't look at blocks. -/
def heapFree (TD : TypeId → Option TI) : Op → Bool
  | .assign (.const (.slice none 0 0)) => false
  | .convert _ d _ => match TD d with
    | some ⟨.string, _, _, _⟩ => false
    | _ => true
  | .build _ parts => !parts.toList.isEmpty
  | .move _ | .assign _ | .pick .. | .binOp .. | .unOp .. | .index .. | .extract .. | .nilCheck _ | .fieldAddr .. | .field .. => true
  | .call ⟨.builtin .min, _, _⟩ | .call ⟨.builtin .max, _, _⟩ => true
  | _ => false
/-- Operations that leave the blocks as they are. -/
def quietOp (TD : TypeId → Option TI) (pureF : FuncId → Bool) : Op → Bool
  | .indexAddr .. | .load .. | .slice .. | .convert .. => true
  | .call ⟨.builtin .len, _, _⟩ => true
  | .call ⟨.value (.func f), _, _⟩ => pureF f
  | op => heapFree TD op

/-- The length of a slice. -/
def lenOp : Op → Bool
  | .call ⟨.builtin .len, _, _⟩ => true
  | _ => false
/-- Calls that write into no row. -/
def keepOp (rowsF : FuncId → Bool) : Op → Bool
  | .call ⟨.value (.func f), _, _⟩ => rowsF f
  | _ => false
/-- Operations that look at the blocks of their operands alone. -/
def growOp : Op → Bool
  | .call ⟨.builtin .len, _, _⟩ => true
  | .slice _ _ _ _ none | .indexAddr .. | .load .. | .convert .. => true
  | _ => false
/-- Calls that are handed no block: they but add some. -/
def addOp (addF : FuncId → Bool) : Op → Bool
  | .call ⟨.value (.func f), _, _⟩ => addF f
  | _ => false
/-- Operations that add a block, and may end the one that grew. -/
def newOp : Op → Bool
  | .buildSlice _ 0 _ => true
  | .makeSlice .. => true
  | .call ⟨.builtin .append, _, _⟩ => true
  | _ => false
def newFirst (i j : Nat) (oi oj : Oper) : Bool :=
  (Nat.blt i j && newOp oi.op && growOp oj.op) || (Nat.blt j i && newOp oj.op && growOp oi.op)
/-- Which blocks must stand for an operation. -/
def fitE (op : Op) (e : E) : Bool := bif lenOp op then e.rowy else e.alive
def freeOp (TD : TypeId → Option TI) (op : Op) : Bool := heapFree TD op || growOp op
/-- The place of an element of a slice. -/
def rowAddr (TD : TypeId → Option TI) : Op → Bool
  | .indexAddr t _ _ => match TD t with
    | some ⟨.slice _, _, _, _⟩ => true
    | _ => false
  | _ => false
/-- What stands at the place of an element that was looked for just ahead. -/
def rowLoad (TD : TypeId → Option TI) (ops : Array Oper) (i : Nat) (o : Oper) : Bool :=
  match o.op with
  | .load _ (.tmp t) => match i with
    | k + 1 => match ops[k]? with
      | some q => rowAddr TD q.op && (match q.dst with | some d => Nat.beq d t | none => false) && (match q.guard with | none => true | some _ => false)
      | none => false
    | 0 => false
  | _ => false
/-- Operations that look at rows alone. -/
def rowRead (TD : TypeId → Option TI) (ops : Array Oper) (i : Nat) (o : Oper) : Bool := lenOp o.op || rowAddr TD o.op || rowLoad TD ops i o
def lenKeep (TD : TypeId → Option TI) (rowsF : FuncId → Bool) (ops : Array Oper) (i j : Nat) (oi oj : Oper) : Bool :=
  (Nat.blt i j && rowRead TD ops i oi && keepOp rowsF oj.op) || (Nat.blt j i && rowRead TD ops j oj && keepOp rowsF oi.op)

def maskOf (o : Oper) (M : List Nat) : Nat := o.after.toList.foldl (fun s e => bif Region.binds .any e then (s ||| 2 ^ e.on) ||| M.getD e.on 0 else s) 0
def reachL : List Oper → List Nat → List Nat
  | [], acc => acc
  | o :: os, acc => reachL os (acc ++ [maskOf o acc])

def before_ (M : List Nat) (i j : Nat) : Bool := bif Nat.blt i j then (M.getD j 0).testBit i else (M.getD i 0).testBit j
def pairOk (TD : TypeId → Option TI) (pureF rowsF addF : FuncId → Bool) (ops : Array Oper) (M : List Nat) (i j : Nat) (oi oj : Oper) : Bool :=
  (match oi.dst, oj.dst with | some a, some b => !Nat.beq a b | _, _ => true) &&
  (match oi.dst with | some d => bif (oj.looksAt ops).any (Nat.beq d) then before_ M i j else true | none => true) &&
  (bif (quietOp TD pureF oi.op && quietOp TD pureF oj.op) || heapFree TD oi.op || heapFree TD oj.op || lenKeep TD rowsF ops i j oi oj || (growOp oi.op && addOp addF oj.op) || (growOp oj.op && addOp addF oi.op) || newFirst i j oi oj then true else before_ M i j)
def drawOk (TD : TypeId → Option TI) (pf : FuncId → Bool × Bool × Bool) (ops : Array Oper) : Bool :=
  let M := reachL ops.toList []
  (List.range ops.size).all fun j => match ops[j]? with
    | none => true
    | some oj => Nat.beq (M.getD j 0) (maskOf oj M) && (oj.after.toList.all fun e => !Region.binds .any e || Nat.blt e.on j) &&
      (match oj.guard with | none => true | some (g, _) => Nat.blt g j) &&
      (List.range ops.size).all fun i => match ops[i]? with
        | none => true
        | some oi => Nat.beq i j || pairOk TD (fun f => (pf f).1) (fun f => (pf f).2.1) (fun f => (pf f).2.2) ops M i j oi oj

section
variable {P : Program} {TD : TypeId → Option TI} {K : FuncId → List V → List E → (V → List E → R) → R}

theorem assign_eq {x : Operand} (hq : heapFree TD (.assign x) = true) {dst : Option Tmp} {ty : TypeId} {pos : String} {after : Array Edge} {guard : Option (Nat × Bool)} {σ : St} {κ : V → List E → R} :
    opC0 TD K ⟨dst, .assign x, ty, pos, after, guard⟩ σ κ = κ (σ.ev x) σ.h := by
  simp only [opC0]
  split
  · simp [heapFree] at hq
  · rfl

theorem opC0_congr {o : Oper} {σ σ' : St} {κ : V → List E → R} (hh : σ.h = σ'.h) (he : ∀ x ∈ o.op.operands, σ.ev x = σ'.ev x) : opC0 TD K o σ κ = opC0 TD K o σ' κ := by
  obtain ⟨dst, op, ty, pos, after, guard⟩ := o
  cases op <;> simp only [Op.operands] at he
  case assign x =>
    have e := he x (by simp)
    simp only [opC0, hh]
    split
    · rfl
    · rw [e]
  case build t ps =>
    have e : ∀ p ∈ ps.toList, σ.ev p.2 = σ'.ev p.2 := fun p hp => he p.2 (by simp; exact ⟨p.1, by simpa using hp⟩)
    have e1 : ∀ (n : Nat) (fs : Array Field), buildOk TD fs ps n σ.ev = buildOk TD fs ps n σ'.ev := by
      intro n fs
      unfold buildOk
      congr 1
      rw [← Array.all_toList, ← Array.all_toList]
      rw [Bool.eq_iff_iff, List.all_eq_true, List.all_eq_true]
      constructor
      · intro h p hp; rw [← e p hp]; exact h p hp
      · intro h p hp; rw [e p hp]; exact h p hp
    have e2 : ∀ (fs : Array Field) (zs : List V), layParts fs σ.ev ps.toList zs = layParts fs σ'.ev ps.toList zs := by
      intro fs zs
      unfold layParts
      revert e
      generalize ps.toList = l
      intro e
      induction l generalizing zs with
      | nil => rfl
      | cons p l ih =>
        simp only [List.foldl_cons]
        rw [e p (by simp)]
        exact ih _ (fun q hq => e q (by simp [hq]))
    have e3 : ∀ (fs : Array Field) (zs : List V) (κ2 : V → R), buildA TD fs ps.toList zs σ.ev κ2 = buildA TD fs ps.toList zs σ'.ev κ2 := by
      intro fs zs κ2
      revert e
      generalize ps.toList = l
      intro e
      cases l with
      | nil => rfl
      | cons p l =>
        cases l with
        | nil => simp only [buildA]; rw [e p (by simp)]
        | cons q l => rfl
    simp only [opC0, hh, e1]
    split
    · split
      · rw [e2, e3]
      · rfl
    · rfl
  case buildSlice t n ps =>
    have e : (ps.toList.map fun p => σ.ev p.2) = ps.toList.map fun p => σ'.ev p.2 := List.map_congr_left fun p hp => he p.2 (by simp; exact ⟨p.1, by simpa using hp⟩)
    simp only [opC0, hh, e]
  case call c =>
    obtain ⟨callee, cargs, cats⟩ := c
    have e : cargs.toList.map σ.ev = cargs.toList.map σ'.ev := List.map_congr_left fun x hx => he x (by simp [Call.operands]; exact .inr (by simpa using hx))
    have e1 : ∀ x ∈ cargs.toList, σ.ev x = σ'.ev x := fun x hx => he x (by simp [Call.operands]; exact .inr (by simpa using hx))
    simp only [opC0, hh, e]
    split
    · split
      · rename_i h1 h2; rw [e1 _ (by rw [h1]; simp)]
      · rfl
    · rfl
    · rfl
    · split
      · rename_i h1 h2; rw [e1 _ (by rw [h1]; simp), e1 _ (by rw [h1]; simp)]
      · rfl
    · rfl
    · rfl
  case slice t x lo hi mx =>
    cases mx with
    | some m => rfl
    | none =>
      have ex := he x (by simp)
      have elo : lo.map σ.ev = lo.map σ'.ev := by cases lo <;> simp_all
      have ehi : hi.map σ.ev = hi.map σ'.ev := by cases lo <;> cases hi <;> simp_all
      simp only [opC0, hh, ex, elo, ehi]
  all_goals (first
    | rfl
    | (simp only [opC0, hh]; done)
    | (simp at he; simp only [opC0, hh, he]; done)
    | (simp at he; obtain ⟨e1, e2⟩ := he; simp only [opC0, hh, e1, e2]; done)
    | (simp at he; obtain ⟨e1, e2, e3⟩ := he; simp only [opC0, hh, e1, e2, e3]; done))

theorem opC0_quiet {pureF : FuncId → Bool} (hp : ∀ f, pureF f = true → ∀ args h κ, K f args h κ = K f args h fun v _ => κ v h) {o : Oper} (hq : quietOp TD pureF o.op = true) {σ : St} {κ : V → List E → R} :
    opC0 TD K o σ κ = opC0 TD K o σ fun v _ => κ v σ.h := by
  obtain ⟨dst, op, ty, pos, after, guard⟩ := o
  cases op <;> first | (simp [quietOp, heapFree] at hq; done) | rfl | skip
  case assign x => rw [assign_eq hq, assign_eq hq]
  case slice t x lo hi mx => cases mx <;> rfl
  case call c =>
    obtain ⟨callee, cargs, cats⟩ := c
    cases callee with
    | value f =>
      cases f with
      | func f => exact hp f hq _ _ _
      | _ => simp [quietOp, heapFree] at hq
    | invoke r m => simp [quietOp, heapFree] at hq
    | builtin b => cases b <;> first | (simp [quietOp, heapFree] at hq; done) | rfl
theorem opC0_free {o : Oper} (hq : heapFree TD o.op = true) {σ : St} {κ : V → List E → R} (h2 : List E) : opC0 TD K o σ κ = opC0 TD K o { σ with h := h2 } fun v _ => κ v σ.h := by
  obtain ⟨dst, op, ty, pos, after, guard⟩ := o
  cases op <;> first | (simp [heapFree] at hq; done) | rfl | skip
  case assign x => rw [assign_eq hq, assign_eq hq]; rfl
  case convert sT dT x =>
    have key : ∀ (σ : St) (κ : V → List E → R), opC0 TD K ⟨dst, .convert sT dT x, ty, pos, after, guard⟩ σ κ = convC (TD sT) (TD dT) (σ.ev x) fun v => κ v σ.h := by
      intro σ κ
      simp only [opC0]
      split
      · rename_i h1 h2
        simp only [heapFree, h2] at hq
        cases hq
      · rfl
    rw [key, key]; rfl
  case call c =>
    obtain ⟨callee, cargs, cats⟩ := c
    cases callee with
    | builtin b => cases b <;> first | (simp [heapFree] at hq; done) | rfl
    | _ => simp [heapFree] at hq
/-- A length is the same while the row stands. -/
theorem opC0_len {o : Oper} (hl : lenOp o.op = true) {σ : St} {v : V} {h' h2 : List E} (hrow : ∀ x ∈ o.op.operands, ∀ id ∈ (σ.ev x).ids, ∀ e, E.rowy e = true → getE σ.h id = e → getE h2 id = e)
    (hs : opC0 TD K o σ (fun v h => some (v, h)) = some (v, h')) (κ2 : V → List E → R) : opC0 TD K o { σ with h := h2 } κ2 = κ2 v h2 := by
  obtain ⟨dst, op, ty, pos, after, guard⟩ := o
  cases op <;> first | (simp [lenOp] at hl; done) | skip
  case call c =>
    obtain ⟨callee, cargs, cats⟩ := c
    cases callee with
    | builtin b =>
      cases b <;> first | (simp [lenOp] at hl; done) | skip
      have hm : ∀ x ∈ cargs.toList, ∀ id, σ.ev x = .own id → ∀ e, E.rowy e = true → getE σ.h id = e → getE h2 id = e := fun x hx id hv => hrow x (by simp [Op.operands, Call.operands]; simpa using hx) id (by rw [hv]; simp [V.ids, V.ids0])
      simp only [opC0] at hs ⊢
      generalize cargs.toList = la at hs hm ⊢
      generalize cats.toList = lt at hs ⊢
      rcases la with _ | ⟨x, _ | ⟨y, la⟩⟩ <;> rcases lt with _ | ⟨t, _ | ⟨u, lt⟩⟩ <;> simp only at hs ⊢ <;> first | (cases hs; done) | skip
      have e : St.ev { σ with h := h2 } x = σ.ev x := by cases x <;> rfl
      rw [e]
      have key : lenC (σ.ev x) σ.h (fun v => some (v, σ.h)) = some (v, h') → lenC (σ.ev x) h2 (fun v => κ2 v h2) = κ2 v h2 := by
        intro hk
        cases hv : σ.ev x with
        | own id =>
          rw [hv] at hk
          simp only [lenC] at hk ⊢
          cases hg : getE σ.h id with
          | row l => rw [hg] at hk; rw [hm x (by simp) id hv _ rfl hg]; cases hk; rfl
          | cells vs => rw [hg] at hk; cases hk
          | dead => rw [hg] at hk; cases hk
          | recs n xs => rw [hg] at hk; cases hk
        | ro s l => rw [hv] at hk; simp only [lenC] at hk ⊢; cases hk; rfl
        | nil => rw [hv] at hk; simp only [lenC] at hk ⊢; cases hk; rfl
        | sub id o n => rw [hv] at hk; simp only [lenC] at hk ⊢; cases hk; rfl
        | _ => rw [hv] at hk; cases hk
      split at hs
      · exact key hs
      · cases hv : σ.ev x with
        | str s => rw [hv] at hs; simp only [lenStrC] at hs ⊢; cases hs; rfl
        | _ => rw [hv] at hs; cases hs
      · cases hs
    | _ => simp [lenOp] at hl
theorem opR_congr {o : Oper} {σ σ' : St} (hh : σ.h = σ'.h) (he : ∀ x ∈ o.op.operands, σ.ev x = σ'.ev x) : opR TD o σ = opR TD o σ' := by
  obtain ⟨dst, op, ty, pos, after, guard⟩ := o
  cases op <;> simp only [Op.operands] at he
  case buildSlice t n ps =>
    have e : ∀ p ∈ ps.toList, σ.ev p.2 = σ'.ev p.2 := fun p hp => he p.2 (by simp; exact ⟨p.1, by simpa using hp⟩)
    simp only [opR, hh]
    cases strideOf TD t with
    | none => rfl
    | some m =>
      simp only
      revert e
      generalize ps.toList = l
      intro e
      rcases n with _ | _ | n <;> rcases l with _ | ⟨⟨_ | i, x⟩, _ | ⟨q, l⟩⟩ <;> try rfl
      simp only [e (0, x) (by simp)]
  case call c =>
    obtain ⟨callee, cargs, cats⟩ := c
    have e1 : ∀ x ∈ cargs.toList, σ.ev x = σ'.ev x := fun x hx => he x (by simp [Call.operands]; exact .inr (by simpa using hx))
    cases callee with
    | builtin b =>
      cases b with
      | len =>
        simp only [opR, hh]
        revert e1
        generalize cargs.toList = la
        generalize cats.toList = lt
        intro e1
        rcases la with _ | ⟨x, _ | ⟨y, la⟩⟩ <;> rcases lt with _ | ⟨t, _ | ⟨u, lt⟩⟩ <;> try rfl
        simp only [e1 x (by simp)]
      | append =>
        simp only [opR, hh]
        revert e1
        generalize cargs.toList = la
        generalize cats.toList = lt
        intro e1
        rcases la with _ | ⟨x, _ | ⟨y, _ | ⟨z, la⟩⟩⟩ <;> rcases lt with _ | ⟨t, _ | ⟨u, _ | ⟨v, lt⟩⟩⟩ <;> try rfl
        simp only [e1 x (by simp), e1 y (by simp)]
      | _ => rfl
    | _ => rfl
  case slice t x lo hi mx =>
    cases mx with
    | some m => rfl
    | none =>
      have ex := he x (by simp)
      have elo : lo.map σ.ev = lo.map σ'.ev := by cases lo <;> simp_all
      have ehi : hi.map σ.ev = hi.map σ'.ev := by cases lo <;> cases hi <;> simp_all
      simp only [opR, hh, ex, elo, ehi]
  all_goals (first
    | rfl
    | (simp only [opR, hh]; done)
    | (simp at he; simp only [opR, hh, he]; done)
    | (simp at he; obtain ⟨e1, e2⟩ := he; simp only [opR, hh, e1, e2]; done)
    | (simp at he; obtain ⟨e1, e2, e3⟩ := he; simp only [opR, hh, e1, e2, e3]; done))
theorem opC_congr {o : Oper} {σ σ' : St} {κ : V → List E → R} (hh : σ.h = σ'.h) (he : ∀ x ∈ o.op.operands, σ.ev x = σ'.ev x) : opC TD K o σ κ = opC TD K o σ' κ := by
  unfold opC
  rw [opR_congr hh he, opC0_congr hh he]
theorem opC_of0 {o : Oper} {σ : St} (h : opR TD o σ = none) (κ : V → List E → R) : opC TD K o σ κ = opC0 TD K o σ κ := by unfold opC; rw [h]
theorem opRB_none {t : TypeId} {parts : Array (Nat × Operand)} {h : List E} (hp : (!parts.toList.isEmpty) = true) : opRB TD t parts h = none := by
  unfold opRB
  split
  · rename_i he; rw [he] at hp; cases hp
  · rfl
/-- Operations that leave the blocks leave them on rows of structs as well. -/
theorem opR_quiet {pureF : FuncId → Bool} {o : Oper} (hq : quietOp TD pureF o.op = true) {σ : St} {f : (V → List E → R) → R} (h : opR TD o σ = some f) : ∃ b v, ∀ κ, f κ = bif b then κ v σ.h else none := by
  obtain ⟨dst, op, ty, pos, after, guard⟩ := o
  cases op <;> first | (simp [quietOp, heapFree] at hq; done) | (simp [opR] at h; done) | skip
  case build t parts =>
    exfalso
    simp only [opR] at h
    rw [opRB_none hq] at h
    cases h
  case assign x =>
    exfalso
    simp only [opR] at h
    unfold opRA at h
    split at h
    · simp [quietOp, heapFree] at hq
    · cases h
  case indexAddr t x i =>
    simp only [opR] at h
    repeat' (split at h)
    all_goals first | (cases h; done) | (injection h with h; subst h; exact ⟨_, _, fun κ => rfl⟩)
  case fieldAddr t x i =>
    simp only [opR] at h
    repeat' (split at h)
    all_goals first | (cases h; done) | (injection h with h; subst h; exact ⟨_, _, fun κ => rfl⟩)
  case load t p =>
    simp only [opR] at h
    repeat' (split at h)
    all_goals first | (cases h; done) | (injection h with h; subst h; exact ⟨_, _, fun κ => rfl⟩)
  case slice t x lo hi mx =>
    cases mx with
    | some m => simp [opR] at h
    | none =>
      simp only [opR] at h
      split at h
      · rename_i n _
        split at h
        · rename_i s m xs _
          injection h with h
          subst h
          obtain ⟨b, a, k, hb⟩ := cutC_form (lo.map σ.ev) (hi.map σ.ev) (xs.length / n)
          refine ⟨Nat.beq m n && b, .recs s n ((xs.drop (a * n)).take (k * n)), fun κ => ?_⟩
          simp only [hb]
          cases Nat.beq m n <;> rfl
        · cases h
      · cases h
  case call c =>
    obtain ⟨callee, cargs, cats⟩ := c
    cases callee with
    | builtin bi =>
      cases bi with
      | len =>
        simp only [opR] at h
        repeat' (split at h)
        all_goals first | (cases h; done) | (injection h with h; subst h; exact ⟨_, _, fun κ => rfl⟩)
      | append => simp [quietOp, heapFree] at hq
      | _ => simp [opR] at h
    | _ => simp [opR] at h
theorem opC_quiet {pureF : FuncId → Bool} (hp : ∀ f, pureF f = true → ∀ args h κ, K f args h κ = K f args h fun v _ => κ v h) {o : Oper} (hq : quietOp TD pureF o.op = true) {σ : St} {κ : V → List E → R} :
    opC TD K o σ κ = opC TD K o σ fun v _ => κ v σ.h := by
  cases hR : opR TD o σ with
  | none => rw [opC_of0 hR, opC_of0 hR]; exact opC0_quiet hp hq
  | some f =>
    obtain ⟨b, v, hf⟩ := opR_quiet hq hR
    unfold opC
    rw [hR]
    simp only
    rw [hf, hf]
theorem opR_fieldAddr {t : TypeId} {x : Operand} {f : Nat} {dst : Option Tmp} {ty : TypeId} {pos : String} {after : Array Edge} {guard : Option (Nat × Bool)} (σ : St) : opR TD ⟨dst, .fieldAddr t x f, ty, pos, after, guard⟩ σ = none ∨
    ∃ b v, ∀ h2, ∃ f', opR TD ⟨dst, .fieldAddr t x f, ty, pos, after, guard⟩ { σ with h := h2 } = some f' ∧ ∀ κ, f' κ = bif b then κ v h2 else none := by
  have e : ∀ h2, St.ev { σ with h := h2 } x = σ.ev x := fun h2 => by cases x <;> rfl
  simp only [opR, e]
  repeat' split
  all_goals first | (left; rfl) | (right; exact ⟨_, _, fun h2 => ⟨_, rfl, fun κ => rfl⟩⟩)
theorem opR_heapFree {o : Oper} (hq : heapFree TD o.op = true) (σ : St) : opR TD o σ = none ∨ ∃ t x f, o.op = .fieldAddr t x f := by
  obtain ⟨dst, op, ty, pos, after, guard⟩ := o
  cases op <;> first | (simp [heapFree] at hq; done) | (left; rfl) | (right; exact ⟨_, _, _, rfl⟩) | skip
  case build t parts =>
    left
    exact opRB_none hq
  case assign x =>
    left
    simp only [opR]
    unfold opRA
    split
    · simp [heapFree] at hq
    · rfl
  case call c =>
    obtain ⟨callee, cargs, cats⟩ := c
    cases callee with
    | builtin b => cases b <;> first | (simp [heapFree] at hq; done) | (left; rfl)
    | _ => simp [heapFree] at hq
theorem opC_free {o : Oper} (hq : heapFree TD o.op = true) {σ : St} {κ : V → List E → R} (h2 : List E) : opC TD K o σ κ = opC TD K o { σ with h := h2 } fun v _ => κ v σ.h := by
  by_cases hfa : ∃ t x f, o.op = .fieldAddr t x f
  · obtain ⟨dst, op, ty, pos, after, guard⟩ := o
    obtain ⟨t, x, f, rfl⟩ := hfa
    rcases opR_fieldAddr (TD := TD) (t := t) (x := x) (f := f) (dst := dst) (ty := ty) (pos := pos) (after := after) (guard := guard) σ with hn | ⟨b, v, hf⟩
    · have hn2 : opR TD ⟨dst, .fieldAddr t x f, ty, pos, after, guard⟩ { σ with h := h2 } = none := by
        rcases opR_fieldAddr (TD := TD) (t := t) (x := x) (f := f) (dst := dst) (ty := ty) (pos := pos) (after := after) (guard := guard) { σ with h := h2 } with h3 | ⟨b, v, hf⟩
        · exact h3
        · obtain ⟨f', e1, _⟩ := hf σ.h
          have e2 : opR TD ⟨dst, .fieldAddr t x f, ty, pos, after, guard⟩ σ = some f' := e1
          rw [hn] at e2
          cases e2
      rw [opC_of0 hn, opC_of0 hn2]; exact opC0_free hq h2
    · obtain ⟨f1, e1, g1⟩ := hf σ.h
      obtain ⟨f2, e2, g2⟩ := hf h2
      have e3 : opR TD ⟨dst, .fieldAddr t x f, ty, pos, after, guard⟩ σ = some f1 := e1
      unfold opC
      rw [e3, e2]
      simp only
      rw [g1, g2]
  · have hn := (opR_heapFree hq σ).resolve_right hfa
    have hn2 := (opR_heapFree hq { σ with h := h2 }).resolve_right hfa
    rw [opC_of0 hn, opC_of0 hn2]; exact opC0_free hq h2
/-- A length is the same while the row stands. -/
theorem opC_len {o : Oper} (hl : lenOp o.op = true) {σ : St} {v : V} {h' h2 : List E} (hrow : ∀ x ∈ o.op.operands, ∀ id ∈ (σ.ev x).ids, ∀ e, E.rowy e = true → getE σ.h id = e → getE h2 id = e)
    (hs : opC TD K o σ (fun v h => some (v, h)) = some (v, h')) (κ2 : V → List E → R) : opC TD K o { σ with h := h2 } κ2 = κ2 v h2 := by
  cases hR : opR TD o σ with
  | none =>
    rw [opC_of0 hR] at hs
    cases hR2 : opR TD o { σ with h := h2 } with
    | none => rw [opC_of0 hR2]; exact opC0_len hl hrow hs κ2
    | some f =>
      exfalso
      obtain ⟨dst, op, ty, pos, after, guard⟩ := o
      cases op <;> first | (simp [lenOp] at hl; done) | skip
      case call c =>
        obtain ⟨callee, cargs, cats⟩ := c
        cases callee with
        | builtin b =>
          cases b <;> first | (simp [lenOp] at hl; done) | skip
          have hm : ∀ x ∈ cargs.toList, ∀ id, σ.ev x = .own id → ∀ e, E.rowy e = true → getE σ.h id = e → getE h2 id = e := fun x hx id hv => hrow x (by simp [Op.operands, Call.operands]; simpa using hx) id (by rw [hv]; simp [V.ids, V.ids0])
          simp only [opR] at hR hR2
          simp only [opC0] at hs
          generalize cargs.toList = la at hs hR hR2 hm
          generalize cats.toList = lt at hs hR hR2
          rcases la with _ | ⟨x, _ | ⟨y, la⟩⟩ <;> rcases lt with _ | ⟨t, _ | ⟨u, lt⟩⟩ <;> simp only at hs hR hR2 <;> first | (cases hs; done) | skip
          have e : St.ev { σ with h := h2 } x = σ.ev x := by cases x <;> rfl
          rw [e] at hR2
          cases hst : strideOf TD t with
          | none => rw [hst] at hR2; cases hR2
          | some n =>
            rw [hst] at hR hR2
            simp only at hR hR2
            have hsl : ∃ e s b z, TD t = some ⟨.slice e, s, b, z⟩ := by
              unfold strideOf at hst
              split at hst
              · exact ⟨_, _, _, _, ‹_›⟩
              · cases hst
            obtain ⟨e9, s9, b9, z9, ht9⟩ := hsl
            rw [ht9] at hs
            simp only at hs
            cases hv : σ.ev x with
            | own id =>
              rw [hv] at hR hR2 hs
              simp only [lenC] at hR hR2 hs
              cases hg : getE σ.h id with
              | row l => rw [hm x (by simp) id hv _ rfl hg] at hR2; cases hR2
              | cells vs => rw [hg] at hs; cases hs
              | dead => rw [hg] at hs; cases hs
              | recs m xs => rw [hg] at hR; cases hR
            | recs s m xs => rw [hv] at hR; cases hR
            | _ => rw [hv] at hR2; cases hR2
        | _ => simp [lenOp] at hl
  | some f =>
    obtain ⟨dst, op, ty, pos, after, guard⟩ := o
    cases op <;> first | (simp [lenOp] at hl; done) | skip
    case call c =>
      obtain ⟨callee, cargs, cats⟩ := c
      cases callee with
      | builtin b =>
        cases b <;> first | (simp [lenOp] at hl; done) | skip
        have hm : ∀ x ∈ cargs.toList, ∀ id, σ.ev x = .own id → ∀ e, E.rowy e = true → getE σ.h id = e → getE h2 id = e := fun x hx id hv => hrow x (by simp [Op.operands, Call.operands]; simpa using hx) id (by rw [hv]; simp [V.ids, V.ids0])
        simp only [opC] at hs ⊢
        rw [hR] at hs
        simp only [opR] at hR ⊢
        generalize cargs.toList = la at hR hm ⊢
        generalize cats.toList = lt at hR ⊢
        rcases la with _ | ⟨x, _ | ⟨y, la⟩⟩ <;> rcases lt with _ | ⟨t, _ | ⟨u, lt⟩⟩ <;> simp only at hR ⊢ <;> first | (cases hR; done) | skip
        have e : St.ev { σ with h := h2 } x = σ.ev x := by cases x <;> rfl
        rw [e]
        cases hst : strideOf TD t with
        | none => rw [hst] at hR; cases hR
        | some n =>
          rw [hst] at hR
          simp only at hR ⊢
          cases hv : σ.ev x with
          | own id =>
            rw [hv] at hR
            simp only at hR ⊢
            cases hg : getE σ.h id with
            | recs m xs =>
              rw [hg] at hR
              rw [hm x (by simp) id hv _ rfl hg]
              injection hR with hR
              subst hR
              simp only at hs ⊢
              cases hb : Nat.beq m n with
              | true => rw [hb, cond_true] at hs; rw [cond_true]; injection hs with hs; injection hs with h1 _; rw [h1]
              | false => rw [hb] at hs; cases hs
            | row l => rw [hg] at hR; cases hR
            | cells vs => rw [hg] at hR; cases hR
            | dead => rw [hg] at hR; cases hR
          | recs s m xs =>
            rw [hv] at hR
            simp only at hR ⊢
            injection hR with hR
            subst hR
            simp only at hs ⊢
            cases hb : Nat.beq m n with
            | true => rw [hb, cond_true] at hs; rw [cond_true]; injection hs with hs; injection hs with h1 _; rw [h1]
            | false => rw [hb] at hs; cases hs
          | _ => rw [hv] at hR; cases hR
      | _ => simp [lenOp] at hl
/-! Operations that look at the blocks of their operands alone. -/
def Stand (x : V) (h h2 : List E) : Prop := ∀ id ∈ x.ids0, (getE h id).alive = true → getE h2 id = getE h id
theorem idxC_grow {x i : V} {h h2 : List E} {κ : V → R} {r : V × List E} (hP : Stand x h h2) (hs : idxC x i h κ = some r) : ∀ κ2, idxC x i h2 κ2 = idxC x i h κ2 := by
  intro κ2
  cases x <;> first | rfl | (cases i <;> rfl; done) | skip
  case own id =>
    cases i <;> first | rfl | skip
    have : getE h2 id = getE h id := hP id (by simp [V.ids0]) (by cases hg : getE h id <;> first | rfl | (simp [idxC, hg] at hs))
    simp only [idxC, this]
  case sub id o n =>
    cases i <;> first | rfl | skip
    have : getE h2 id = getE h id := hP id (by simp [V.ids0]) (by cases hg : getE h id <;> first | rfl | (simp [idxC, hg] at hs))
    simp only [idxC, this]
theorem sliceC_grow {x : V} {lo hi : Option V} {h h2 : List E} {κ : V → R} {r : V × List E} (hP : Stand x h h2) (hs : sliceC x lo hi h κ = some r) : ∀ κ2, sliceC x lo hi h2 κ2 = sliceC x lo hi h κ2 := by
  intro κ2
  cases x <;> first | rfl | skip
  case own id =>
    have : getE h2 id = getE h id := hP id (by simp [V.ids0]) (by cases hg : getE h id <;> first | rfl | (simp [sliceC, hg] at hs))
    simp only [sliceC, this]
theorem loadC_grow {x : V} {h h2 : List E} {κ : V → R} {r : V × List E} (hP : Stand x h h2) (hs : loadC x h κ = some r) : ∀ κ2, loadC x h2 κ2 = loadC x h κ2 := by
  intro κ2
  cases x <;> first | rfl | skip
  case ptr id o =>
    have : getE h2 id = getE h id := hP id (by simp [V.ids0]) (by cases hg : getE h id <;> first | rfl | (simp [loadC, hg] at hs))
    simp only [loadC, this]
  case elt id o n i =>
    have : getE h2 id = getE h id := hP id (by simp [V.ids0]) (by cases hg : getE h id <;> first | rfl | (simp [loadC, hg] at hs))
    simp only [loadC, this]
theorem loadAggC_grow {n : Nat} {x : V} {h h2 : List E} {κ : V → R} {r : V × List E} (hP : Stand x h h2) (hs : loadAggC n x h κ = some r) : ∀ κ2, loadAggC n x h2 κ2 = loadAggC n x h κ2 := by
  intro κ2
  cases x <;> first | rfl | skip
  case ptr id o =>
    cases o with
    | succ o => rfl
    | zero =>
      have : getE h2 id = getE h id := hP id (by simp [V.ids0]) (by cases hg : getE h id <;> first | rfl | (simp [loadAggC, hg] at hs))
      simp only [loadAggC, this]
theorem loadArrC_grow {n : Nat} {x : V} {h h2 : List E} {κ : V → R} {r : V × List E} (hP : Stand x h h2) (hs : loadArrC n x h κ = some r) : ∀ κ2, loadArrC n x h2 κ2 = loadArrC n x h κ2 := by
  intro κ2
  cases x <;> first | rfl | skip
  case ptr id o =>
    have : getE h2 id = getE h id := hP id (by simp [V.ids0]) (by cases hg : getE h id <;> first | rfl | (simp [loadArrC, hg] at hs))
    simp only [loadArrC, this]
theorem toStrC_grow {x : V} {h h2 : List E} {κ : V → R} {r : V × List E} (hP : Stand x h h2) (hs : toStrC x h κ = some r) : ∀ κ2, toStrC x h2 κ2 = toStrC x h κ2 := by
  intro κ2
  cases x <;> first | rfl | skip
  case own id =>
    have : getE h2 id = getE h id := hP id (by simp [V.ids0]) (by cases hg : getE h id <;> first | rfl | (simp [toStrC, listOf, hg] at hs))
    simp only [toStrC, listOf, this]
  case sub id o n =>
    have : getE h2 id = getE h id := hP id (by simp [V.ids0]) (by cases hg : getE h id <;> first | rfl | (simp [toStrC, listOf, hg] at hs))
    simp only [toStrC, listOf, this]
theorem Stand.at {x : V} {h h2 : List E} (hP : Stand x h h2) {id : Nat} (hx : id ∈ x.ids0) {e : E} (he : getE h id = e) (ha : e.alive = true) : getE h2 id = e := by
  rw [hP id hx (by rw [he]; exact ha), he]
theorem ev_heap (σ : St) (h2 : List E) (x : Operand) : St.ev { σ with h := h2 } x = σ.ev x := by cases x <;> rfl
theorem opC_grow {o : Oper} (hl : growOp o.op = true) {σ : St} {v : V} {h' h2 : List E} (hrow : ∀ x ∈ o.op.operands, ∀ id ∈ (σ.ev x).ids, ∀ e, fitE o.op e = true → getE σ.h id = e → getE h2 id = e)
    (hs : opC TD K o σ (fun v h => some (v, h)) = some (v, h')) (κ2 : V → List E → R) : opC TD K o { σ with h := h2 } κ2 = κ2 v h2 := by
  cases hlen : lenOp o.op with
  | true => exact opC_len hlen (fun x hx id hid e he => hrow x hx id hid e (by unfold fitE; rw [hlen]; exact he)) hs κ2
  | false =>
  have stand : ∀ x ∈ o.op.operands, Stand (σ.ev x) σ.h h2 := fun x hx id hid ha => hrow x hx id (by
    cases hv : σ.ev x <;> rw [hv] at hid <;> first | exact hid | (simp [V.ids0] at hid; done)) _ (by unfold fitE; rw [hlen]; exact ha) rfl
  obtain ⟨dst, op, ty, pos, after, guard⟩ := o
  cases op <;> first | (simp [growOp] at hl; done) | skip
  case call c =>
    obtain ⟨callee, cargs, cats⟩ := c
    cases callee with
    | builtin b => cases b <;> first | (simp [growOp] at hl; done) | (simp [lenOp] at hlen)
    | _ => simp [growOp] at hl
  case indexAddr t x i =>
    have hP := stand x (by simp [Op.operands])
    have key0 : opC0 TD K ⟨dst, .indexAddr t x i, ty, pos, after, guard⟩ σ (fun v h => some (v, h)) = some (v, h') → opC0 TD K ⟨dst, .indexAddr t x i, ty, pos, after, guard⟩ { σ with h := h2 } κ2 = κ2 v h2 := by
      intro hs
      simp only [opC0, ev_heap] at hs ⊢
      split at hs
      · split at hs
        · split at hs
          · rename_i n _ _ _ _ _ _ _ _ _ _ _ _ id off kk k hx hi
            cases hc : idxOk k n with
            | false => rw [hc] at hs; cases hs
            | true => rw [hc, cond_true] at hs; rw [cond_true]; injection hs with hs; injection hs with e1 _; rw [e1]
          · cases hs
        · cases hs
      · split at hs
        · obtain ⟨v1, e1, e2⟩ := idxC_det hs
          rw [idxC_grow hP hs, e2]
          injection e1 with e1; injection e1 with e1 _; rw [e1]
        · cases hs
      · cases hs
    cases hst : strideOf TD t with
    | none =>
      have n1 : ∀ σ : St, opR TD ⟨dst, .indexAddr t x i, ty, pos, after, guard⟩ σ = none := fun σ => by simp only [opR, hst]
      rw [opC_of0 (n1 _)] at hs ⊢
      exact key0 hs
    | some n =>
      cases hv : σ.ev x with
      | recs s m xs =>
        cases hi : σ.ev i with
        | int kk k =>
          simp only [opC, opR, hst, hv, hi, ev_heap] at hs ⊢
          cases hc : Nat.beq m n && idxOk k (xs.length / n) with
          | false => rw [hc] at hs; cases hs
          | true => rw [hc, cond_true] at hs; rw [cond_true]; injection hs with hs; injection hs with e1 _; rw [e1]
        | _ =>
          have n1 : ∀ h3 : List E, opR TD ⟨dst, .indexAddr t x i, ty, pos, after, guard⟩ { σ with h := h3 } = none := fun h3 => by simp only [opR, hst, hv, hi, ev_heap]
          rw [opC_of0 (n1 h2)]
          rw [opC_of0 (show opR TD ⟨dst, .indexAddr t x i, ty, pos, after, guard⟩ σ = none from n1 σ.h)] at hs
          exact key0 hs
      | own id =>
        cases hi : σ.ev i with
        | int kk k =>
          cases hg : getE σ.h id with
          | recs m xs =>
            have hg2 := hP.at (id := id) (by rw [hv]; simp [V.ids0]) hg rfl
            simp only [opC, opR, hst, hv, hi, ev_heap, hg, hg2] at hs ⊢
            cases hc : Nat.beq m n && idxOk k (xs.length / n) with
            | false => rw [hc] at hs; cases hs
            | true => rw [hc, cond_true] at hs; rw [cond_true]; injection hs with hs; injection hs with e1 _; rw [e1]
          | dead =>
            exfalso
            rw [opC_of0 (show opR TD ⟨dst, .indexAddr t x i, ty, pos, after, guard⟩ σ = none by simp only [opR, hst, hv, hi, hg])] at hs
            simp only [opC0, hv, hi] at hs
            split at hs
            · split at hs <;> cases hs
            · split at hs
              · simp only [idxC, hg] at hs; cases hs
              · cases hs
            · cases hs
          | _ =>
            have hg2 := hP.at (id := id) (by rw [hv]; simp [V.ids0]) hg rfl
            rw [opC_of0 (show opR TD ⟨dst, .indexAddr t x i, ty, pos, after, guard⟩ { σ with h := h2 } = none by simp only [opR, hst, hv, hi, ev_heap, hg2])]
            rw [opC_of0 (show opR TD ⟨dst, .indexAddr t x i, ty, pos, after, guard⟩ σ = none by simp only [opR, hst, hv, hi, hg])] at hs
            exact key0 hs
        | _ =>
          have n1 : ∀ h3 : List E, opR TD ⟨dst, .indexAddr t x i, ty, pos, after, guard⟩ { σ with h := h3 } = none := fun h3 => by simp only [opR, hst, hv, hi, ev_heap]
          rw [opC_of0 (n1 h2)]
          rw [opC_of0 (show opR TD ⟨dst, .indexAddr t x i, ty, pos, after, guard⟩ σ = none from n1 σ.h)] at hs
          exact key0 hs
      | _ =>
        have n1 : ∀ h3 : List E, opR TD ⟨dst, .indexAddr t x i, ty, pos, after, guard⟩ { σ with h := h3 } = none := fun h3 => by simp only [opR, hst, hv, ev_heap]
        rw [opC_of0 (n1 h2)]
        rw [opC_of0 (show opR TD ⟨dst, .indexAddr t x i, ty, pos, after, guard⟩ σ = none from n1 σ.h)] at hs
        exact key0 hs
  case slice t x lo hi mx =>
    cases mx with
    | some m => simp [growOp] at hl
    | none =>
    have hP := stand x (by simp [Op.operands])
    have elo : lo.map (St.ev { σ with h := h2 }) = lo.map σ.ev := by cases lo <;> simp [ev_heap]
    have ehi : hi.map (St.ev { σ with h := h2 }) = hi.map σ.ev := by cases hi <;> simp [ev_heap]
    have key0 : opC0 TD K ⟨dst, .slice t x lo hi none, ty, pos, after, guard⟩ σ (fun v h => some (v, h)) = some (v, h') → opC0 TD K ⟨dst, .slice t x lo hi none, ty, pos, after, guard⟩ { σ with h := h2 } κ2 = κ2 v h2 := by
      intro hs
      simp only [opC0, ev_heap, elo, ehi] at hs ⊢
      split at hs
      · split at hs
        · obtain ⟨v1, e1, e2⟩ := sliceC_det hs
          rw [sliceC_grow hP hs, e2]
          injection e1 with e1; injection e1 with e1 _; rw [e1]
        · cases hs
      · obtain ⟨v1, e1, e2⟩ := sliceStrC_det hs
        rw [e2]
        injection e1 with e1; injection e1 with e1 _; rw [e1]
      · cases hs
    cases hst : strideOf TD t with
    | none =>
      have n1 : ∀ σ : St, opR TD ⟨dst, .slice t x lo hi none, ty, pos, after, guard⟩ σ = none := fun σ => by simp only [opR, hst]
      rw [opC_of0 (n1 _)] at hs ⊢
      exact key0 hs
    | some n =>
      cases hv : σ.ev x with
      | recs s m xs =>
        obtain ⟨b, a, k, hb⟩ := cutC_form (lo.map σ.ev) (hi.map σ.ev) (xs.length / n)
        simp only [opC, opR, hst, hv, ev_heap, elo, ehi, hb] at hs ⊢
        cases hc : Nat.beq m n with
        | false => rw [hc] at hs; cases hs
        | true =>
          rw [hc, cond_true] at hs
          rw [cond_true]
          cases b with
          | false => cases hs
          | true => rw [cond_true] at hs ⊢; injection hs with hs; injection hs with e1 _; rw [e1]
      | _ =>
        have n1 : ∀ h3 : List E, opR TD ⟨dst, .slice t x lo hi none, ty, pos, after, guard⟩ { σ with h := h3 } = none := fun h3 => by simp only [opR, hst, hv, ev_heap]
        rw [opC_of0 (n1 h2)]
        rw [opC_of0 (show opR TD ⟨dst, .slice t x lo hi none, ty, pos, after, guard⟩ σ = none from n1 σ.h)] at hs
        exact key0 hs
  case load t p =>
    have hP := stand p (by simp [Op.operands])
    have key0 : opC0 TD K ⟨dst, .load t p, ty, pos, after, guard⟩ σ (fun v h => some (v, h)) = some (v, h') → opC0 TD K ⟨dst, .load t p, ty, pos, after, guard⟩ { σ with h := h2 } κ2 = κ2 v h2 := by
      intro hs
      simp only [opC0, ev_heap] at hs ⊢
      cases ht : TD t with
      | none => rw [ht] at hs; cases hs
      | some i =>
        obtain ⟨d, sz, by_, z⟩ := i
        rw [ht] at hs
        cases d <;> simp only at hs ⊢ <;> first
          | (obtain ⟨v1, e1, e2⟩ := loadC_det hs
             rw [loadC_grow hP hs, e2]
             injection e1 with e1; injection e1 with e1 _; rw [e1])
          | (obtain ⟨v1, e1, e2⟩ := loadAggC_det hs
             rw [loadAggC_grow hP hs, e2]
             injection e1 with e1; injection e1 with e1 _; rw [e1])
          | (obtain ⟨v1, e1, e2⟩ := loadArrC_det hs
             rw [loadArrC_grow hP hs, e2]
             injection e1 with e1; injection e1 with e1 _; rw [e1])
    by_cases hstr : ∃ fs n by_ z, TD t = some ⟨.struct fs, n, by_, z⟩
    · obtain ⟨fs, n, by_, z, ht⟩ := hstr
      cases hv : σ.ev p with
      | rref m xs off =>
        simp only [opC, opR, ht, hv, ev_heap] at hs ⊢
        cases hc : Nat.beq m n with
        | false => rw [hc] at hs; cases hs
        | true => rw [hc, cond_true] at hs; rw [cond_true]; injection hs with hs; injection hs with e1 _; rw [e1]
      | ptr id off =>
        cases hg : getE σ.h id with
        | recs m xs =>
          have hg2 := hP.at (id := id) (by rw [hv]; simp [V.ids0]) hg rfl
          simp only [opC, opR, ht, hv, ev_heap, hg, hg2] at hs ⊢
          cases hc : decide (off + n ≤ xs.length) with
          | false => rw [hc] at hs; cases hs
          | true => rw [hc, cond_true] at hs; rw [cond_true]; injection hs with hs; injection hs with e1 _; rw [e1]
        | dead =>
          exfalso
          rw [opC_of0 (show opR TD ⟨dst, .load t p, ty, pos, after, guard⟩ σ = none by simp only [opR, ht, hv, hg])] at hs
          simp only [opC0, ht, hv] at hs
          cases off with
          | zero => simp only [loadAggC, hg] at hs; cases hs
          | succ off => simp only [loadAggC] at hs; cases hs
        | _ =>
          have hg2 := hP.at (id := id) (by rw [hv]; simp [V.ids0]) hg rfl
          rw [opC_of0 (show opR TD ⟨dst, .load t p, ty, pos, after, guard⟩ { σ with h := h2 } = none by simp only [opR, ht, hv, ev_heap, hg2])]
          rw [opC_of0 (show opR TD ⟨dst, .load t p, ty, pos, after, guard⟩ σ = none by simp only [opR, ht, hv, hg])] at hs
          exact key0 hs
      | _ =>
        have n1 : ∀ h3 : List E, opR TD ⟨dst, .load t p, ty, pos, after, guard⟩ { σ with h := h3 } = none := fun h3 => by simp only [opR, ht, hv, ev_heap]
        rw [opC_of0 (n1 h2)]
        rw [opC_of0 (show opR TD ⟨dst, .load t p, ty, pos, after, guard⟩ σ = none from n1 σ.h)] at hs
        exact key0 hs
    · have n1 : ∀ σ : St, opR TD ⟨dst, .load t p, ty, pos, after, guard⟩ σ = none := fun σ => by
        simp only [opR]
        split
        · rename_i fs n by_ z ht
          exact absurd ⟨fs, n, by_, z, ht⟩ hstr
        · rfl
      rw [opC_of0 (n1 _)] at hs ⊢
      exact key0 hs
  case convert sT dT x =>
    have hP := stand x (by simp [Op.operands])
    rw [opC_of0 (show opR TD ⟨dst, .convert sT dT x, ty, pos, after, guard⟩ σ = none from rfl)] at hs
    rw [opC_of0 (show opR TD ⟨dst, .convert sT dT x, ty, pos, after, guard⟩ { σ with h := h2 } = none from rfl)]
    simp only [opC0] at hs
    split at hs
    · rename_i h1 h2'
      split at hs
      · rename_i h3
        obtain ⟨v1, e1, e2⟩ := toStrC_det hs
        have e : opC0 TD K ⟨dst, .convert sT dT x, ty, pos, after, guard⟩ { σ with h := h2 } κ2 = toStrC (σ.ev x) h2 fun v => κ2 v h2 := by
          simp only [opC0, h1, h2', h3, ev_heap]
        rw [e, toStrC_grow hP hs, e2]
        injection e1 with e1; injection e1 with e1 _; rw [e1]
      · cases hs
    · rename_i hne
      obtain ⟨v1, e1, e2⟩ := convC_det hs
      have e : opC0 TD K ⟨dst, .convert sT dT x, ty, pos, after, guard⟩ { σ with h := h2 } κ2 = convC (TD sT) (TD dT) (σ.ev x) fun v => κ2 v h2 := by
        simp only [opC0, ev_heap]
      rw [e, e2]
      injection e1 with e1; injection e1 with e1 _; rw [e1]
end

end Go.Proofs.Ytgpgifpblchjjaa.D
/- Code and functions of the small machine. Conditions: those of each theorem. -/
namespace Go.Proofs.Ytgpgifpblchjjaa.D
open Go.RowKit
set_option linter.unusedVariables false
set_option linter.unusedSimpArgs false

/-- What code leaves as it was: of the own blocks the first m stay. -/
structure ExtM (m : Nat) (c c' : Cx) : Prop where
  F : c'.F = c.F
  os : c'.w.os = c.w.os
  tape : c'.w.tape = c.w.tape
  output : c'.w.output = c.w.output
  size : c.w.heap.size ≤ c'.w.heap.size
  block : ∀ k, k < c.w.heap.size → ¬ c.U k → c'.w.heap[k]? = c.w.heap[k]?
  own : ∀ b, c'.U b → c.U b ∨ c.w.heap.size ≤ b
  len : m ≤ c'.h.length
  ids : ∀ i, i < m → c'.hv i = c.hv i ∧ sameE (getE c.h i) (getE c'.h i) = true

theorem Ext.m {m : Nat} {c c' : Cx} (h : Ext c c') (hm : m ≤ c.h.length) : ExtM m c c' :=
  ⟨h.F, h.os, h.tape, h.output, h.size, h.block, h.own, Nat.le_trans hm h.len, fun i hi => h.ids i (Nat.lt_of_lt_of_le hi hm)⟩
theorem ExtM.trans {m : Nat} {a b c : Cx} (h : ExtM m a b) (k : ExtM m b c) : ExtM m a c where
  F := k.F.trans h.F
  os := k.os.trans h.os
  tape := k.tape.trans h.tape
  output := k.output.trans h.output
  size := Nat.le_trans h.size k.size
  block := fun i hi hu => (k.block i (Nat.lt_of_lt_of_le hi h.size) (fun hb => (h.own i hb).elim hu (fun hle => by omega))).trans (h.block i hi hu)
  own := fun x hx => (k.own x hx).elim (h.own x) (fun hle => .inr (Nat.le_trans h.size hle))
  len := k.len
  ids := fun i hi => ⟨(k.ids i hi).1.trans (h.ids i hi).1, sameE_trans (h.ids i hi).2 (k.ids i hi).2⟩

/-! Which blocks are kept. -/
theorem any_beq {acc : List Nat} {x : Nat} : acc.any (Nat.beq x) = true ↔ x ∈ acc := by
  rw [List.any_eq_true]
  constructor
  · rintro ⟨y, hy, h⟩; rw [Nat.eq_of_beq_eq_true h]; exact hy
  · exact fun h => ⟨x, h, nbeq_self x⟩
theorem addIds_ok : ∀ (xs acc : List Nat), acc.Nodup → ∃ r, addIds xs acc = acc ++ r ∧ (addIds xs acc).Nodup ∧ ∀ i ∈ r, i ∈ xs := by
  intro xs
  induction xs with
  | nil => intro acc h; exact ⟨[], by simp [addIds], by simpa [addIds] using h, by simp⟩
  | cons x xs ih =>
    intro acc h
    simp only [addIds]
    cases hx : acc.any (Nat.beq x) with
    | true =>
      obtain ⟨r, h1, h2, h3⟩ := ih acc h
      simp only [cond_true]
      exact ⟨r, h1, h2, fun i hi => by simp [h3 i hi]⟩
    | false =>
      have hx' : x ∉ acc := fun hm => by rw [any_beq.2 hm] at hx; cases hx
      have hn : (acc ++ [x]).Nodup := by
        rw [List.nodup_append]
        exact ⟨h, by simp, fun a ha b hb => by
          have : b = x := by simpa using hb
          subst this
          intro e; exact hx' (e ▸ ha)⟩
      obtain ⟨r, h1, h2, h3⟩ := ih (acc ++ [x]) hn
      simp only [cond_false]
      exact ⟨x :: r, by rw [h1]; simp, h2, fun i hi => by
        rcases List.mem_cons.1 hi with rfl | hi
        · simp
        · simp [h3 i hi]⟩
theorem foldIds_ok {α : Type} (f : α → List Nat) : ∀ (ys : List α) (acc : List Nat), acc.Nodup → ∃ r, ys.foldl (fun acc v => addIds (f v) acc) acc = acc ++ r ∧
    (ys.foldl (fun acc v => addIds (f v) acc) acc).Nodup ∧ ∀ i ∈ r, ∃ y ∈ ys, i ∈ f y := by
  intro ys
  induction ys with
  | nil => intro acc h; exact ⟨[], by simp, by simpa using h, by simp⟩
  | cons y ys ih =>
    intro acc h
    obtain ⟨r1, h1, h2, h3⟩ := addIds_ok (f y) acc h
    obtain ⟨r2, h4, h5, h6⟩ := ih _ h2
    simp only [List.foldl_cons]
    refine ⟨r1 ++ r2, by rw [h4, h1]; simp, h5, fun i hi => ?_⟩
    rcases List.mem_append.1 hi with hi | hi
    · exact ⟨y, by simp, h3 i hi⟩
    · obtain ⟨z, hz, hzi⟩ := h6 i hi
      exact ⟨z, by simp [hz], hzi⟩

theorem ids0_lt {c : Cx} {u : V} {x : Value} (h : VR0 c u x) : ∀ i ∈ u.ids0, i < c.h.length := by
  intro i hi
  cases u <;> simp [V.ids0] at hi <;> (subst hi; exact h.1)
theorem ids_lt {c : Cx} {u : V} {x : Value} (h : VR c u x) : ∀ i ∈ u.ids, i < c.h.length := by
  intro i hi
  cases u with
  | agg vs =>
    obtain ⟨cs, rfl, hs, ha⟩ := (show VR1 c (.agg vs) x from h)
    simp only [V.ids, List.mem_flatMap] at hi
    obtain ⟨v, hv, hvi⟩ := hi
    obtain ⟨j, hj, rfl⟩ := List.getElem_of_mem hv
    have := ha j hj
    have e : vs.getD j .junk = vs[j] := by simp [List.getD, hj]
    rw [e] at this
    exact ids0_lt this i hvi
  | own id => exact ids0_lt (u := .own id) h i hi
  | sub id o n => exact ids0_lt (u := .sub id o n) h i hi
  | ptr id o => exact ids0_lt (u := .ptr id o) h i hi
  | elt id o n k => exact ids0_lt (u := .elt id o n k) h i hi
  | _ => simp [V.ids, V.ids0] at hi
theorem eids_lt {c : Cx} (hr : Rel c) {k : Nat} (hk : k < c.h.length) : ∀ i ∈ (getE c.h k).ids, i < c.h.length := by
  intro i hi
  have he := hr.ent k hk
  cases hd : getE c.h k with
  | cells vs =>
    rw [hd] at he hi
    obtain ⟨b, e, cs, hv, hg, hs, ha⟩ := he
    simp only [E.ids, List.mem_flatMap] at hi
    obtain ⟨v, hv, hvi⟩ := hi
    obtain ⟨j, hj, rfl⟩ := List.getElem_of_mem hv
    obtain ⟨x, hx, hxa⟩ := ha j hj
    have e : vs.getD j .junk = vs[j] := by simp [List.getD, hj]
    rw [e] at hxa
    exact ids0_lt hxa i hvi
  | row l => rw [hd] at hi; simp [E.ids] at hi
  | dead => rw [hd] at hi; simp [E.ids] at hi
  | recs n xs => rw [hd] at hi; simp [E.ids] at hi

theorem keep_ok {c : Cx} (hr : Rel c) {m : Nat} (hm : m ≤ c.h.length) {vs : List V} (hv : ∀ v ∈ vs, ∃ x, VR c v x) :
    (keepIds m vs c.h).Nodup ∧ (∀ i ∈ keepIds m vs c.h, i < c.h.length) ∧ ∀ j, j < m → (keepIds m vs c.h).getD j 0 = j ∧ j < (keepIds m vs c.h).length := by
  obtain ⟨r1, h1, h2, h3⟩ := foldIds_ok V.ids vs (List.range m) List.nodup_range
  have hl1 : ∀ i ∈ vs.foldl (fun acc v => addIds v.ids acc) (List.range m), i < c.h.length := by
    rw [h1]
    intro i hi
    rcases List.mem_append.1 hi with hi | hi
    · have := List.mem_range.1 hi; omega
    · obtain ⟨v, hv1, hv2⟩ := h3 i hi
      obtain ⟨x, hx⟩ := hv v hv1
      exact ids_lt hx i hv2
  obtain ⟨r2, h4, h5, h6⟩ := foldIds_ok (fun i => (getE c.h i).ids) (vs.foldl (fun acc v => addIds v.ids acc) (List.range m)) (vs.foldl (fun acc v => addIds v.ids acc) (List.range m)) h2
  refine ⟨h5, ?_, fun j hj => ?_⟩
  · show ∀ i ∈ (vs.foldl (fun acc v => addIds v.ids acc) (List.range m)).foldl (fun acc i => addIds (getE c.h i).ids acc) (vs.foldl (fun acc v => addIds v.ids acc) (List.range m)), i < c.h.length
    rw [h4]
    intro i hi
    rcases List.mem_append.1 hi with hi | hi
    · exact hl1 i hi
    · obtain ⟨k, hk1, hk2⟩ := h6 i hi
      exact eids_lt hr (hl1 k hk1) i hk2
  · have e : keepIds m vs c.h = List.range m ++ (r1 ++ r2) := by
      show (vs.foldl (fun acc v => addIds v.ids acc) (List.range m)).foldl (fun acc i => addIds (getE c.h i).ids acc) (vs.foldl (fun acc v => addIds v.ids acc) (List.range m)) = _
      rw [h4, h1, List.append_assoc]
    rw [e]
    exact ⟨by simp [List.getD, List.getElem?_append, hj], by simp; omega⟩

theorem E.re_same (e : E) (ids : List Nat) : sameE e (e.re ids) = true := by cases e <;> simp [E.re, sameE]

theorem pick_ext {c : Cx} {m : Nat} {ids : List Nat} (hp : ∀ j, j < m → ids.getD j 0 = j ∧ j < ids.length) : ExtM m c (c.pick ids) where
  F := rfl
  os := rfl
  tape := rfl
  output := rfl
  size := Nat.le_refl _
  block := fun _ _ _ => rfl
  own := fun b hb => .inl (pick_U hb)
  len := by
    rcases Nat.eq_zero_or_pos m with h | h
    · omega
    · have := (hp (m - 1) (by omega)).2
      simp [Cx.pick]; omega
  ids := fun i hi => by
    obtain ⟨h1, h2⟩ := hp i hi
    refine ⟨by simp only [Cx.pick, h1], ?_⟩
    rw [pick_get c ids h2, h1]
    exact E.re_same _ _

theorem getT_live (f : Nat → V) : ∀ (live : List Nat) (t : Nat), getT (live.map fun t => (t, f t)) t = if t ∈ live then f t else .junk := by
  intro live
  induction live with
  | nil => intro t; simp [getT]
  | cons x live ih =>
    intro t
    simp only [List.map_cons, getT]
    by_cases h : x = t
    · subst h; simp [nbeq_self]
    · have h' : ¬ t = x := fun e => h e.symm
      rw [nbeq_ne h, cond_false, ih t]
      simp [h']

theorem norm_ok {c : Cx} {σ : St} {a : Act} (hr : Rel c) (ht : RelT c σ a) {m : Nat} (hm : m ≤ c.h.length) (live : List Nat) :
    ∃ c', ExtM m c c' ∧ Rel c' ∧ RelT c' (norm m live σ) a ∧ c'.w = c.w := by
  have hv : ∀ v ∈ live.map fun t => getT σ.t t, ∃ x, VR c v x := by
    intro v hv
    obtain ⟨t, _, rfl⟩ := List.mem_map.1 hv
    exact ⟨_, ht.t t⟩
  obtain ⟨h1, h2, h3⟩ := keep_ok hr hm hv
  have hσ := ht.h
  refine ⟨c.pick (keepIds m (live.map fun t => getT σ.t t) c.h), pick_ext h3, pick_rel hr h1 h2, ⟨ht.size, ht.defers, ?_, fun t => ?_⟩, rfl⟩
  · simp only [norm, Cx.pick, hσ]
  · simp only [norm, hσ]
    rw [getT_live (fun t => (getT σ.t t).re (keepIds m (live.map fun t => getT σ.t t) c.h))]
    split
    · exact pick_vr (ht.t t)
    · exact trivial

section
variable {P : Program} {TD : TypeId → Option TI} {K : FuncId → List V → List E → (V → List E → R) → R} {ann : Nat → List Nat × List Nat} {drawOk : Array Oper → Option (List (Nat × Nat))} {m fuel : Nat} {r : V × List E}

def Post (m : Nat) (c : Cx) (k : X → St → R) (r : V × List E) : Exit → Act → World → Prop := fun e a' w' =>
  ∃ x σ' c', e = X.exit_ x ∧ k x σ' = some r ∧ ExtM m c c' ∧ Rel c' ∧ RelT c' σ' a' ∧ c'.w = w'

theorem Post.trans {c c1 : Cx} {k : X → St → R} (h : ExtM m c c1) {e : Exit} {a : Act} {w : World} (hp : Post m c1 k r e a w) : Post m c k r e a w := by
  obtain ⟨x, σ', c', h1, h2, h3, h4⟩ := hp
  exact ⟨x, σ', c', h1, h2, h.trans h3, h4⟩

theorem Ext.reflM {c : Cx} (hm : m ≤ c.h.length) : ExtM m c c := (Ext.refl c).m hm

theorem nrm_ok {c : Cx} {σ : St} {a : Act} (hr : Rel c) (ht : RelT c σ a) {m : Nat} (hm : m ≤ c.h.length) {ann : Nat → List Nat × List Nat} (b : Code) :
    ∃ c', ExtM m c c' ∧ Rel c' ∧ RelT c' (nrmS ann m b σ) a ∧ c'.w = c.w := by
  unfold nrmS
  split
  · exact ⟨c, Ext.reflM hm, hr, ht, rfl⟩
  · exact norm_ok hr ht hm _
theorem denC_wp (hT : TyOk P TD) (hK : KOk P K) (hD : DrawOk P TD K drawOk) : ∀ (code : Code) (σ : St) (a : Act) (c : Cx) (k : X → St → R),
    denC TD K ann drawOk m fuel code σ k = some r → Rel c → RelT c σ a → m ≤ c.h.length → code.wp P (Post m c k r) a c.w := by
  intro code
  induction code with
  | skip => intro σ a c k h hr ht hm; exact wp_skip ⟨.normal, σ, c, rfl, h, Ext.reflM hm, hr, ht, rfl⟩
  | label l => intro σ a c k h hr ht hm; exact wp_label ⟨.normal, σ, c, rfl, h, Ext.reflM hm, hr, ht, rfl⟩
  | region id ops draw =>
    intro σ a c k h hr ht hm
    simp only [denC] at h
    have post : ∀ σ' c' a', k .normal σ' = some r → Ext c c' → Rel c' → RelT c' σ' a' → Post m c k r .normal a' c'.w :=
      fun σ' c' a' h1 h2 h3 h4 => ⟨.normal, σ', c', rfl, h1, h2.m hm, h3, h4, rfl⟩
    cases draw with
    | false =>
      simp only [cond_false] at h
      rw [toList_range] at h
      exact wp_region (opsC_wp hT hK c (List.range ops.size) (fun i hi => List.mem_range.1 hi) σ a c h (Ext.refl c) hr ht post)
    | true =>
      simp only [cond_true] at h
      cases hd : drawOk ops with
      | none => rw [hd] at h; simp only [isNoneL, cond_true] at h; cases h
      | some need =>
        rw [hd] at h
        simp only [isNoneL, cond_false, getL] at h
        cases need with
        | nil => exact hD ops _ r _ c σ a c id [] hd (fun _ => h) (fun hn => absurd rfl hn) (Ext.refl c) hr ht post
        | cons p need => exact hD ops _ r _ c σ a c id (p :: need) hd (fun hn => by cases hn) (fun _ => h) (Ext.refl c) hr ht post
  | seq x y ihx ihy =>
    intro σ a c k h hr ht hm
    simp only [denC] at h
    refine wp_seq (wp_mono (ihx σ a c _ h hr ht hm) ?_)
    rintro e a' w' ⟨x', σ', c', rfl, h1, h2, h3, h4, rfl⟩
    cases x' with
    | normal =>
      obtain ⟨c2, e1, e2, e3, e4⟩ := nrm_ok h3 h4 h2.len (ann := ann) y
      have := wp_mono (ihy _ a' c2 k h1 e2 e3 e1.len) (fun e a w hp => hp.trans (h2.trans e1))
      rw [e4] at this
      exact this
    | exit id => exact ⟨.exit id, σ', c', rfl, h1, h2, h3, h4, rfl⟩
    | ret => exact ⟨.ret, σ', c', rfl, h1, h2, h3, h4, rfl⟩
  | cond o x y ihx ihy =>
    intro σ a c k h hr ht hm
    simp only [denC] at h
    split at h
    · rename_i t hc
      have hv := ht.ev o
      rw [hc] at hv
      have hv := vr_bool hv
      have hk : ∀ b, σ.ev o = .bool b → RelT c (σ.know o b) a := fun b hb => by
        cases o with
        | tmp t => exact (ht.known hb).1
        | _ => exact ht
      cases t with
      | true => exact wp_cond hv (ihx _ a c k h hr (hk true hc) hm)
      | false => exact wp_cond hv (ihy _ a c k h hr (hk false hc) hm)
    · cases h
  | block id x ih =>
    intro σ a c k h hr ht hm
    simp only [denC] at h
    refine wp_block (wp_mono (ih σ a c _ h hr ht hm) ?_)
    rintro e a' w' ⟨x', σ', c', rfl, h1, h2, h3, h4, rfl⟩
    cases x' with
    | normal => exact ⟨.normal, σ', c', rfl, h1, h2, h3, h4, rfl⟩
    | ret => exact ⟨.ret, σ', c', rfl, h1, h2, h3, h4, rfl⟩
    | exit j =>
      show (if j = id then Post m c k r .normal a' c'.w else Post m c k r (.exit j) a' c'.w)
      by_cases hj : j = id
      · subst hj
        simp only [nbeq_self, cond_true] at h1
        rw [if_pos rfl]
        exact ⟨.normal, σ', c', rfl, h1, h2, h3, h4, rfl⟩
      · simp only [nbeq_ne hj, cond_false] at h1
        rw [if_neg hj]
        exact ⟨.exit j, σ', c', rfl, h1, h2, h3, h4, rfl⟩
  | loop x ih =>
    intro σ a c k h hr ht hm
    simp only [denC] at h
    have key : ∀ n (σ : St) (a : Act) (c1 : Cx), iterC m (fun σ k => denC TD K ann drawOk m fuel x σ k) (ann (headId x)).1 (ann (headId x)).2 n σ k = some r →
        ExtM m c c1 → Rel c1 → RelT c1 σ a → Code.rounds P x (Post m c k r) n a c1.w := by
      intro n
      induction n with
      | zero => intro σ a c1 h; simp [iterC] at h
      | succ n ihn =>
        intro σ a c1 h hE hr ht
        simp only [iterC] at h
        rw [rounds_succ]
        refine wp_mono (ih σ a c1 _ h hr ht hE.len) ?_
        rintro e a' w' ⟨x', σ', c', rfl, h1, h2, h3, h4, rfl⟩
        cases x' with
        | normal =>
          obtain ⟨c2, e1, e2, e3, e4⟩ := norm_ok h3 h4 h2.len (ann (headId x)).1
          have := ihn _ a' c2 h1 ((hE.trans h2).trans e1) e2 e3
          rw [e4] at this
          exact this
        | exit id =>
          obtain ⟨c2, e1, e2, e3, e4⟩ := norm_ok h3 h4 h2.len (ann (headId x)).2
          exact ⟨.exit id, _, c2, rfl, h1, (hE.trans h2).trans e1, e2, e3, e4⟩
        | ret =>
          obtain ⟨c2, e1, e2, e3, e4⟩ := norm_ok h3 h4 h2.len (ann (headId x)).2
          exact ⟨.ret, _, c2, rfl, h1, (hE.trans h2).trans e1, e2, e3, e4⟩
    obtain ⟨c2, e1, e2, e3, e4⟩ := norm_ok hr ht hm (ann (headId x)).1
    have := key fuel _ a c2 h e1 e2 e3
    rw [e4] at this
    exact wp_loop_rounds fuel this
  | exit id => intro σ a c k h hr ht hm; exact wp_exit ⟨.exit id, σ, c, rfl, h, Ext.reflM hm, hr, ht, rfl⟩
  | ret => intro σ a c k h hr ht hm; exact wp_ret ⟨.ret, σ, c, rfl, h, Ext.reflM hm, hr, ht, rfl⟩
  | _ => intro σ a c k h; simp [denC] at h

theorem resAll_ok (hT : TyOk P TD) {c : Cx} {σ : St} {a : Act} (hr : Rel c) (ht : RelT c σ a) (g : ResultVar → Sem Value) (hg : ∀ t, g (.tmp t) = pure (a.tmps.getD t undef))
    (hgc : ∀ x t, g (.cell x t) = do loadVar t (← asAddr (a.tmps.getD x undef))) : ∀ (rs : List ResultVar) (vs : List V), resAll TD σ rs = some vs →
    ∃ xs : List Value, ArgsR c vs xs ∧ (rs.mapM g : Sem (List Value)).run P c.w = .ok xs c.w := by
  intro rs
  induction rs with
  | nil => intro vs h; simp [resAll] at h; subst h; exact ⟨[], ⟨rfl, fun j hj => by simp at hj⟩, rfl⟩
  | cons r rs ih =>
    intro vs h
    simp only [resAll] at h
    split at h
    · rename_i v vs' h1 h2
      simp at h; subst h
      obtain ⟨xs, hx, hrun⟩ := ih vs' h2
      cases r with
      | cell x t =>
        simp only [resC] at h1
        split at h1
        · rename_i fs n by_ z htd
          split at h1
          · rename_i id hv0
            split at h1
            · rename_i vs0 hl
              cases hc : Nat.beq vs0.length n with
              | false => rw [hc, cond_false] at h1; cases h1
              | true =>
                rw [hc, cond_true] at h1
                cases h1
                obtain ⟨u1, fi, hfi, hfs, _⟩ := hT.ok _ _ htd
                have hp := ht.t x
                rw [hv0] at hp
                rw [ht.h] at hl
                obtain ⟨y, cs, ey, hV, g0, hy, hl2⟩ := loadAgg_run (P := P) hr u1 hfi (by rw [hfs]; exact (Nat.eq_of_beq_eq_true hc).symm) hl hp
                refine ⟨.agg cs :: xs, ⟨by simp [hx.1], fun j hj => ?_⟩, ?_⟩
                · cases j with
                  | zero => simpa using hV
                  | succ j => simpa using hx.2 j (by simpa using hj)
                · have e : (asAddr (a.tmps.getD x undef)).run P c.w = .ok ⟨g0, 0, none⟩ c.w := by rw [hy]; rfl
                  simp only [List.mapM_cons, hgc, Sem.run_bind, Sem.run_pure, Result.andThen_ok, hrun, e, hl2]
            · cases h1
          · cases h1
        · cases h1
      | tmp t =>
        simp [resC] at h1; subst h1
        refine ⟨a.tmps.getD t undef :: xs, ⟨by simp [hx.1], fun j hj => ?_⟩, ?_⟩
        · cases j with
          | zero => simpa using ht.t t
          | succ j => simpa using hx.2 j (by simpa using hj)
        · simp only [List.mapM_cons, hg, Sem.run_bind, Sem.run_pure, Result.andThen_ok, hrun]
    · cases h

theorem argTs_get : ∀ (args : List V) (n t : Nat), getT (argTs n args) t = if n ≤ t ∧ t < n + args.length then args.getD (t - n) .junk else .junk := by
  intro args
  induction args with
  | nil => intro n t; simp [argTs, getT]
  | cons v args ih =>
    intro n t
    simp only [argTs, getT]
    by_cases h : n = t
    · subst h; simp [nbeq_self]
    · rw [nbeq_ne h, cond_false, ih]
      by_cases h2 : n + 1 ≤ t ∧ t < n + 1 + args.length
      · have h3 : n ≤ t ∧ t < n + (v :: args).length := by simp; omega
        rw [if_pos h2, if_pos h3]
        have : t - n = (t - (n + 1)) + 1 := by omega
        rw [this]; simp
      · have h3 : ¬ (n ≤ t ∧ t < n + (v :: args).length) := by simp; omega
        rw [if_neg h2, if_neg h3]

/-- A function does what the small machine does. -/
theorem funC_calls (hT : TyOk P TD) (hK : KOk P K) (hD : DrawOk P TD K drawOk) {f : FuncId} {fn : Func} (hf : P.funcs[f]? = some fn) {args : List V} {κ : V → List E → R} {c : Cx}
    (h : funC TD K ann drawOk fuel fn args c.h κ = some r) (hr : Rel c) {cargs : Array Value} (ha : ArgsR c args cargs.toList) :
    Calls P f cargs c.w fun e w' => ∃ x v c', e = .returned x ∧ κ v c'.h = some r ∧ Ext c c' ∧ Rel c' ∧ VR c' v x ∧ c'.w = w' ∧
      (v.out1 = true ∨ ∃ vs, v = .tup vs ∧ vs.all V.out1 = true) ∧ c'.h.all E.out = true := by
  unfold funC at h
  split at h
  · rename_i code hb
    refine calls_of_wp hf hb ?_
    have hsz : cargs.size = args.length := by have := ha.1; simpa using this
    have ht : RelT c { n := max fn.ntmps args.length, t := argTs 0 args, h := c.h } { tmps := cargs ++ Array.replicate (fn.ntmps - cargs.size) undef, defers := [] } := by
      refine ⟨by simp [hsz]; omega, rfl, rfl, fun t => ?_⟩
      simp only [argTs_get]
      by_cases hlt : t < args.length
      · have h1 : 0 ≤ t ∧ t < 0 + args.length := by omega
        rw [if_pos h1, Nat.sub_zero]
        have e : (cargs ++ Array.replicate (fn.ntmps - cargs.size) undef).getD t undef = cargs.toList.getD t undef := by
          have : t < cargs.size := by omega
          simp [Array.getElem?_append, this, List.getD]
        rw [e]; exact ha.2 t hlt
      · have h1 : ¬ (0 ≤ t ∧ t < 0 + args.length) := by omega
        rw [if_neg h1]; exact trivial
    refine wp_mono (denC_wp hT hK hD code _ _ c _ h hr ht (Nat.le_refl _)) ?_
    rintro e a' w' ⟨x, σ', c', rfl, h1, h2, h3, h4, rfl⟩
    have fin : (match resAll TD σ' fn.results.toList with
        | some vs => outC c.h.length vs σ'.h κ
        | none => none) = some r → a'.defers = [] ∧ ∃ v, (results fn a'.tmps).run P c'.w = .ok v c'.w ∧ ∃ x v' c2, Ending.returned v = .returned x ∧ κ v' c2.h = some r ∧ Ext c c2 ∧ Rel c2 ∧ VR c2 v' x ∧ c2.w = c'.w ∧
          (v'.out1 = true ∨ ∃ vs, v' = .tup vs ∧ vs.all V.out1 = true) ∧ c2.h.all E.out = true := by
      intro hh
      split at hh
      · rename_i vs hvs
        obtain ⟨g, hg, hgc, hgr⟩ : ∃ g : ResultVar → Sem Value, (∀ t, g (.tmp t) = pure (a'.tmps.getD t undef)) ∧ (∀ x t, g (.cell x t) = do loadVar t (← asAddr (a'.tmps.getD x undef))) ∧ results fn a'.tmps = (do let vs ← fn.results.mapM g; pure (if h : vs.size = 1 then vs[0] else .tuple vs)) :=
          ⟨_, fun t => rfl, fun x t => rfl, rfl⟩
        obtain ⟨xs, hxs, hrun⟩ := resAll_ok hT h3 h4 g hg hgc _ _ hvs
        have hres : (results fn a'.tmps).run P c'.w = .ok (if h : xs.length = 1 then xs[0] else .tuple xs.toArray) c'.w := by
          rw [hgr, Array.mapM_eq_mapM_toList]
          simp only [Sem.run_bind, Sem.run_map, hrun, Result.andThen_ok, Sem.run_pure]
          congr 1
        have hv : ∀ v ∈ vs, ∃ x, VR c' v x := by
          intro v hv
          obtain ⟨j, hj, rfl⟩ := List.getElem_of_mem hv
          have := hxs.2 j hj
          have e : vs.getD j .junk = vs[j] := by simp [List.getD, hj]
          rw [e] at this
          exact ⟨_, this⟩
        obtain ⟨k1, k2, k3⟩ := keep_ok h3 h2.len hv
        have hE2 := pick_ext (c := c') k3
        have hR2 := pick_rel h3 k1 k2
        have hσ := h4.h
        unfold outC at hh
        rw [hσ] at hh
        obtain ⟨ho, hh⟩ := bif_some hh
        simp only [Bool.and_eq_true] at ho
        have hEE := h2.trans hE2
        have hExt : Ext c (c'.pick (keepIds c.h.length vs c'.h)) := ⟨hEE.F, hEE.os, hEE.tape, hEE.output, hEE.size, hEE.block, hEE.own, hEE.len, hEE.ids⟩
        have hall : ∀ j, j < vs.length → VR (c'.pick (keepIds c.h.length vs c'.h)) ((vs.map fun v => v.re (keepIds c.h.length vs c'.h)).getD j .junk) (xs.getD j undef) := fun j hj => by
          have e : (vs.map fun v => v.re (keepIds c.h.length vs c'.h)).getD j .junk = (vs.getD j .junk).re (keepIds c.h.length vs c'.h) := by simp [List.getD, hj]
          rw [e]; exact pick_vr (hxs.2 j hj)
        refine ⟨h4.defers, _, hres, ?_⟩
        have hlen := hxs.1
        split at hh
        · rename_i v0 hv0
          have hl1 : vs.length = 1 := by have := congrArg List.length hv0; simpa using this
          have hx1 : xs.length = 1 := by omega
          refine ⟨_, v0, _, rfl, hh, hExt, hR2, ?_, rfl, .inl ?_, ho.2⟩
          · have := hall 0 (by omega)
            rw [hv0] at this
            rw [dif_pos hx1]
            have e : xs.getD 0 undef = xs[0] := by simp [List.getD, hx1]
            rw [e] at this
            simpa using this
          · have := ho.1
            rw [hv0] at this
            simpa using this
        · rename_i hne
          have hx1 : ¬ xs.length = 1 := by
            intro hx1
            have hl1 : vs.length = 1 := by omega
            obtain ⟨v0, rfl⟩ := List.length_eq_one_iff.1 hl1
            exact hne _ rfl
          refine ⟨_, .tup (vs.map fun v => v.re (keepIds c.h.length vs c'.h)), _, rfl, hh, hExt, hR2, ?_, rfl, .inr ⟨_, rfl, ho.1⟩, ho.2⟩
          rw [dif_neg hx1]
          refine ⟨xs.toArray, rfl, by simp [hlen], fun j hj => ?_⟩
          have hj' : j < vs.length := by simpa using hj
          have h5 := hall j hj'
          have e : xs.toArray.getD j undef = xs.getD j undef := by simp [List.getD]
          rw [e]
          have hnt : ∀ ws, (vs.map fun v => v.re (keepIds c.h.length vs c'.h)).getD j .junk ≠ .tup ws := by
            intro ws hh2
            have e2 : (vs.map fun v => v.re (keepIds c.h.length vs c'.h)).getD j .junk = (vs.getD j .junk).re (keepIds c.h.length vs c'.h) := by simp [List.getD, hj']
            rw [e2] at hh2
            cases hv2 : vs.getD j .junk <;> rw [hv2] at hh2 <;> simp [V.re, V.re0] at hh2
            all_goals (split at hh2 <;> cases hh2)
          exact (vr_eq hnt).1 h5
      · cases hh
    cases x with
    | exit id => cases h1
    | normal => exact fin h1
    | ret => exact fin h1
  · cases h
end

end Go.Proofs.Ytgpgifpblchjjaa.D
