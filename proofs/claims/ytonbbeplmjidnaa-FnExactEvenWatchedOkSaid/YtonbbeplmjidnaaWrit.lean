/- Operations that make or write blocks. Conditions: those of each theorem. -/
import Derived.Test.YtonbbeplmjidnaaHeap
namespace Go.Proofs.Ytonbbeplmjidnaa.D
open Go.RowKit
set_option linter.unusedVariables false
set_option linter.unusedSimpArgs false

section
variable {P : Program} {c : Cx} {r : V × List E}

theorem grown_self (w : World) (row : Option Nat) : w.grownBy w row := ⟨rfl, rfl, rfl, Nat.le_refl _, fun _ _ _ => rfl⟩

theorem run_storeAt {t : TypeId} {f : TypeInfo} (hf : P.info? t = some f) (hs : f.size = 1) {w : World} {b off : Nat} {x y : Value} (hx : x.oneCell' = true) (hxc : x.cells = #[x])
    (hy : w.cell? ⟨b, off, none⟩ = some y) (hz : w.frozen? ⟨b, off, none⟩ = false) :
    (Instr.storeAt t (.pointer (some ⟨b, off, none⟩)) x).run P w = .ok () (w.setCell ⟨b, off, none⟩ x) := by
  have hst : (store ⟨b, off, none⟩ x).run P w = .ok () (w.setCell ⟨b, off, none⟩ x) := by
    rw [run_store P w _ x .plain hx, hy]; simp [hz]
  simp [Instr.storeAt, Instr.sureAddr, storeVar, sizeOf, typeInfo, hf, hs, hxc, storeCells, add_none, hst]

theorem store_ok (hr : Rel c) {t : TypeId} {f : TypeInfo} (hf : P.info? t = some f) (hs : f.size = 1) {p v : V} {κ : List E → R} {vp x : Value}
    (hfl : v.flat = true) (h : storeC p v c.h κ = some r) (hp : VR c p vp) (hv : VR c v x) :
    ∃ c', κ c'.h = some r ∧ Ext c c' ∧ Rel c' ∧ (Instr.storeAt t vp x).run P c.w = .ok () c'.w := by
  obtain ⟨hv0, hone, hcells⟩ := flat_one hr hfl hv
  unfold storeC at h
  split at h
  · rename_i id off
    obtain ⟨hid, g, hbg, rfl⟩ := (show VR0 c (.ptr id off) vp from hp)
    split at h
    · rename_i l hl
      obtain ⟨h1, h2⟩ := bif_some h
      have h1' : off < l.len := of_decide_eq_true h1
      split at h2
      · rename_i l' hl'
        obtain ⟨hlen, a, hat, hset⟩ := L.set_ok hl'
        obtain ⟨haR, _⟩ := atom_of_vr hat hv
        have he := hr.ent id hid
        rw [hl] at he
        obtain ⟨e, xs, ho, ha⟩ := he
        have ho0 := ho
        obtain ⟨a0, cap, hvv, hn, hm, hx, h0⟩ := own_cells ho
        rcases h0 with h0 | ⟨g', rfl, hb', hc⟩
        · omega
        · rw [hb'] at hbg; cases hbg
          rw [hvv] at ho
          obtain ⟨hs1, hs2⟩ := ho.stored off x
          have hal : (getE c.h id).alive = true := by rw [hl]; rfl
          have hg : c.w.grownBy (c.w.setCell ⟨g, off, none⟩ x) (blk (c.hv id)) := by rw [hb']; exact hs2
          have hsame : sameE (getE c.h id) (.row l') = true := by rw [hl]; simp [sameE, hlen]
          have hE := Cx.ext_upd hid hal hsame hg
          refine ⟨c.upd id (.row l') (c.w.setCell ⟨g, off, none⟩ x), h2, hE, Cx.rel_upd hr hid hal hsame hg ?_, ?_⟩
          · refine ⟨e, xs.set off x, ?_, fun j hj => ?_⟩
            · show (c.w.setCell ⟨g, off, none⟩ x).ownsRow 0 e 1 (c.hv id) l'.len (xs.set off x)
              rw [hvv, hlen]; exact hs1
            · have hj' : j < l.len := by omega
              rw [hset j hj']
              by_cases hjo : j = off
              · subst hjo
                exact ⟨x, by simp [hx, hj'], by rw [if_pos rfl]; exact hE.atom haR⟩
              · obtain ⟨y, hy, hya⟩ := ha j hj'
                have : ¬ off = j := fun e => hjo e.symm
                exact ⟨y, by simp [this, hy], by rw [if_neg hjo]; exact hE.atom hya⟩
          · have hcell : c.w.cell? ⟨g, off, none⟩ = xs[off]? := by
              rcases hc off with h | h
              · exact h
              · omega
            obtain ⟨y, hy, _⟩ := ha off h1'
            exact run_storeAt hf hs hone hcells (hcell.trans hy) (by rw [hvv] at ho0; exact ho0.frozenAt off)
      · cases h2
    · rename_i vs hl
      have key : ∀ (hh : (bif decide (off < vs.length) then κ (c.h.set id (.cells (vs.set off v))) else none) = some r),
          ∃ c', κ c'.h = some r ∧ Ext c c' ∧ Rel c' ∧ (Instr.storeAt t (.pointer (some ⟨g, off, none⟩)) x).run P c.w = .ok () c'.w := by
        intro hh
        obtain ⟨h1, h2⟩ := bif_some hh
        have h1' : off < vs.length := of_decide_eq_true h1
        have he := hr.ent id hid
        rw [hl] at he
        obtain ⟨b, e, cs, hvv, hgc, hsz, ha⟩ := he
        rw [hvv] at hbg; simp [blk] at hbg; subst hbg
        have hal : (getE c.h id).alive = true := by rw [hl]; rfl
        have hset := heap_setCell_same c.w b off cs e x hgc
        have hg : c.w.grownBy (c.w.setCell ⟨b, off, none⟩ x) (blk (c.hv id)) := by
          rw [hvv]
          exact ⟨rfl, rfl, rfl, by simp, fun k _ hk => heap_setCell_other c.w ⟨b, off, none⟩ k x (fun e => hk (by simp [blk, e]))⟩
        have hsame : sameE (getE c.h id) (.cells (vs.set off v)) = true := by rw [hl]; simp [sameE]
        have hE := Cx.ext_upd hid hal hsame hg
        refine ⟨c.upd id (.cells (vs.set off v)) (c.w.setCell ⟨b, off, none⟩ x), h2, hE, Cx.rel_upd hr hid hal hsame hg ?_, ?_⟩
        · refine ⟨b, e, cs.setIfInBounds off x, hvv, hset, by simpa using hsz, fun j hj => ?_⟩
          have hj' : j < vs.length := by simpa using hj
          by_cases hjo : j = off
          · subst hjo
            have hlt : j < cs.size := by omega
            refine ⟨x, by simp [hlt], ?_⟩
            have : (vs.set j v).getD j .junk = v := by simp [List.getD, hj']
            rw [this]; exact hE.vr0 hv0
          · obtain ⟨y, hy, hya⟩ := ha j hj'
            have h3 : ¬ off = j := fun e => hjo e.symm
            refine ⟨y, by simp [Array.getElem?_setIfInBounds_ne h3, hy], ?_⟩
            have : (vs.set off v).getD j .junk = vs.getD j .junk := by simp [List.getD, h3]
            rw [this]; exact hE.vr0 hya
        · obtain ⟨y, hy, _⟩ := ha off h1'
          exact run_storeAt hf hs hone hcells (by rw [cell_of_row c.w b off cs e (0, 0) hgc]; exact hy) (frozen_of_row c.w b off cs e hgc)
      cases v <;> first | (simp [V.flat] at hfl; done) | exact key h
    · cases h
  · cases h

/-- A new row. -/
theorem push_row (hr : Rel c) {l : L} {e : TypeId} {xs : List Value} {x : Value} {w' : World} (hg : c.w.grownBy w' none) (ho : w'.ownsRow 0 e 1 x l.len xs)
    (hx : ∀ b, blk x = some b → c.w.heap.size ≤ b) (ha : ∀ c', Ext c c' → ∀ j, j < l.len → ∃ y, xs[j]? = some y ∧ AtomR c' (l.at_ j) y) :
    Ext c (c.push (.row l) x w') ∧ Rel (c.push (.row l) x w') ∧ VR (c.push (.row l) x w') (.own c.h.length) x := by
  have hh : Handle x := by
    obtain ⟨a, cap, rfl, _⟩ := own_cells ho
    exact .inl ⟨_, _, _, rfl⟩
  have hlt : ∀ b, blk x = some b → b < w'.heap.size := fun b hb => by
    rcases ho.2 with ⟨rfl, _⟩ | ⟨g, cap, cur, rfl, _, hgc, _⟩
    · simp [blk] at hb
    · simp [blk] at hb; subst hb; exact (Array.getElem?_eq_some_iff.1 hgc).1
  have hE := Cx.ext_push hr (.row l) x hg hx
  refine ⟨hE, Cx.rel_push hr hh hg (fun b hb => ⟨hx b hb, hlt b hb⟩) ⟨e, xs, by rw [Cx.push_new]; exact ho, ha _ hE⟩, ?_, ?_⟩
  · simp [Cx.push]
  · rw [Cx.push_new]

theorem eli_rep {n j : Nat} (hj : j < n) : eli (List.replicate n 0) j = 0 := by simp [eli, List.getD, hj]
theorem elb_rep {n j : Nat} (hj : j < n) : elb (List.replicate n false) j = false := by simp [elb, List.getD, hj]
theorem els_rep {n j : Nat} (hj : j < n) : els (List.replicate n .empty) j = .empty := by simp [els, List.getD, hj]

theorem zero_ok {d : TypeDesc} {z : Value} {n : Nat} {l : L} (hz : zeroFits d z = true) (h : zeroRow d n = some l) : l.len = n ∧ z.cells = #[z] ∧ ∀ c' j, j < n → AtomR c' (l.at_ j) z := by
  cases d <;> cases z <;> simp [zeroFits] at hz <;> simp [zeroRow] at h
  · obtain rfl := h; subst hz
    exact ⟨by simp [L.len], rfl, fun c' j hj => by simp [L.at_, AtomR, elb_rep hj]⟩
  · obtain rfl := h; obtain ⟨rfl, rfl⟩ := hz
    exact ⟨by simp [L.len], rfl, fun c' j hj => by simp [L.at_, AtomR, eli_rep hj]⟩
  · obtain rfl := h; subst hz
    exact ⟨by simp [L.len], rfl, fun c' j hj => by simp [L.at_, AtomR, els_rep hj]⟩

theorem make_ok (hr : Rel c) {t e : TypeId} {f : TypeInfo} {z : Value} (ht : P.underlying t = some (.slice e)) (hi : P.info? e = some f) (hs : f.size = 1) (hb : f.bytes ≤ 64) (hz : f.zero = some z)
    {d : TypeDesc} (hzf : zeroFits d z = true) {n : Nat} {l : L} (hl : zeroRow d n = some l) (hn : n ≤ 1099511627776) {kl kc : IntKind} :
    ∃ c' x, c'.h = c.h ++ [.row l] ∧ Ext c c' ∧ Rel c' ∧ VR c' (.own c.h.length) x ∧ (Instr.makeSlice t (.int kl (n : Int)) (.int kc (n : Int))).run P c.w = .ok x c'.w := by
  obtain ⟨h1, h2, h3⟩ := zero_ok hzf hl
  have hbn : f.bytes * n ≤ 281474976710656 := by
    have := Nat.mul_le_mul hb hn
    omega
  obtain ⟨w', hrun, ho, hg⟩ := run_make_full (P := P) c.w 0 t e f z 1 ht hi hz hs kl kc n hbn (by unfold maxLen; omega) (Nat.zero_le _)
  rw [h2, Nat.mul_one, toList_madeCells_one] at ho
  obtain ⟨hE, hR, hV⟩ := push_row hr (l := l) hg (by rw [h1]; exact ho) (fun b hb => by simp [blk] at hb; omega) (fun c' _ j hj => ⟨z, by rw [h1] at hj; simp [hj], h3 c' j (by omega)⟩)
  exact ⟨_, _, rfl, hE, hR, hV, hrun⟩

theorem run_append_room2 (t ty e e2 : TypeId) (i : TypeInfo) (ht : P.underlying t = some (.slice e)) (hi : P.info? e = some i) (hsize : i.size = 1) {w : World}
    (g n cap : Nat) (cur : Array Value) (hg : w.heap[g]? = some (.cells cur e2 (0, 0))) (a : Option Addr) (m c : Nat) (news : List Value) (hl : news.length = m)
    (hf : (Builtin.firstCells 1 m (.slice a m c)).run P w = .ok news.toArray w) (h1 : ∀ u ∈ news, u.oneCell' = true) (hroom : n + m ≤ cap) (hfit : n + m ≤ cur.size) :
    (Builtin.append_ #[t, t] ty #[.slice (some ⟨g, 0, none⟩) n cap, .slice a m c]).run P w =
      .ok (.slice (some ⟨g, 0, none⟩) (n + m) cap) (w.setRow g (cur.toList.take n ++ news ++ cur.toList.drop (n + m)).toArray) := by
  have hst := run_storeCells_at P g n e2 news 0 cur w hg (by omega) h1
  simp only [Nat.add_zero, hl] at hst
  simp [Builtin.append_, run_underlying ht, sizeOf, typeInfo, hi, hsize, Builtin.lenOf, hroom, hf, add_none, hst]

/-- append to a row of one's own. -/
theorem run_append_any (t ty e e2 : TypeId) (i : TypeInfo) (z : Value) (ht : P.underlying t = some (.slice e)) (hi : P.info? e = some i) (hz : i.zero = some z)
    (hsize : i.size = 1) (hby : i.bytes ≤ 64) (hzs : z.cells.size = 1) {w : World}
    {v : Value} {n : Nat} {xs : List Value} (hown : w.ownsRow 0 e2 1 v n xs)
    (a : Option Addr) (m c : Nat) (news : List Value) (hl : news.length = m) (hnews : m = 0 ∨ ∃ b, a = some b ∧ ∀ j u, news[j]? = some u → w.cell? (b.add j) = some u) (h1 : ∀ u ∈ news, u.oneCell' = true)
    (hsm : n + m ≤ 1099511627776) :
    ∃ v' w' e3, (Builtin.append_ #[t, t] ty #[v, .slice a m c]).run P w = .ok v' w' ∧ w'.ownsRow 0 e3 1 v' (n + m) (xs ++ news) ∧ w.grownBy w' (blk v) ∧
      (∀ b, blk v' = some b → blk v = some b ∨ w.heap.size ≤ b) ∧ (v = .slice none 0 0 → m = 0 → v' = .slice none 0 0) := by
  have hx : xs.length = n := by have := hown.1; omega
  have hfirst : (Builtin.firstCells 1 m (.slice a m c)).run P w = .ok news.toArray w := by
    rcases hnews with h0 | ⟨b, rfl, hn⟩
    · subst h0
      have : news = [] := List.eq_nil_of_length_eq_zero hl
      subst this
      cases a <;> simp [Builtin.firstCells, loadCells, loadCellsFrom]
    · exact run_firstCells_some (P := P) w 1 m b m c news (by omega) hn
  have hbyt : (n + m) * i.bytes ≤ 140737488355328 := by
    have := Nat.mul_le_mul hsm hby
    omega
  have hlen : (xs ++ news).length = (n + m) * 1 := by simp [hx, hl]
  have grown : ∀ old,
      (w.drew.alloc (.cells (xs.toArray ++ news.toArray ++ Builtin.zeroCells z.cells (grownCap w (n + m) old e - (n + m))) e)).ownsRow 0 e 1
        (.slice (some ⟨w.heap.size, 0, none⟩) (n + m) (grownCap w (n + m) old e)) (n + m) (xs ++ news) ∧
      ∀ row, w.grownBy (w.drew.alloc (.cells (xs.toArray ++ news.toArray ++ Builtin.zeroCells z.cells (grownCap w (n + m) old e - (n + m))) e)) row := by
    intro old
    have hge := grownCap_ge w (n + m) old e
    refine ⟨⟨hlen, .inr ⟨w.heap.size, _, _, rfl, Nat.zero_le _, heap_alloc_new w.drew _, hge, grownCap_le_maxLen w (n + m) old e (by unfold maxLen; omega), ?_, ?_⟩⟩,
      fun row => ⟨rfl, rfl, rfl, by simp, fun k hk _ => Below.heap_alloc w.drew _ k hk⟩⟩
    · simp only [Array.size_append, List.size_toArray, size_zeroCells, hzs, hx, hl]; omega
    · simp only [Array.toList_append, List.append_assoc, Nat.mul_one]
      rw [← List.append_assoc, show n + m = (xs ++ news).length by simp [hx, hl]]
      exact List.take_left
  rcases hown.2 with ⟨rfl, rfl⟩ | ⟨g, cap, cur, rfl, hbg, hg, hnc, hcm, hcs, htake⟩
  · have hxs : xs = [] := List.eq_nil_of_length_eq_zero hx
    subst hxs
    by_cases hm : m = 0
    · subst hm
      have hn : news = [] := List.eq_nil_of_length_eq_zero hl
      subst hn
      refine ⟨.slice none 0 0, w, e2, ?_, World.ownsRow_nil w 0 e2 1, grown_self _ _, fun b hb => by simp [blk] at hb, fun _ _ => rfl⟩
      simp [Builtin.append_, run_underlying ht, sizeOf, typeInfo, hi, hsize, Builtin.lenOf, hfirst]
    · rcases hnews with h0 | ⟨b, rfl, hn⟩
      · exact absurd h0 hm
      · have hr := run_append_nil (P := P) w t ty e i z ht hi hz b m c news (by rw [hsize]; omega) hn (by omega) (by omega) (by have hb := hbyt; simp only [Nat.zero_add] at hb; omega)
        have hgr := grown 0
        rw [show ([] : List Value).toArray = #[] from rfl, Array.empty_append] at hgr
        simp only [Nat.zero_add, List.nil_append] at hgr ⊢
        exact ⟨_, _, e, hr, hgr.1, hgr.2 _, fun b hb => .inr (by simp [blk] at hb; omega), fun _ h => absurd h hm⟩
  · by_cases hroom : n + m ≤ cap
    · have hfit : n + m ≤ cur.size := by omega
      have hr := run_append_room2 (P := P) t ty e e2 i ht hi hsize g n cap cur hg a m c news hl hfirst h1 hroom hfit
      refine ⟨_, _, e2, hr, ⟨hlen, .inr ⟨g, cap, _, rfl, hbg, setRow_heap w g cur _ e2 _ hg, hroom, hcm, ?_, ?_⟩⟩, ⟨rfl, rfl, rfl, by simp, fun k _ hk => setRow_other w g k _ (fun e => hk (by simp [blk, e]))⟩, fun b hb => .inl hb, fun h => by cases h⟩
      · simp only [List.size_toArray, List.length_append, List.length_take, List.length_drop, Array.length_toList]
        omega
      · have ht2 : List.take n cur.toList = xs := by simpa using htake
        rw [ht2, Nat.mul_one, show n + m = (xs ++ news).length by simp [hx, hl]]
        exact List.take_left
    · rcases hnews with h0 | ⟨b, rfl, hn⟩
      · omega
      · have holds : ∀ j u, xs[j]? = some u → w.cell? ((⟨g, 0, none⟩ : Addr).add j) = some u := hown.cells (g := g) rfl
        have hr := run_append_grow (P := P) w t ty e i z ht hi hz ⟨g, 0, none⟩ n cap xs (by rw [hsize]; omega) holds b m c news (by rw [hsize]; omega) hn (by omega) (by omega) (growslice_fits (by omega) hbyt)
        exact ⟨_, _, e, hr, (grown cap).1, (grown cap).2 _, fun b hb => .inr (by simp [blk] at hb; omega), fun h => by cases h⟩

theorem atom_one {c : Cx} {a : Atom} {y : Value} (h : AtomR c a y) : y.oneCell' = true := by
  cases a with
  | row xs => obtain ⟨a, cap, rfl, _⟩ := h; rfl
  | _ => have e := h; simp only [AtomR] at e; subst e; rfl

/-- The cells of a list that is seen. -/
theorem seen_list {c : Cx} {l : L} {v : Value} (h : Seen c l v) : ∃ (a : Option Addr) (cap : Nat) (news : List Value), v = .slice a l.len cap ∧ news.length = l.len ∧
    (l.len = 0 ∨ ∃ b, a = some b ∧ ∀ j u, news[j]? = some u → c.w.cell? (b.add j) = some u) ∧ (∀ j, j < l.len → ∃ y, news[j]? = some y ∧ AtomR c (l.at_ j) y) ∧ ∀ u ∈ news, u.oneCell' = true := by
  obtain ⟨a, cap, rfl, hc, h0⟩ := h
  rcases h0 with h0 | ⟨b, off, rfl, hcell⟩
  · exact ⟨a, cap, [], rfl, by simp [h0], .inl h0, fun j hj => by omega, by simp⟩
  · refine ⟨_, cap, (List.range l.len).map fun j => (c.w.cell? ⟨b, off + j, none⟩).getD undef, rfl, by simp, .inr ⟨_, rfl, fun j u hu => ?_⟩, fun j hj => ?_, fun u hu => ?_⟩
    · have hj : j < l.len := by
        rcases Nat.lt_or_ge j l.len with h | h
        · exact h
        · simp [List.getElem?_eq_none, h] at hu
      obtain ⟨y, hy, _⟩ := hcell j hj
      rw [add_none]
      simp [hj, hy] at hu
      rw [hy, hu]
    · obtain ⟨y, hy, hya⟩ := hcell j hj
      exact ⟨y, by simp [hj, hy], hya⟩
    · simp only [List.mem_map, List.mem_range] at hu
      obtain ⟨j, hj, rfl⟩ := hu
      obtain ⟨y, hy, hya⟩ := hcell j hj
      rw [hy]; exact atom_one hya

theorem app_ok (hr : Rel c) {t e ty : TypeId} {i : TypeInfo} {z : Value} (ht : P.underlying t = some (.slice e)) (hi : P.info? e = some i) (hz : i.zero = some z)
    (hsize : i.size = 1) (hby : i.bytes ≤ 64) (hzs : z.cells.size = 1) {s x : V} {κ : V → List E → R} {vs vx : Value} (h : appC s x c.h κ = some r) (hs : VR c s vs) (hx : VR c x vx) :
    ∃ v c' y, κ v c'.h = some r ∧ Ext c c' ∧ Rel c' ∧ VR c' v y ∧ (Builtin.append_ #[t, t] ty #[vs, vx]).run P c.w = .ok y c'.w := by
  unfold appC at h
  split at h
  · rename_i id
    obtain ⟨hid, rfl⟩ := (show id < c.h.length ∧ vs = c.hv id from hs)
    split at h
    · rename_i l m hl hm
      split at h
      · rename_i q hq
        obtain ⟨h1, h2⟩ := bif_some h
        have hq1 := L.app_len hq
        have hsm : l.len + m.len ≤ 1099511627776 := by have := of_decide_eq_true h1; omega
        obtain ⟨a, cap, news, rfl, hnl, hna, hnx, hn1⟩ := seen_list (list_ok hr hm hx)
        have he := hr.ent id hid
        rw [hl] at he
        obtain ⟨e2, xs, ho, ha⟩ := he
        have hxl : xs.length = l.len := by have := ho.1; omega
        have hal : (getE c.h id).alive = true := by rw [hl]; rfl
        obtain ⟨v', w', e3, hrun, ho', hg, hb, hnil⟩ := run_append_any (P := P) t ty e e2 i z ht hi hz hsize hby hzs ho a m.len cap news hnl hna hn1 hsm
        have hlt : ∀ b, blk v' = some b → b < w'.heap.size := fun b hb => by
          rcases ho'.2 with ⟨rfl, _⟩ | ⟨g, cap, cur, rfl, _, hgc, _⟩
          · simp [blk] at hb
          · simp [blk] at hb; subst hb; exact (Array.getElem?_eq_some_iff.1 hgc).1
        have hh : Handle v' := by
          obtain ⟨a, cap, rfl, _⟩ := own_cells ho'
          exact .inl ⟨_, _, _, rfl⟩
        have hE := Cx.ext_grow (e := .row q) (x := v') hid hal hg hb
        refine ⟨_, c.grow id (.row q) v' w', v', h2, hE, Cx.rel_grow hr hh hid hal hg (fun b hbb => ⟨hb b hbb, hlt b hbb⟩) ?_, ?_, hrun⟩
        · refine ⟨e3, xs ++ news, ?_, fun j hj => ?_⟩
          · have : (c.grow id (.row q) v' w').hv c.h.length = v' := by simp [Cx.grow]
            rw [this, hq1]; exact ho'
          · rw [L.app_at hq]
            by_cases hj' : j < l.len
            · obtain ⟨y, hy, hya⟩ := ha j hj'
              exact ⟨y, by rw [List.getElem?_append_left (by omega)]; exact hy, by rw [if_pos hj']; exact hE.atom hya⟩
            · obtain ⟨y, hy, hya⟩ := hnx (j - l.len) (by omega)
              exact ⟨y, by rw [List.getElem?_append_right (by omega), hxl]; exact hy, by rw [if_neg hj']; exact hE.atom hya⟩
        · show (c.h.length < (c.h.set id .dead ++ [E.row q]).length ∧ v' = (c.grow id (.row q) v' w').hv c.h.length)
          exact ⟨by simp, by simp [Cx.grow]⟩
      · cases h
    · cases h
  · have hvs : vs = .slice none 0 0 := hs
    subst hvs
    split at h
    · rename_i m hm
      obtain ⟨a, cap, news, rfl, hnl, hna, hnx, hn1⟩ := seen_list (list_ok hr hm hx)
      cases hm0 : (m.len == 0) with
      | true =>
        rw [hm0, cond_true] at h
        have hm0' : m.len = 0 := by simpa using hm0
        obtain ⟨v', w', e3, hrun, ho', hg, hb, hnil⟩ := run_append_any (P := P) t ty e e i z ht hi hz hsize hby hzs (World.ownsRow_nil c.w 0 e 1) a m.len cap news hnl hna hn1 (by omega)
        have hv' := hnil rfl hm0'
        subst hv'
        have hw : w' = c.w := by
          have hfirst : (Builtin.firstCells 1 m.len (.slice a m.len cap)).run P c.w = .ok news.toArray c.w := by
            have : news = [] := List.eq_nil_of_length_eq_zero (by omega)
            subst this
            rw [hm0']
            cases a <;> simp [Builtin.firstCells, loadCells, loadCellsFrom]
          have h2 : (Builtin.append_ #[t, t] ty #[.slice none 0 0, .slice a m.len cap]).run P c.w = .ok (.slice none 0 0) c.w := by
            simp [Builtin.append_, run_underlying ht, sizeOf, typeInfo, hi, hsize, Builtin.lenOf, hfirst, hm0']
            rw [hm0'] at hfirst
            simp [hfirst]
          rw [h2] at hrun; cases hrun; rfl
        subst hw
        exact ⟨.nil, c, _, h, Ext.refl c, hr, rfl, hrun⟩
      | false =>
        rw [hm0, cond_false] at h
        obtain ⟨h1, h2⟩ := bif_some h
        have hsm : 0 + m.len ≤ 1099511627776 := by have := of_decide_eq_true h1; omega
        obtain ⟨v', w', e3, hrun, ho', hg, hb, hnil⟩ := run_append_any (P := P) t ty e e i z ht hi hz hsize hby hzs (World.ownsRow_nil c.w 0 e 1) a m.len cap news hnl hna hn1 hsm
        rw [Nat.zero_add, List.nil_append] at ho'
        obtain ⟨hE, hR, hV⟩ := push_row hr (l := m) (x := v') hg ho' (fun b hbb => (hb b hbb).elim (fun h => by simp [blk] at h) id) (fun c' hE j hj => by
          obtain ⟨y, hy, hya⟩ := hnx j hj
          exact ⟨y, hy, hE.atom hya⟩)
        exact ⟨_, _, v', h2, hE, hR, hV, hrun⟩
    · cases h
  · cases h
end

end Go.Proofs.Ytonbbeplmjidnaa.D
