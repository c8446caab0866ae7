/- For every input the law FnExactPostCut answers true and leaves its arguments as they are. Conditions: none. -/
import Derived.Test.YtgpgifpblchjjaaRows
import Derived.WalkKit
import Derived.ProofKit
import Derived.OpenShut
import Derived.ShutString
import Derived.ChangeOld
import Derived.Below
import Derived.Deep.Strs
import Derived.Test.YtgpgifpblchjjaaHead
import Derived.Test.YtgpgifpblchjjaaBz

namespace Go.Proofs.Ytgpgifpblchjjaa.fnExactPostCut
open Go.ChangeShapes Go.WideShapes Go.ChangeAt Go.RowKit
open Go.ChangeMaps (open_string shut_string)
set_option linter.unusedVariables false

theorem own : ownKnob Try.prog.godebug = none := by kernel_rfl
theorem laidOut : laidOutB Try.prog = true := by kernel_rfl

def IsRow (k : IntKind) (w : World) (a : Option Addr) (len cap : Nat) (zs : List Int) : Prop :=
  (a = none ∧ len = 0 ∧ cap = 0 ∧ zs = []) ∨
  ∃ x, a = some x ∧ len ≤ cap ∧ cap ≤ maxLen ∧ zs.length = cap ∧ (∀ i, i < zs.length → w.cell? (x.add i) = some (.int k (zs.getD i 0))) ∧ ∀ n ∈ zs, (Lit.int k n).wf = true

theorem three {cs : Array Value} (h : cs.size = 3) : ∃ c0 c1 c2, cs = #[c0, c1, c2] := by
  obtain ⟨l⟩ := cs
  have h : l.length = 3 := h
  obtain ⟨a, l, rfl⟩ : ∃ a m, l = a :: m := by cases l with
    | nil => cases h
    | cons a m => exact ⟨a, m, rfl⟩
  obtain ⟨b, l, rfl⟩ : ∃ a m, l = a :: m := by cases l with
    | nil => cases h
    | cons a m => exact ⟨a, m, rfl⟩
  obtain ⟨c, l, rfl⟩ : ∃ a m, l = a :: m := by cases l with
    | nil => cases h
    | cons a m => exact ⟨a, m, rfl⟩
  cases l with
  | nil => exact ⟨a, b, c, rfl⟩
  | cons d m => simp at h
theorem postR {w : World} {L M : List Int} {n : Int} {x y : Value} (h1 : D.VR (D.topC w) (.ro true (.ints .i64 L)) x) (h2 : D.VR (D.topC w) (.ro true (.ints .u8 M)) y) :
    D.VR (D.topC w) (.agg [.ro true (.ints .i64 L), .int .i64 n, .ro true (.ints .u8 M)]) (.agg #[x, .int .i64 n, y]) :=
  ⟨#[x, .int .i64 n, y], rfl, rfl, fun j hj => by
    match j, hj with
    | 0, _ => exact h1
    | 1, _ => exact rfl
    | 2, _ => exact h2⟩

theorem walk (a0 : Option Addr) (len0 cap0 : Nat) (z0 : List Int) (n0 : Int) (b0 : Option Addr) (lenb0 capb0 : Nat) (zb0 : List Int) (a1 : Int) (w : World) (w0 : IsRow .i64 w a0 len0 cap0 z0) (wn0 : (Lit.int .i64 n0).wf = true) (wb0 : IsRow .u8 w b0 lenb0 capb0 zb0) (w1 : (Lit.int .i64 a1).wf = true) :
    Calls Try.prog 10 #[.agg #[.slice a0 len0 cap0, .int .i64 n0, .slice b0 lenb0 capb0], .int .i64 a1] w fun e w' => e = .returned (.bool true) ∧ Below w.heap.size w w' := by
  obtain ⟨L0, hl0, hm0, hw0, hr0⟩ := D.topC_row true w0
  obtain ⟨M0, hlb0, hmb0, hwb0, hrb0⟩ := D.topC_row true wb0
  refine L.FnExactPostCut_ok.calls (args := [.agg [.ro true (.ints .i64 L0), .int .i64 n0, .ro true (.ints .u8 M0)], .int .i64 a1]) (b := true) ?_ (D.argsR2 (postR hr0 hrb0) rfl)
  show D.optC (L.FnExactPostCut_t L0 n0 M0 a1) _ none = _
  rw [L.FnExactPostCut_is hm0 hw0 (bounds_i64 wn0) hmb0 hwb0 (bounds_i64 w1)]
  rfl

set_option maxRecDepth 100000 in
set_option maxHeartbeats 4000000 in
theorem lifted (os : Os) (started : os.Started) (H : Type) (enc : TypeId × Value → H) :
    ReturnsInHanded {} Try.checked os 10 .any (Rows.fnExactPostCutSpec.pre6 enc Try.prog Try.f10 Rows.fnExactPostCutRow.domain false) (Rows.fnExactPostCutSpec.post enc Try.prog Try.f10 false true false false) := by
  refine returnsInHanded_of_change (C := Try.checked) own started (by kernel_rfl) Try.func10
    (ChangeSpec.witness6 (enc := enc) (C := Try.checked) false ⟨#[], #[.agg #[.slice none 0 0, .int .i64 0, .slice none 0 0], .int .i64 0], []⟩ 8 (by kernel_rfl) (by kernel_rfl) (by kernel_rfl) (by kernel_rfl)) ?_
  intro W base args ds gs before hval0 hW hcnd _
  have hval : ∀ (j : Nat) t v, Try.f10.params[j]? = some t → args[j]? = some v → Value.okWide Try.prog W .any base t v := hval0
  have hW' := hW
  obtain ⟨p, q, hA0, hV, rfl, hfz, hnd⟩ := hW
  have hA : DataW.TrodAll enc Try.prog W 0 (fun _ => true) true Try.f10.params.toList args.toList ds p := hA0
  rw [Try.params10] at hA hval
  obtain ⟨v0, vs0, d0, ds0, p0, q0, hargs, rfl, rfl, h0, r0⟩ := trodAll_cons hA
  obtain ⟨v1, vs1, d1, ds1, p1, q1, rfl, rfl, rfl, h1, r1⟩ := trodAll_cons r0
  obtain ⟨rfl, rfl, rfl⟩ := trodAll_nil r1
  obtain rfl : args = #[v0, v1] := by cases args; simp_all
  obtain ⟨rfl, rfl⟩ := trodVars_none hV
  obtain ⟨cs0, rfl, hsz0⟩ := okWide_struct Try.underlying46 (hval 0 46 v0 rfl rfl)
  have k0 := h0
  have lt0 : ∀ x ∈ p0, x.block < W.heap.size := by obtain ⟨m, hm⟩ := k0; exact DataW.trod_lt m _ _ _ hm
  obtain ⟨a0, len0, cap0, z0, n0, b0, lenb0, capb0, zb0, rfl, w0, wn0, wb0⟩ : ∃ a len cap z n b lenb capb zb, cs0 = #[.slice a len cap, .int .i64 n, .slice b lenb capb] ∧ IsRow .i64 W a len cap z ∧ (Lit.int .i64 n).wf = true ∧ IsRow .u8 W b lenb capb zb := by
    obtain ⟨fuel, hf⟩ := h0
    rw [show Try.prog.cellsOf 46 = 3 by kernel_rfl] at hsz0
    obtain ⟨c0, c1, c2, rfl⟩ := three hsz0
    obtain ⟨y0, y1, y2, m, _, _, f0, f1, f2⟩ := Go.Deep.trod_struct3 Try.underlying46 hf
    rw [show Try.prog.cellsOf _ = 1 from (by kernel_rfl : Try.prog.cellsOf 23 = 1)] at f0
    rw [show Try.prog.cellsOf _ = 1 from (by kernel_rfl : Try.prog.cellsOf 3 = 1)] at f1
    rw [show Try.prog.cellsOf _ = 1 from (by kernel_rfl : Try.prog.cellsOf 22 = 1)] at f2
    obtain ⟨n, hn, _, wn⟩ := DataW.trod_int Try.underlying3 f1
    have hn : [c1] = [Value.int .i64 n] := hn
    obtain rfl : c1 = .int .i64 n := by simpa using hn
    have r0 : ∃ a len cap z, c0 = .slice a len cap ∧ IsRow .i64 W a len cap z := by
      rcases open_ints Try.underlying23 Try.underlying3 (by kernel_rfl) f0 with ⟨hcs, _⟩ | ⟨x, l, c, zs, hcs, _, hl, hm, hz, _, hcell, hwz⟩
      · have hcs : [c0] = [Value.slice none 0 0] := hcs
        exact ⟨none, 0, 0, [], by simpa using hcs, .inl ⟨rfl, rfl, rfl, rfl⟩⟩
      · have hcs : [c0] = [Value.slice (some x) l c] := hcs
        exact ⟨some x, l, c, zs, by simpa using hcs, .inr ⟨_, rfl, hl, hm, by simpa using hz, hcell, hwz⟩⟩
    have r2 : ∃ a len cap z, c2 = .slice a len cap ∧ IsRow .u8 W a len cap z := by
      rcases open_ints Try.underlying22 Try.underlying5 (by kernel_rfl) f2 with ⟨hcs, _⟩ | ⟨x, l, c, zs, hcs, _, hl, hm, hz, _, hcell, hwz⟩
      · have hcs : [c2] = [Value.slice none 0 0] := hcs
        exact ⟨none, 0, 0, [], by simpa using hcs, .inl ⟨rfl, rfl, rfl, rfl⟩⟩
      · have hcs : [c2] = [Value.slice (some x) l c] := hcs
        exact ⟨some x, l, c, zs, by simpa using hcs, .inr ⟨_, rfl, hl, hm, by simpa using hz, hcell, hwz⟩⟩
    obtain ⟨a, len, cap, z, rfl, q0⟩ := r0
    obtain ⟨b, lenb, capb, zb, rfl, q2⟩ := r2
    exact ⟨a, len, cap, z, n, b, lenb, capb, zb, rfl, q0, wn, q2⟩
  obtain ⟨a1, rfl, rfl, rfl, w1⟩ := open_int Try.underlying3 (hval 1 3 v1 rfl rfl) h1
  clear hA0 hval0
  refine (walk a0 len0 cap0 z0 n0 b0 lenb0 capb0 zb0 a1 W w0 wn0 wb0 w1).mono fun e W' ⟨he, bel⟩ => ?_
  subst he
  exact ⟨_, rfl, _, _, _, [], _, [], hW', trodAll_mk1 (shut_bool Try.underlying4 _), (trodAll_cons_mk (Below.trod laidOut (by kernel_rfl) (of_decide_eq_true (by kernel_rfl)) k0 bel lt0) (trodAll_cons_mk (shut_int Try.underlying3 w1) trodAll_mk0)), rfl, bel.frame _, fun h => by cases h⟩

theorem closed : joinedFacts Try.prog 10 Try.f10 Rows.fnExactPostCutSpec Rows.fnExactPostCutRow = true := by
  rw [joinedFacts.eq_1, headFinal, headMay, headMake]
  kernel_rfl

theorem over : Rows.fnExactPostCutRow.holds Try.pinned (OpenSpec.ofChange Rows.fnExactPostCutSpec) :=
  OpenClaim.holds_of_wide 10 Try.f10 rfl rfl rfl rfl rfl rfl rfl ⟨rfl, rfl, rfl, rfl, rfl⟩ rfl rfl rfl rfl rfl (by kernel_rfl) Try.func10 closed
    (of_decide_eq_true (by kernel_rfl)) (by unfold Func.isWrapper; first | (rw [if_pos (by decide +kernel)]; kernel_rfl) | (rw [if_neg (by decide +kernel)]; exact ⟨rfl, rfl⟩))
    (fun os started H enc _ => lifted os started H enc)

theorem proved : Rows.FnExactPostCutSaid := over
#print axioms proved
end Go.Proofs.Ytgpgifpblchjjaa.fnExactPostCut
