/- For every input the law FnExactNetOk answers true and leaves its arguments as they are: NetOk of the program answers as the model's. Conditions: none. -/
import Derived.Test.YtpgcbaaopeinkaaRows
import Derived.WalkKit
import Derived.ProofKit
import Derived.OpenShut
import Derived.ShutString
import Derived.ChangeOld
import Derived.Below
import Derived.Test.YtpgcbaaopeinkaaHead
import Derived.Test.YtpgcbaaopeinkaaWm
import Derived.Test.YtpgcbaaopeinkaaWi1
import Derived.Test.YtpgcbaaopeinkaaWs1
import Derived.Test.YtpgcbaaopeinkaaWl1
import Derived.Test.YtpgcbaaopeinkaaE1
namespace Go.Proofs.Ytpgcbaaopeinkaa
open Go.RowKit
set_option linter.unusedVariables false
set_option linter.unusedSimpArgs false

theorem L.FnExactNetOk_calls {net : List Int} {a_net : Option Addr} {c_net : Nat} {w : World} (r_net : Row w a_net net)  :
    Calls Try.prog 11 #[.slice a_net net.length c_net] w fun e w' => e = .returned (.bool true) ∧ Below w.heap.size w w' := by
  have le_a := r_net.le
  by_cases hbig : (1048576 : Int) < (net.length : Int)
  · go_enter Try.func11, Try.ntmps11
    go_wp2
    go_ret
    exact ⟨rfl, Below.refl _ _⟩
  · have hl : net.length ≤ 1048576 := by omega
    have heq : (I.NetOk net == S.NetOk net) = true := by rw [eq_NetOk]; simp
    have hee : L.eqIntS net net = true := (L.eqIntS_iff net net).2 rfl
    go_enter Try.func11, Try.ntmps11
    go_wp2_with fail
    refine (L.toIntS_calls r_net hl).mono ?_
    rintro e w1 ⟨v1, rfl, hO1, hB1⟩
    obtain ⟨a1, c1, rfl, hr1⟩ := hO1.row le_a
    have hr1a := r_net.below hB1
    go_wp2_with fail
    refine (S.NetOk_calls hr1 ).mono ?_
    rintro e w' ⟨rfl, m1, rfl⟩
    have t1 := below_drewN' hB1 m1
    go_wp2_with fail
    refine (L.toIntS_calls (hr1a.drewN m1) hl).mono ?_
    rintro e w2 ⟨v2, rfl, hO2, hB2⟩
    obtain ⟨a2, c2, rfl, hr2⟩ := hO2.row le_a
    have hr2a := Row.below (hr1a.drewN m1) hB2
    have t2 := below_on t1 hB2
    go_wp2_with fail
    refine (I.NetOk_calls hr2 ).mono ?_
    rintro e w' ⟨rfl, rfl⟩
    have t3 := below_same t2
    go_wp2_with fail
    refine (L.toIntS_calls hr2a hl).mono ?_
    rintro e w3 ⟨v3, rfl, hO3, hB3⟩
    obtain ⟨a3, c3, rfl, hr3⟩ := hO3.row le_a
    have hr3a := Row.below hr2 hB3
    have t4 := below_on t3 hB3
    go_wp2_with fail
    refine (L.eqIntS_calls hr3a hr3 ).mono ?_
    rintro e w' ⟨rfl, m3, rfl⟩
    have t5 := below_drewN' t4 m3
    go_wp2_with fail
    go_ret
    exact ⟨rfl, t5⟩
end Go.Proofs.Ytpgcbaaopeinkaa

namespace Go.Proofs.Ytpgcbaaopeinkaa.fnExactNetOk
open Go.ChangeShapes Go.WideShapes Go.ChangeAt Go.RowKit
open Go.ChangeMaps (open_string shut_string)
set_option linter.unusedVariables false

theorem own : ownKnob Try.prog.godebug = none := by kernel_rfl
theorem laidOut : laidOutB Try.prog = true := by kernel_rfl

def IsRow (k : IntKind) (w : World) (a : Option Addr) (len cap : Nat) (zs : List Int) : Prop :=
  (a = none ∧ len = 0 ∧ cap = 0 ∧ zs = []) ∨
  ∃ x, a = some x ∧ len ≤ cap ∧ cap ≤ maxLen ∧ zs.length = cap ∧ (∀ i, i < zs.length → w.cell? (x.add i) = some (.int k (zs.getD i 0))) ∧ ∀ n ∈ zs, (Lit.int k n).wf = true

theorem isRow {w : World} {a : Option Addr} {len cap : Nat} {zs : List Int} (h : IsRow .i64 w a len cap zs) : ∃ L : List Int, L.length = len ∧ Row w a L := by
  rcases h with ⟨rfl, rfl, rfl, rfl⟩ | ⟨x, rfl, hl, hm, hz, hcell, hwz⟩
  · exact ⟨[], rfl, Row.nil _ _⟩
  · have hL : (zs.take len).length = len := by rw [List.length_take]; omega
    refine ⟨zs.take len, hL, by rw [hL]; unfold maxLen at hm; omega, ?_⟩
    by_cases h0 : len = 0
    · exact .inl (by rw [hL]; exact h0)
    · obtain ⟨b, off, spot⟩ := x
      have hspot : spot = none := by simpa [Addr.add] using World.cell?_spot (hcell 0 (by omega))
      subst hspot
      refine .inr ⟨b, off, rfl, fun j hj => ?_⟩
      have hj' : j < len := by rw [hL] at hj; exact hj
      have := hcell j (by omega)
      have e : el (zs.take len) j = zs.getD j 0 := by simp [el, List.getD, hj']
      rw [e, ← this]
      by_cases hj0 : j = 0
      · subst hj0; simp [Addr.add]
      · simp [Addr.add, hj0]
theorem walk (a0 : Option Addr) (len0 cap0 : Nat) (z0 : List Int) (w : World) (w0 : IsRow .i64 w a0 len0 cap0 z0) :
    Calls Try.prog 11 #[.slice a0 len0 cap0] w fun e w' => e = .returned (.bool true) ∧ Below w.heap.size w w' := by
  obtain ⟨L0, rfl, hr0⟩ := isRow w0
  exact L.FnExactNetOk_calls hr0 

set_option maxRecDepth 100000 in
theorem lifted (os : Os) (started : os.Started) (H : Type) (enc : TypeId × Value → H) :
    ReturnsInHanded {} Try.checked os 11 .any (Rows.fnExactNetOkSpec.pre6 enc Try.prog Try.f11 Rows.fnExactNetOkRow.domain false) (Rows.fnExactNetOkSpec.post enc Try.prog Try.f11 false true false false) := by
  refine returnsInHanded_of_change (C := Try.checked) own started (by kernel_rfl) Try.func11
    (ChangeSpec.witness6 (enc := enc) (C := Try.checked) false ⟨#[], #[.slice none 0 0], []⟩ 8 (by kernel_rfl) (by kernel_rfl) (by kernel_rfl) (by kernel_rfl)) ?_
  intro W base args ds gs before hval0 hW hcnd _
  have hval : ∀ (j : Nat) t v, Try.f11.params[j]? = some t → args[j]? = some v → Value.okWide Try.prog W .any base t v := hval0
  have hW' := hW
  obtain ⟨p, q, hA0, hV, rfl, hfz, hnd⟩ := hW
  have hA : DataW.TrodAll enc Try.prog W 0 (fun _ => true) true Try.f11.params.toList args.toList ds p := hA0
  rw [Try.params11] at hA hval
  obtain ⟨v0, vs0, d0, ds0, p0, q0, hargs, rfl, rfl, h0, r0⟩ := trodAll_cons hA
  obtain ⟨rfl, rfl, rfl⟩ := trodAll_nil r0
  obtain rfl : args = #[v0] := by cases args; simp_all
  obtain ⟨rfl, rfl⟩ := trodVars_none hV
  obtain ⟨a0, len0, cap0, rfl⟩ := okWide_slice Try.underlying23 (hval 0 23 v0 rfl rfl)
  have k0 := h0
  have lt0 : ∀ x ∈ p0, x.block < W.heap.size := by obtain ⟨m, hm⟩ := k0; exact DataW.trod_lt m _ _ _ hm
  obtain ⟨z0, w0⟩ : ∃ zs, IsRow .i64 W a0 len0 cap0 zs := by
    obtain ⟨fuel, hf⟩ := h0
    rcases open_ints Try.underlying23 Try.underlying3 (by kernel_rfl) hf with ⟨hcs, _⟩ | ⟨x, l, c, zs, hcs, _, hl, hm, hz, _, hcell, hwz⟩
    · simp [Value.cells] at hcs
      obtain ⟨rfl, rfl, rfl⟩ := hcs
      exact ⟨[], .inl ⟨rfl, rfl, rfl, rfl⟩⟩
    · simp [Value.cells] at hcs
      obtain ⟨rfl, rfl, rfl⟩ := hcs
      exact ⟨zs, .inr ⟨_, rfl, hl, hm, by simpa using hz, hcell, hwz⟩⟩
  clear hA0 hval0
  refine (walk a0 len0 cap0 z0 W w0).mono fun e W' ⟨he, bel⟩ => ?_
  subst he
  exact ⟨_, rfl, _, _, _, [], _, [], hW', trodAll_mk1 (shut_bool Try.underlying4 _), (trodAll_cons_mk (Below.trod laidOut (by kernel_rfl) (of_decide_eq_true (by kernel_rfl)) k0 bel lt0) trodAll_mk0), rfl, bel.frame _, fun h => by cases h⟩

theorem closed : joinedFacts Try.prog 11 Try.f11 Rows.fnExactNetOkSpec Rows.fnExactNetOkRow = true := by
  rw [joinedFacts.eq_1, headFinal, headMay, headMake]
  kernel_rfl

theorem over : Rows.fnExactNetOkRow.holds Try.pinned (OpenSpec.ofChange Rows.fnExactNetOkSpec) :=
  OpenClaim.holds_of_wide 11 Try.f11 rfl rfl rfl rfl rfl rfl rfl ⟨rfl, rfl, rfl, rfl, rfl⟩ rfl rfl rfl rfl rfl (by kernel_rfl) Try.func11 closed
    (of_decide_eq_true (by kernel_rfl)) (by unfold Func.isWrapper; first | (rw [if_pos (by decide +kernel)]; kernel_rfl) | (rw [if_neg (by decide +kernel)]; exact ⟨rfl, rfl⟩))
    (fun os started H enc _ => lifted os started H enc)

theorem proved : Rows.FnExactNetOkSaid := over
#print axioms proved
end Go.Proofs.Ytpgcbaaopeinkaa.fnExactNetOk
