/- Twins of the translated functions, with their proofs. Conditions: none. -/
import Derived.Test.YtonbbeplmjidnaaT2
set_option linter.unusedVariables false
set_option linter.unusedSimpArgs false
namespace Go.Proofs.Ytonbbeplmjidnaa
open D Go.RowKit
-- loop.example/guardsonnets/impl.chainWith
noncomputable def I.chainWith_T : List (Nat × D.Spec) := [(62, I.sizeOf_s), (94, I.fullNeedsIn_s), (86, I.watchIn_s), (63, I.fullApartIn_s), (70, I.apartIn_s), (79, I.leastWatchIn_s), (95, I.needsAllIn_s)]
def I.chainWith_ann : Nat → List Nat × List Nat
  | _ => ([], [])
noncomputable def I.chainWith_F (args : List V) (h : List E) (κ : V → List E → R) : R := funC TD (tableK I.chainWith_T) I.chainWith_ann (drawOk (tableP I.chainWith_T)) FUEL Try.f89 args h κ
noncomputable def I.chainWith_tree {α : Type} (found0 : Int) (found1 : Int) (found2 : Int) (found3 : Int) (found4 : Int) (found5 : Int) (net : List Int) (set_ : Int) (leaf0_ : Int × Int × Int × Int × Int × Int → α) (fail_ : α) : α :=
  (optC (I.sizeOf_t set_) (fun c_1 => (bif decide (c_1 < found0) then (optC (I.fullNeedsIn_t net set_) (fun c_2 => (bif c_2 then (bif decide (c_1 < found1) then (optC (I.watchIn_t net set_) (fun c_3 => (bif c_3 then (bif decide (c_1 < found2) then (optC (I.fullApartIn_t net set_) (fun c_4 => (bif c_4 then (bif decide (c_1 > found3) then (optC (I.apartIn_t net set_) (fun c_5 => (bif c_5 then (bif decide (c_1 > found4) then (optC (I.leastWatchIn_t net set_) (fun c_6 => (bif c_6 then (bif decide (c_1 > found5) then (optC (I.needsAllIn_t net set_) (fun c_7 => (bif c_7 then (leaf0_ (c_1, c_1, c_1, c_1, c_1, c_1)) else (leaf0_ (c_1, c_1, c_1, c_1, c_1, found5)))) fail_) else (leaf0_ (c_1, c_1, c_1, c_1, c_1, found5))) else (bif decide (c_1 > found5) then (optC (I.needsAllIn_t net set_) (fun c_8 => (bif c_8 then (leaf0_ (c_1, c_1, c_1, c_1, found4, c_1)) else (leaf0_ (c_1, c_1, c_1, c_1, found4, found5)))) fail_) else (leaf0_ (c_1, c_1, c_1, c_1, found4, found5))))) fail_) else (bif decide (c_1 > found5) then (optC (I.needsAllIn_t net set_) (fun c_9 => (bif c_9 then (leaf0_ (c_1, c_1, c_1, c_1, found4, c_1)) else (leaf0_ (c_1, c_1, c_1, c_1, found4, found5)))) fail_) else (leaf0_ (c_1, c_1, c_1, c_1, found4, found5)))) else (bif decide (c_1 > found4) then (optC (I.leastWatchIn_t net set_) (fun c_10 => (bif c_10 then (bif decide (c_1 > found5) then (optC (I.needsAllIn_t net set_) (fun c_11 => (bif c_11 then (leaf0_ (c_1, c_1, c_1, found3, c_1, c_1)) else (leaf0_ (c_1, c_1, c_1, found3, c_1, found5)))) fail_) else (leaf0_ (c_1, c_1, c_1, found3, c_1, found5))) else (bif decide (c_1 > found5) then (optC (I.needsAllIn_t net set_) (fun c_12 => (bif c_12 then (leaf0_ (c_1, c_1, c_1, found3, found4, c_1)) else (leaf0_ (c_1, c_1, c_1, found3, found4, found5)))) fail_) else (leaf0_ (c_1, c_1, c_1, found3, found4, found5))))) fail_) else (bif decide (c_1 > found5) then (optC (I.needsAllIn_t net set_) (fun c_13 => (bif c_13 then (leaf0_ (c_1, c_1, c_1, found3, found4, c_1)) else (leaf0_ (c_1, c_1, c_1, found3, found4, found5)))) fail_) else (leaf0_ (c_1, c_1, c_1, found3, found4, found5)))))) fail_) else (bif decide (c_1 > found4) then (optC (I.leastWatchIn_t net set_) (fun c_14 => (bif c_14 then (bif decide (c_1 > found5) then (optC (I.needsAllIn_t net set_) (fun c_15 => (bif c_15 then (leaf0_ (c_1, c_1, c_1, found3, c_1, c_1)) else (leaf0_ (c_1, c_1, c_1, found3, c_1, found5)))) fail_) else (leaf0_ (c_1, c_1, c_1, found3, c_1, found5))) else (bif decide (c_1 > found5) then (optC (I.needsAllIn_t net set_) (fun c_16 => (bif c_16 then (leaf0_ (c_1, c_1, c_1, found3, found4, c_1)) else (leaf0_ (c_1, c_1, c_1, found3, found4, found5)))) fail_) else (leaf0_ (c_1, c_1, c_1, found3, found4, found5))))) fail_) else (bif decide (c_1 > found5) then (optC (I.needsAllIn_t net set_) (fun c_17 => (bif c_17 then (leaf0_ (c_1, c_1, c_1, found3, found4, c_1)) else (leaf0_ (c_1, c_1, c_1, found3, found4, found5)))) fail_) else (leaf0_ (c_1, c_1, c_1, found3, found4, found5))))) else (bif decide (c_1 > found3) then (optC (I.apartIn_t net set_) (fun c_18 => (bif c_18 then (bif decide (c_1 > found4) then (optC (I.leastWatchIn_t net set_) (fun c_19 => (bif c_19 then (bif decide (c_1 > found5) then (optC (I.needsAllIn_t net set_) (fun c_20 => (bif c_20 then (leaf0_ (c_1, c_1, found2, c_1, c_1, c_1)) else (leaf0_ (c_1, c_1, found2, c_1, c_1, found5)))) fail_) else (leaf0_ (c_1, c_1, found2, c_1, c_1, found5))) else (bif decide (c_1 > found5) then (optC (I.needsAllIn_t net set_) (fun c_21 => (bif c_21 then (leaf0_ (c_1, c_1, found2, c_1, found4, c_1)) else (leaf0_ (c_1, c_1, found2, c_1, found4, found5)))) fail_) else (leaf0_ (c_1, c_1, found2, c_1, found4, found5))))) fail_) else (bif decide (c_1 > found5) then (optC (I.needsAllIn_t net set_) (fun c_22 => (bif c_22 then (leaf0_ (c_1, c_1, found2, c_1, found4, c_1)) else (leaf0_ (c_1, c_1, found2, c_1, found4, found5)))) fail_) else (leaf0_ (c_1, c_1, found2, c_1, found4, found5)))) else (bif decide (c_1 > found4) then (optC (I.leastWatchIn_t net set_) (fun c_23 => (bif c_23 then (bif decide (c_1 > found5) then (optC (I.needsAllIn_t net set_) (fun c_24 => (bif c_24 then (leaf0_ (c_1, c_1, found2, found3, c_1, c_1)) else (leaf0_ (c_1, c_1, found2, found3, c_1, found5)))) fail_) else (leaf0_ (c_1, c_1, found2, found3, c_1, found5))) else (bif decide (c_1 > found5) then (optC (I.needsAllIn_t net set_) (fun c_25 => (bif c_25 then (leaf0_ (c_1, c_1, found2, found3, found4, c_1)) else (leaf0_ (c_1, c_1, found2, found3, found4, found5)))) fail_) else (leaf0_ (c_1, c_1, found2, found3, found4, found5))))) fail_) else (bif decide (c_1 > found5) then (optC (I.needsAllIn_t net set_) (fun c_26 => (bif c_26 then (leaf0_ (c_1, c_1, found2, found3, found4, c_1)) else (leaf0_ (c_1, c_1, found2, found3, found4, found5)))) fail_) else (leaf0_ (c_1, c_1, found2, found3, found4, found5)))))) fail_) else (bif decide (c_1 > found4) then (optC (I.leastWatchIn_t net set_) (fun c_27 => (bif c_27 then (bif decide (c_1 > found5) then (optC (I.needsAllIn_t net set_) (fun c_28 => (bif c_28 then (leaf0_ (c_1, c_1, found2, found3, c_1, c_1)) else (leaf0_ (c_1, c_1, found2, found3, c_1, found5)))) fail_) else (leaf0_ (c_1, c_1, found2, found3, c_1, found5))) else (bif decide (c_1 > found5) then (optC (I.needsAllIn_t net set_) (fun c_29 => (bif c_29 then (leaf0_ (c_1, c_1, found2, found3, found4, c_1)) else (leaf0_ (c_1, c_1, found2, found3, found4, found5)))) fail_) else (leaf0_ (c_1, c_1, found2, found3, found4, found5))))) fail_) else (bif decide (c_1 > found5) then (optC (I.needsAllIn_t net set_) (fun c_30 => (bif c_30 then (leaf0_ (c_1, c_1, found2, found3, found4, c_1)) else (leaf0_ (c_1, c_1, found2, found3, found4, found5)))) fail_) else (leaf0_ (c_1, c_1, found2, found3, found4, found5))))))) fail_) else (bif decide (c_1 > found3) then (optC (I.apartIn_t net set_) (fun c_31 => (bif c_31 then (bif decide (c_1 > found4) then (optC (I.leastWatchIn_t net set_) (fun c_32 => (bif c_32 then (bif decide (c_1 > found5) then (optC (I.needsAllIn_t net set_) (fun c_33 => (bif c_33 then (leaf0_ (c_1, c_1, found2, c_1, c_1, c_1)) else (leaf0_ (c_1, c_1, found2, c_1, c_1, found5)))) fail_) else (leaf0_ (c_1, c_1, found2, c_1, c_1, found5))) else (bif decide (c_1 > found5) then (optC (I.needsAllIn_t net set_) (fun c_34 => (bif c_34 then (leaf0_ (c_1, c_1, found2, c_1, found4, c_1)) else (leaf0_ (c_1, c_1, found2, c_1, found4, found5)))) fail_) else (leaf0_ (c_1, c_1, found2, c_1, found4, found5))))) fail_) else (bif decide (c_1 > found5) then (optC (I.needsAllIn_t net set_) (fun c_35 => (bif c_35 then (leaf0_ (c_1, c_1, found2, c_1, found4, c_1)) else (leaf0_ (c_1, c_1, found2, c_1, found4, found5)))) fail_) else (leaf0_ (c_1, c_1, found2, c_1, found4, found5)))) else (bif decide (c_1 > found4) then (optC (I.leastWatchIn_t net set_) (fun c_36 => (bif c_36 then (bif decide (c_1 > found5) then (optC (I.needsAllIn_t net set_) (fun c_37 => (bif c_37 then (leaf0_ (c_1, c_1, found2, found3, c_1, c_1)) else (leaf0_ (c_1, c_1, found2, found3, c_1, found5)))) fail_) else (leaf0_ (c_1, c_1, found2, found3, c_1, found5))) else (bif decide (c_1 > found5) then (optC (I.needsAllIn_t net set_) (fun c_38 => (bif c_38 then (leaf0_ (c_1, c_1, found2, found3, found4, c_1)) else (leaf0_ (c_1, c_1, found2, found3, found4, found5)))) fail_) else (leaf0_ (c_1, c_1, found2, found3, found4, found5))))) fail_) else (bif decide (c_1 > found5) then (optC (I.needsAllIn_t net set_) (fun c_39 => (bif c_39 then (leaf0_ (c_1, c_1, found2, found3, found4, c_1)) else (leaf0_ (c_1, c_1, found2, found3, found4, found5)))) fail_) else (leaf0_ (c_1, c_1, found2, found3, found4, found5)))))) fail_) else (bif decide (c_1 > found4) then (optC (I.leastWatchIn_t net set_) (fun c_40 => (bif c_40 then (bif decide (c_1 > found5) then (optC (I.needsAllIn_t net set_) (fun c_41 => (bif c_41 then (leaf0_ (c_1, c_1, found2, found3, c_1, c_1)) else (leaf0_ (c_1, c_1, found2, found3, c_1, found5)))) fail_) else (leaf0_ (c_1, c_1, found2, found3, c_1, found5))) else (bif decide (c_1 > found5) then (optC (I.needsAllIn_t net set_) (fun c_42 => (bif c_42 then (leaf0_ (c_1, c_1, found2, found3, found4, c_1)) else (leaf0_ (c_1, c_1, found2, found3, found4, found5)))) fail_) else (leaf0_ (c_1, c_1, found2, found3, found4, found5))))) fail_) else (bif decide (c_1 > found5) then (optC (I.needsAllIn_t net set_) (fun c_43 => (bif c_43 then (leaf0_ (c_1, c_1, found2, found3, found4, c_1)) else (leaf0_ (c_1, c_1, found2, found3, found4, found5)))) fail_) else (leaf0_ (c_1, c_1, found2, found3, found4, found5)))))) else (bif decide (c_1 < found2) then (optC (I.fullApartIn_t net set_) (fun c_44 => (bif c_44 then (bif decide (c_1 > found3) then (optC (I.apartIn_t net set_) (fun c_45 => (bif c_45 then (bif decide (c_1 > found4) then (optC (I.leastWatchIn_t net set_) (fun c_46 => (bif c_46 then (bif decide (c_1 > found5) then (optC (I.needsAllIn_t net set_) (fun c_47 => (bif c_47 then (leaf0_ (c_1, found1, c_1, c_1, c_1, c_1)) else (leaf0_ (c_1, found1, c_1, c_1, c_1, found5)))) fail_) else (leaf0_ (c_1, found1, c_1, c_1, c_1, found5))) else (bif decide (c_1 > found5) then (optC (I.needsAllIn_t net set_) (fun c_48 => (bif c_48 then (leaf0_ (c_1, found1, c_1, c_1, found4, c_1)) else (leaf0_ (c_1, found1, c_1, c_1, found4, found5)))) fail_) else (leaf0_ (c_1, found1, c_1, c_1, found4, found5))))) fail_) else (bif decide (c_1 > found5) then (optC (I.needsAllIn_t net set_) (fun c_49 => (bif c_49 then (leaf0_ (c_1, found1, c_1, c_1, found4, c_1)) else (leaf0_ (c_1, found1, c_1, c_1, found4, found5)))) fail_) else (leaf0_ (c_1, found1, c_1, c_1, found4, found5)))) else (bif decide (c_1 > found4) then (optC (I.leastWatchIn_t net set_) (fun c_50 => (bif c_50 then (bif decide (c_1 > found5) then (optC (I.needsAllIn_t net set_) (fun c_51 => (bif c_51 then (leaf0_ (c_1, found1, c_1, found3, c_1, c_1)) else (leaf0_ (c_1, found1, c_1, found3, c_1, found5)))) fail_) else (leaf0_ (c_1, found1, c_1, found3, c_1, found5))) else (bif decide (c_1 > found5) then (optC (I.needsAllIn_t net set_) (fun c_52 => (bif c_52 then (leaf0_ (c_1, found1, c_1, found3, found4, c_1)) else (leaf0_ (c_1, found1, c_1, found3, found4, found5)))) fail_) else (leaf0_ (c_1, found1, c_1, found3, found4, found5))))) fail_) else (bif decide (c_1 > found5) then (optC (I.needsAllIn_t net set_) (fun c_53 => (bif c_53 then (leaf0_ (c_1, found1, c_1, found3, found4, c_1)) else (leaf0_ (c_1, found1, c_1, found3, found4, found5)))) fail_) else (leaf0_ (c_1, found1, c_1, found3, found4, found5)))))) fail_) else (bif decide (c_1 > found4) then (optC (I.leastWatchIn_t net set_) (fun c_54 => (bif c_54 then (bif decide (c_1 > found5) then (optC (I.needsAllIn_t net set_) (fun c_55 => (bif c_55 then (leaf0_ (c_1, found1, c_1, found3, c_1, c_1)) else (leaf0_ (c_1, found1, c_1, found3, c_1, found5)))) fail_) else (leaf0_ (c_1, found1, c_1, found3, c_1, found5))) else (bif decide (c_1 > found5) then (optC (I.needsAllIn_t net set_) (fun c_56 => (bif c_56 then (leaf0_ (c_1, found1, c_1, found3, found4, c_1)) else (leaf0_ (c_1, found1, c_1, found3, found4, found5)))) fail_) else (leaf0_ (c_1, found1, c_1, found3, found4, found5))))) fail_) else (bif decide (c_1 > found5) then (optC (I.needsAllIn_t net set_) (fun c_57 => (bif c_57 then (leaf0_ (c_1, found1, c_1, found3, found4, c_1)) else (leaf0_ (c_1, found1, c_1, found3, found4, found5)))) fail_) else (leaf0_ (c_1, found1, c_1, found3, found4, found5))))) else (bif decide (c_1 > found3) then (optC (I.apartIn_t net set_) (fun c_58 => (bif c_58 then (bif decide (c_1 > found4) then (optC (I.leastWatchIn_t net set_) (fun c_59 => (bif c_59 then (bif decide (c_1 > found5) then (optC (I.needsAllIn_t net set_) (fun c_60 => (bif c_60 then (leaf0_ (c_1, found1, found2, c_1, c_1, c_1)) else (leaf0_ (c_1, found1, found2, c_1, c_1, found5)))) fail_) else (leaf0_ (c_1, found1, found2, c_1, c_1, found5))) else (bif decide (c_1 > found5) then (optC (I.needsAllIn_t net set_) (fun c_61 => (bif c_61 then (leaf0_ (c_1, found1, found2, c_1, found4, c_1)) else (leaf0_ (c_1, found1, found2, c_1, found4, found5)))) fail_) else (leaf0_ (c_1, found1, found2, c_1, found4, found5))))) fail_) else (bif decide (c_1 > found5) then (optC (I.needsAllIn_t net set_) (fun c_62 => (bif c_62 then (leaf0_ (c_1, found1, found2, c_1, found4, c_1)) else (leaf0_ (c_1, found1, found2, c_1, found4, found5)))) fail_) else (leaf0_ (c_1, found1, found2, c_1, found4, found5)))) else (bif decide (c_1 > found4) then (optC (I.leastWatchIn_t net set_) (fun c_63 => (bif c_63 then (bif decide (c_1 > found5) then (optC (I.needsAllIn_t net set_) (fun c_64 => (bif c_64 then (leaf0_ (c_1, found1, found2, found3, c_1, c_1)) else (leaf0_ (c_1, found1, found2, found3, c_1, found5)))) fail_) else (leaf0_ (c_1, found1, found2, found3, c_1, found5))) else (bif decide (c_1 > found5) then (optC (I.needsAllIn_t net set_) (fun c_65 => (bif c_65 then (leaf0_ (c_1, found1, found2, found3, found4, c_1)) else (leaf0_ (c_1, found1, found2, found3, found4, found5)))) fail_) else (leaf0_ (c_1, found1, found2, found3, found4, found5))))) fail_) else (bif decide (c_1 > found5) then (optC (I.needsAllIn_t net set_) (fun c_66 => (bif c_66 then (leaf0_ (c_1, found1, found2, found3, found4, c_1)) else (leaf0_ (c_1, found1, found2, found3, found4, found5)))) fail_) else (leaf0_ (c_1, found1, found2, found3, found4, found5)))))) fail_) else (bif decide (c_1 > found4) then (optC (I.leastWatchIn_t net set_) (fun c_67 => (bif c_67 then (bif decide (c_1 > found5) then (optC (I.needsAllIn_t net set_) (fun c_68 => (bif c_68 then (leaf0_ (c_1, found1, found2, found3, c_1, c_1)) else (leaf0_ (c_1, found1, found2, found3, c_1, found5)))) fail_) else (leaf0_ (c_1, found1, found2, found3, c_1, found5))) else (bif decide (c_1 > found5) then (optC (I.needsAllIn_t net set_) (fun c_69 => (bif c_69 then (leaf0_ (c_1, found1, found2, found3, found4, c_1)) else (leaf0_ (c_1, found1, found2, found3, found4, found5)))) fail_) else (leaf0_ (c_1, found1, found2, found3, found4, found5))))) fail_) else (bif decide (c_1 > found5) then (optC (I.needsAllIn_t net set_) (fun c_70 => (bif c_70 then (leaf0_ (c_1, found1, found2, found3, found4, c_1)) else (leaf0_ (c_1, found1, found2, found3, found4, found5)))) fail_) else (leaf0_ (c_1, found1, found2, found3, found4, found5))))))) fail_) else (bif decide (c_1 > found3) then (optC (I.apartIn_t net set_) (fun c_71 => (bif c_71 then (bif decide (c_1 > found4) then (optC (I.leastWatchIn_t net set_) (fun c_72 => (bif c_72 then (bif decide (c_1 > found5) then (optC (I.needsAllIn_t net set_) (fun c_73 => (bif c_73 then (leaf0_ (c_1, found1, found2, c_1, c_1, c_1)) else (leaf0_ (c_1, found1, found2, c_1, c_1, found5)))) fail_) else (leaf0_ (c_1, found1, found2, c_1, c_1, found5))) else (bif decide (c_1 > found5) then (optC (I.needsAllIn_t net set_) (fun c_74 => (bif c_74 then (leaf0_ (c_1, found1, found2, c_1, found4, c_1)) else (leaf0_ (c_1, found1, found2, c_1, found4, found5)))) fail_) else (leaf0_ (c_1, found1, found2, c_1, found4, found5))))) fail_) else (bif decide (c_1 > found5) then (optC (I.needsAllIn_t net set_) (fun c_75 => (bif c_75 then (leaf0_ (c_1, found1, found2, c_1, found4, c_1)) else (leaf0_ (c_1, found1, found2, c_1, found4, found5)))) fail_) else (leaf0_ (c_1, found1, found2, c_1, found4, found5)))) else (bif decide (c_1 > found4) then (optC (I.leastWatchIn_t net set_) (fun c_76 => (bif c_76 then (bif decide (c_1 > found5) then (optC (I.needsAllIn_t net set_) (fun c_77 => (bif c_77 then (leaf0_ (c_1, found1, found2, found3, c_1, c_1)) else (leaf0_ (c_1, found1, found2, found3, c_1, found5)))) fail_) else (leaf0_ (c_1, found1, found2, found3, c_1, found5))) else (bif decide (c_1 > found5) then (optC (I.needsAllIn_t net set_) (fun c_78 => (bif c_78 then (leaf0_ (c_1, found1, found2, found3, found4, c_1)) else (leaf0_ (c_1, found1, found2, found3, found4, found5)))) fail_) else (leaf0_ (c_1, found1, found2, found3, found4, found5))))) fail_) else (bif decide (c_1 > found5) then (optC (I.needsAllIn_t net set_) (fun c_79 => (bif c_79 then (leaf0_ (c_1, found1, found2, found3, found4, c_1)) else (leaf0_ (c_1, found1, found2, found3, found4, found5)))) fail_) else (leaf0_ (c_1, found1, found2, found3, found4, found5)))))) fail_) else (bif decide (c_1 > found4) then (optC (I.leastWatchIn_t net set_) (fun c_80 => (bif c_80 then (bif decide (c_1 > found5) then (optC (I.needsAllIn_t net set_) (fun c_81 => (bif c_81 then (leaf0_ (c_1, found1, found2, found3, c_1, c_1)) else (leaf0_ (c_1, found1, found2, found3, c_1, found5)))) fail_) else (leaf0_ (c_1, found1, found2, found3, c_1, found5))) else (bif decide (c_1 > found5) then (optC (I.needsAllIn_t net set_) (fun c_82 => (bif c_82 then (leaf0_ (c_1, found1, found2, found3, found4, c_1)) else (leaf0_ (c_1, found1, found2, found3, found4, found5)))) fail_) else (leaf0_ (c_1, found1, found2, found3, found4, found5))))) fail_) else (bif decide (c_1 > found5) then (optC (I.needsAllIn_t net set_) (fun c_83 => (bif c_83 then (leaf0_ (c_1, found1, found2, found3, found4, c_1)) else (leaf0_ (c_1, found1, found2, found3, found4, found5)))) fail_) else (leaf0_ (c_1, found1, found2, found3, found4, found5)))))))) fail_) else (bif decide (c_1 < found2) then (optC (I.fullApartIn_t net set_) (fun c_84 => (bif c_84 then (bif decide (c_1 > found3) then (optC (I.apartIn_t net set_) (fun c_85 => (bif c_85 then (bif decide (c_1 > found4) then (optC (I.leastWatchIn_t net set_) (fun c_86 => (bif c_86 then (bif decide (c_1 > found5) then (optC (I.needsAllIn_t net set_) (fun c_87 => (bif c_87 then (leaf0_ (c_1, found1, c_1, c_1, c_1, c_1)) else (leaf0_ (c_1, found1, c_1, c_1, c_1, found5)))) fail_) else (leaf0_ (c_1, found1, c_1, c_1, c_1, found5))) else (bif decide (c_1 > found5) then (optC (I.needsAllIn_t net set_) (fun c_88 => (bif c_88 then (leaf0_ (c_1, found1, c_1, c_1, found4, c_1)) else (leaf0_ (c_1, found1, c_1, c_1, found4, found5)))) fail_) else (leaf0_ (c_1, found1, c_1, c_1, found4, found5))))) fail_) else (bif decide (c_1 > found5) then (optC (I.needsAllIn_t net set_) (fun c_89 => (bif c_89 then (leaf0_ (c_1, found1, c_1, c_1, found4, c_1)) else (leaf0_ (c_1, found1, c_1, c_1, found4, found5)))) fail_) else (leaf0_ (c_1, found1, c_1, c_1, found4, found5)))) else (bif decide (c_1 > found4) then (optC (I.leastWatchIn_t net set_) (fun c_90 => (bif c_90 then (bif decide (c_1 > found5) then (optC (I.needsAllIn_t net set_) (fun c_91 => (bif c_91 then (leaf0_ (c_1, found1, c_1, found3, c_1, c_1)) else (leaf0_ (c_1, found1, c_1, found3, c_1, found5)))) fail_) else (leaf0_ (c_1, found1, c_1, found3, c_1, found5))) else (bif decide (c_1 > found5) then (optC (I.needsAllIn_t net set_) (fun c_92 => (bif c_92 then (leaf0_ (c_1, found1, c_1, found3, found4, c_1)) else (leaf0_ (c_1, found1, c_1, found3, found4, found5)))) fail_) else (leaf0_ (c_1, found1, c_1, found3, found4, found5))))) fail_) else (bif decide (c_1 > found5) then (optC (I.needsAllIn_t net set_) (fun c_93 => (bif c_93 then (leaf0_ (c_1, found1, c_1, found3, found4, c_1)) else (leaf0_ (c_1, found1, c_1, found3, found4, found5)))) fail_) else (leaf0_ (c_1, found1, c_1, found3, found4, found5)))))) fail_) else (bif decide (c_1 > found4) then (optC (I.leastWatchIn_t net set_) (fun c_94 => (bif c_94 then (bif decide (c_1 > found5) then (optC (I.needsAllIn_t net set_) (fun c_95 => (bif c_95 then (leaf0_ (c_1, found1, c_1, found3, c_1, c_1)) else (leaf0_ (c_1, found1, c_1, found3, c_1, found5)))) fail_) else (leaf0_ (c_1, found1, c_1, found3, c_1, found5))) else (bif decide (c_1 > found5) then (optC (I.needsAllIn_t net set_) (fun c_96 => (bif c_96 then (leaf0_ (c_1, found1, c_1, found3, found4, c_1)) else (leaf0_ (c_1, found1, c_1, found3, found4, found5)))) fail_) else (leaf0_ (c_1, found1, c_1, found3, found4, found5))))) fail_) else (bif decide (c_1 > found5) then (optC (I.needsAllIn_t net set_) (fun c_97 => (bif c_97 then (leaf0_ (c_1, found1, c_1, found3, found4, c_1)) else (leaf0_ (c_1, found1, c_1, found3, found4, found5)))) fail_) else (leaf0_ (c_1, found1, c_1, found3, found4, found5))))) else (bif decide (c_1 > found3) then (optC (I.apartIn_t net set_) (fun c_98 => (bif c_98 then (bif decide (c_1 > found4) then (optC (I.leastWatchIn_t net set_) (fun c_99 => (bif c_99 then (bif decide (c_1 > found5) then (optC (I.needsAllIn_t net set_) (fun c_100 => (bif c_100 then (leaf0_ (c_1, found1, found2, c_1, c_1, c_1)) else (leaf0_ (c_1, found1, found2, c_1, c_1, found5)))) fail_) else (leaf0_ (c_1, found1, found2, c_1, c_1, found5))) else (bif decide (c_1 > found5) then (optC (I.needsAllIn_t net set_) (fun c_101 => (bif c_101 then (leaf0_ (c_1, found1, found2, c_1, found4, c_1)) else (leaf0_ (c_1, found1, found2, c_1, found4, found5)))) fail_) else (leaf0_ (c_1, found1, found2, c_1, found4, found5))))) fail_) else (bif decide (c_1 > found5) then (optC (I.needsAllIn_t net set_) (fun c_102 => (bif c_102 then (leaf0_ (c_1, found1, found2, c_1, found4, c_1)) else (leaf0_ (c_1, found1, found2, c_1, found4, found5)))) fail_) else (leaf0_ (c_1, found1, found2, c_1, found4, found5)))) else (bif decide (c_1 > found4) then (optC (I.leastWatchIn_t net set_) (fun c_103 => (bif c_103 then (bif decide (c_1 > found5) then (optC (I.needsAllIn_t net set_) (fun c_104 => (bif c_104 then (leaf0_ (c_1, found1, found2, found3, c_1, c_1)) else (leaf0_ (c_1, found1, found2, found3, c_1, found5)))) fail_) else (leaf0_ (c_1, found1, found2, found3, c_1, found5))) else (bif decide (c_1 > found5) then (optC (I.needsAllIn_t net set_) (fun c_105 => (bif c_105 then (leaf0_ (c_1, found1, found2, found3, found4, c_1)) else (leaf0_ (c_1, found1, found2, found3, found4, found5)))) fail_) else (leaf0_ (c_1, found1, found2, found3, found4, found5))))) fail_) else (bif decide (c_1 > found5) then (optC (I.needsAllIn_t net set_) (fun c_106 => (bif c_106 then (leaf0_ (c_1, found1, found2, found3, found4, c_1)) else (leaf0_ (c_1, found1, found2, found3, found4, found5)))) fail_) else (leaf0_ (c_1, found1, found2, found3, found4, found5)))))) fail_) else (bif decide (c_1 > found4) then (optC (I.leastWatchIn_t net set_) (fun c_107 => (bif c_107 then (bif decide (c_1 > found5) then (optC (I.needsAllIn_t net set_) (fun c_108 => (bif c_108 then (leaf0_ (c_1, found1, found2, found3, c_1, c_1)) else (leaf0_ (c_1, found1, found2, found3, c_1, found5)))) fail_) else (leaf0_ (c_1, found1, found2, found3, c_1, found5))) else (bif decide (c_1 > found5) then (optC (I.needsAllIn_t net set_) (fun c_109 => (bif c_109 then (leaf0_ (c_1, found1, found2, found3, found4, c_1)) else (leaf0_ (c_1, found1, found2, found3, found4, found5)))) fail_) else (leaf0_ (c_1, found1, found2, found3, found4, found5))))) fail_) else (bif decide (c_1 > found5) then (optC (I.needsAllIn_t net set_) (fun c_110 => (bif c_110 then (leaf0_ (c_1, found1, found2, found3, found4, c_1)) else (leaf0_ (c_1, found1, found2, found3, found4, found5)))) fail_) else (leaf0_ (c_1, found1, found2, found3, found4, found5))))))) fail_) else (bif decide (c_1 > found3) then (optC (I.apartIn_t net set_) (fun c_111 => (bif c_111 then (bif decide (c_1 > found4) then (optC (I.leastWatchIn_t net set_) (fun c_112 => (bif c_112 then (bif decide (c_1 > found5) then (optC (I.needsAllIn_t net set_) (fun c_113 => (bif c_113 then (leaf0_ (c_1, found1, found2, c_1, c_1, c_1)) else (leaf0_ (c_1, found1, found2, c_1, c_1, found5)))) fail_) else (leaf0_ (c_1, found1, found2, c_1, c_1, found5))) else (bif decide (c_1 > found5) then (optC (I.needsAllIn_t net set_) (fun c_114 => (bif c_114 then (leaf0_ (c_1, found1, found2, c_1, found4, c_1)) else (leaf0_ (c_1, found1, found2, c_1, found4, found5)))) fail_) else (leaf0_ (c_1, found1, found2, c_1, found4, found5))))) fail_) else (bif decide (c_1 > found5) then (optC (I.needsAllIn_t net set_) (fun c_115 => (bif c_115 then (leaf0_ (c_1, found1, found2, c_1, found4, c_1)) else (leaf0_ (c_1, found1, found2, c_1, found4, found5)))) fail_) else (leaf0_ (c_1, found1, found2, c_1, found4, found5)))) else (bif decide (c_1 > found4) then (optC (I.leastWatchIn_t net set_) (fun c_116 => (bif c_116 then (bif decide (c_1 > found5) then (optC (I.needsAllIn_t net set_) (fun c_117 => (bif c_117 then (leaf0_ (c_1, found1, found2, found3, c_1, c_1)) else (leaf0_ (c_1, found1, found2, found3, c_1, found5)))) fail_) else (leaf0_ (c_1, found1, found2, found3, c_1, found5))) else (bif decide (c_1 > found5) then (optC (I.needsAllIn_t net set_) (fun c_118 => (bif c_118 then (leaf0_ (c_1, found1, found2, found3, found4, c_1)) else (leaf0_ (c_1, found1, found2, found3, found4, found5)))) fail_) else (leaf0_ (c_1, found1, found2, found3, found4, found5))))) fail_) else (bif decide (c_1 > found5) then (optC (I.needsAllIn_t net set_) (fun c_119 => (bif c_119 then (leaf0_ (c_1, found1, found2, found3, found4, c_1)) else (leaf0_ (c_1, found1, found2, found3, found4, found5)))) fail_) else (leaf0_ (c_1, found1, found2, found3, found4, found5)))))) fail_) else (bif decide (c_1 > found4) then (optC (I.leastWatchIn_t net set_) (fun c_120 => (bif c_120 then (bif decide (c_1 > found5) then (optC (I.needsAllIn_t net set_) (fun c_121 => (bif c_121 then (leaf0_ (c_1, found1, found2, found3, c_1, c_1)) else (leaf0_ (c_1, found1, found2, found3, c_1, found5)))) fail_) else (leaf0_ (c_1, found1, found2, found3, c_1, found5))) else (bif decide (c_1 > found5) then (optC (I.needsAllIn_t net set_) (fun c_122 => (bif c_122 then (leaf0_ (c_1, found1, found2, found3, found4, c_1)) else (leaf0_ (c_1, found1, found2, found3, found4, found5)))) fail_) else (leaf0_ (c_1, found1, found2, found3, found4, found5))))) fail_) else (bif decide (c_1 > found5) then (optC (I.needsAllIn_t net set_) (fun c_123 => (bif c_123 then (leaf0_ (c_1, found1, found2, found3, found4, c_1)) else (leaf0_ (c_1, found1, found2, found3, found4, found5)))) fail_) else (leaf0_ (c_1, found1, found2, found3, found4, found5))))))) else (bif decide (c_1 < found1) then (optC (I.watchIn_t net set_) (fun c_124 => (bif c_124 then (bif decide (c_1 < found2) then (optC (I.fullApartIn_t net set_) (fun c_125 => (bif c_125 then (bif decide (c_1 > found3) then (optC (I.apartIn_t net set_) (fun c_126 => (bif c_126 then (bif decide (c_1 > found4) then (optC (I.leastWatchIn_t net set_) (fun c_127 => (bif c_127 then (bif decide (c_1 > found5) then (optC (I.needsAllIn_t net set_) (fun c_128 => (bif c_128 then (leaf0_ (found0, c_1, c_1, c_1, c_1, c_1)) else (leaf0_ (found0, c_1, c_1, c_1, c_1, found5)))) fail_) else (leaf0_ (found0, c_1, c_1, c_1, c_1, found5))) else (bif decide (c_1 > found5) then (optC (I.needsAllIn_t net set_) (fun c_129 => (bif c_129 then (leaf0_ (found0, c_1, c_1, c_1, found4, c_1)) else (leaf0_ (found0, c_1, c_1, c_1, found4, found5)))) fail_) else (leaf0_ (found0, c_1, c_1, c_1, found4, found5))))) fail_) else (bif decide (c_1 > found5) then (optC (I.needsAllIn_t net set_) (fun c_130 => (bif c_130 then (leaf0_ (found0, c_1, c_1, c_1, found4, c_1)) else (leaf0_ (found0, c_1, c_1, c_1, found4, found5)))) fail_) else (leaf0_ (found0, c_1, c_1, c_1, found4, found5)))) else (bif decide (c_1 > found4) then (optC (I.leastWatchIn_t net set_) (fun c_131 => (bif c_131 then (bif decide (c_1 > found5) then (optC (I.needsAllIn_t net set_) (fun c_132 => (bif c_132 then (leaf0_ (found0, c_1, c_1, found3, c_1, c_1)) else (leaf0_ (found0, c_1, c_1, found3, c_1, found5)))) fail_) else (leaf0_ (found0, c_1, c_1, found3, c_1, found5))) else (bif decide (c_1 > found5) then (optC (I.needsAllIn_t net set_) (fun c_133 => (bif c_133 then (leaf0_ (found0, c_1, c_1, found3, found4, c_1)) else (leaf0_ (found0, c_1, c_1, found3, found4, found5)))) fail_) else (leaf0_ (found0, c_1, c_1, found3, found4, found5))))) fail_) else (bif decide (c_1 > found5) then (optC (I.needsAllIn_t net set_) (fun c_134 => (bif c_134 then (leaf0_ (found0, c_1, c_1, found3, found4, c_1)) else (leaf0_ (found0, c_1, c_1, found3, found4, found5)))) fail_) else (leaf0_ (found0, c_1, c_1, found3, found4, found5)))))) fail_) else (bif decide (c_1 > found4) then (optC (I.leastWatchIn_t net set_) (fun c_135 => (bif c_135 then (bif decide (c_1 > found5) then (optC (I.needsAllIn_t net set_) (fun c_136 => (bif c_136 then (leaf0_ (found0, c_1, c_1, found3, c_1, c_1)) else (leaf0_ (found0, c_1, c_1, found3, c_1, found5)))) fail_) else (leaf0_ (found0, c_1, c_1, found3, c_1, found5))) else (bif decide (c_1 > found5) then (optC (I.needsAllIn_t net set_) (fun c_137 => (bif c_137 then (leaf0_ (found0, c_1, c_1, found3, found4, c_1)) else (leaf0_ (found0, c_1, c_1, found3, found4, found5)))) fail_) else (leaf0_ (found0, c_1, c_1, found3, found4, found5))))) fail_) else (bif decide (c_1 > found5) then (optC (I.needsAllIn_t net set_) (fun c_138 => (bif c_138 then (leaf0_ (found0, c_1, c_1, found3, found4, c_1)) else (leaf0_ (found0, c_1, c_1, found3, found4, found5)))) fail_) else (leaf0_ (found0, c_1, c_1, found3, found4, found5))))) else (bif decide (c_1 > found3) then (optC (I.apartIn_t net set_) (fun c_139 => (bif c_139 then (bif decide (c_1 > found4) then (optC (I.leastWatchIn_t net set_) (fun c_140 => (bif c_140 then (bif decide (c_1 > found5) then (optC (I.needsAllIn_t net set_) (fun c_141 => (bif c_141 then (leaf0_ (found0, c_1, found2, c_1, c_1, c_1)) else (leaf0_ (found0, c_1, found2, c_1, c_1, found5)))) fail_) else (leaf0_ (found0, c_1, found2, c_1, c_1, found5))) else (bif decide (c_1 > found5) then (optC (I.needsAllIn_t net set_) (fun c_142 => (bif c_142 then (leaf0_ (found0, c_1, found2, c_1, found4, c_1)) else (leaf0_ (found0, c_1, found2, c_1, found4, found5)))) fail_) else (leaf0_ (found0, c_1, found2, c_1, found4, found5))))) fail_) else (bif decide (c_1 > found5) then (optC (I.needsAllIn_t net set_) (fun c_143 => (bif c_143 then (leaf0_ (found0, c_1, found2, c_1, found4, c_1)) else (leaf0_ (found0, c_1, found2, c_1, found4, found5)))) fail_) else (leaf0_ (found0, c_1, found2, c_1, found4, found5)))) else (bif decide (c_1 > found4) then (optC (I.leastWatchIn_t net set_) (fun c_144 => (bif c_144 then (bif decide (c_1 > found5) then (optC (I.needsAllIn_t net set_) (fun c_145 => (bif c_145 then (leaf0_ (found0, c_1, found2, found3, c_1, c_1)) else (leaf0_ (found0, c_1, found2, found3, c_1, found5)))) fail_) else (leaf0_ (found0, c_1, found2, found3, c_1, found5))) else (bif decide (c_1 > found5) then (optC (I.needsAllIn_t net set_) (fun c_146 => (bif c_146 then (leaf0_ (found0, c_1, found2, found3, found4, c_1)) else (leaf0_ (found0, c_1, found2, found3, found4, found5)))) fail_) else (leaf0_ (found0, c_1, found2, found3, found4, found5))))) fail_) else (bif decide (c_1 > found5) then (optC (I.needsAllIn_t net set_) (fun c_147 => (bif c_147 then (leaf0_ (found0, c_1, found2, found3, found4, c_1)) else (leaf0_ (found0, c_1, found2, found3, found4, found5)))) fail_) else (leaf0_ (found0, c_1, found2, found3, found4, found5)))))) fail_) else (bif decide (c_1 > found4) then (optC (I.leastWatchIn_t net set_) (fun c_148 => (bif c_148 then (bif decide (c_1 > found5) then (optC (I.needsAllIn_t net set_) (fun c_149 => (bif c_149 then (leaf0_ (found0, c_1, found2, found3, c_1, c_1)) else (leaf0_ (found0, c_1, found2, found3, c_1, found5)))) fail_) else (leaf0_ (found0, c_1, found2, found3, c_1, found5))) else (bif decide (c_1 > found5) then (optC (I.needsAllIn_t net set_) (fun c_150 => (bif c_150 then (leaf0_ (found0, c_1, found2, found3, found4, c_1)) else (leaf0_ (found0, c_1, found2, found3, found4, found5)))) fail_) else (leaf0_ (found0, c_1, found2, found3, found4, found5))))) fail_) else (bif decide (c_1 > found5) then (optC (I.needsAllIn_t net set_) (fun c_151 => (bif c_151 then (leaf0_ (found0, c_1, found2, found3, found4, c_1)) else (leaf0_ (found0, c_1, found2, found3, found4, found5)))) fail_) else (leaf0_ (found0, c_1, found2, found3, found4, found5))))))) fail_) else (bif decide (c_1 > found3) then (optC (I.apartIn_t net set_) (fun c_152 => (bif c_152 then (bif decide (c_1 > found4) then (optC (I.leastWatchIn_t net set_) (fun c_153 => (bif c_153 then (bif decide (c_1 > found5) then (optC (I.needsAllIn_t net set_) (fun c_154 => (bif c_154 then (leaf0_ (found0, c_1, found2, c_1, c_1, c_1)) else (leaf0_ (found0, c_1, found2, c_1, c_1, found5)))) fail_) else (leaf0_ (found0, c_1, found2, c_1, c_1, found5))) else (bif decide (c_1 > found5) then (optC (I.needsAllIn_t net set_) (fun c_155 => (bif c_155 then (leaf0_ (found0, c_1, found2, c_1, found4, c_1)) else (leaf0_ (found0, c_1, found2, c_1, found4, found5)))) fail_) else (leaf0_ (found0, c_1, found2, c_1, found4, found5))))) fail_) else (bif decide (c_1 > found5) then (optC (I.needsAllIn_t net set_) (fun c_156 => (bif c_156 then (leaf0_ (found0, c_1, found2, c_1, found4, c_1)) else (leaf0_ (found0, c_1, found2, c_1, found4, found5)))) fail_) else (leaf0_ (found0, c_1, found2, c_1, found4, found5)))) else (bif decide (c_1 > found4) then (optC (I.leastWatchIn_t net set_) (fun c_157 => (bif c_157 then (bif decide (c_1 > found5) then (optC (I.needsAllIn_t net set_) (fun c_158 => (bif c_158 then (leaf0_ (found0, c_1, found2, found3, c_1, c_1)) else (leaf0_ (found0, c_1, found2, found3, c_1, found5)))) fail_) else (leaf0_ (found0, c_1, found2, found3, c_1, found5))) else (bif decide (c_1 > found5) then (optC (I.needsAllIn_t net set_) (fun c_159 => (bif c_159 then (leaf0_ (found0, c_1, found2, found3, found4, c_1)) else (leaf0_ (found0, c_1, found2, found3, found4, found5)))) fail_) else (leaf0_ (found0, c_1, found2, found3, found4, found5))))) fail_) else (bif decide (c_1 > found5) then (optC (I.needsAllIn_t net set_) (fun c_160 => (bif c_160 then (leaf0_ (found0, c_1, found2, found3, found4, c_1)) else (leaf0_ (found0, c_1, found2, found3, found4, found5)))) fail_) else (leaf0_ (found0, c_1, found2, found3, found4, found5)))))) fail_) else (bif decide (c_1 > found4) then (optC (I.leastWatchIn_t net set_) (fun c_161 => (bif c_161 then (bif decide (c_1 > found5) then (optC (I.needsAllIn_t net set_) (fun c_162 => (bif c_162 then (leaf0_ (found0, c_1, found2, found3, c_1, c_1)) else (leaf0_ (found0, c_1, found2, found3, c_1, found5)))) fail_) else (leaf0_ (found0, c_1, found2, found3, c_1, found5))) else (bif decide (c_1 > found5) then (optC (I.needsAllIn_t net set_) (fun c_163 => (bif c_163 then (leaf0_ (found0, c_1, found2, found3, found4, c_1)) else (leaf0_ (found0, c_1, found2, found3, found4, found5)))) fail_) else (leaf0_ (found0, c_1, found2, found3, found4, found5))))) fail_) else (bif decide (c_1 > found5) then (optC (I.needsAllIn_t net set_) (fun c_164 => (bif c_164 then (leaf0_ (found0, c_1, found2, found3, found4, c_1)) else (leaf0_ (found0, c_1, found2, found3, found4, found5)))) fail_) else (leaf0_ (found0, c_1, found2, found3, found4, found5)))))) else (bif decide (c_1 < found2) then (optC (I.fullApartIn_t net set_) (fun c_165 => (bif c_165 then (bif decide (c_1 > found3) then (optC (I.apartIn_t net set_) (fun c_166 => (bif c_166 then (bif decide (c_1 > found4) then (optC (I.leastWatchIn_t net set_) (fun c_167 => (bif c_167 then (bif decide (c_1 > found5) then (optC (I.needsAllIn_t net set_) (fun c_168 => (bif c_168 then (leaf0_ (found0, found1, c_1, c_1, c_1, c_1)) else (leaf0_ (found0, found1, c_1, c_1, c_1, found5)))) fail_) else (leaf0_ (found0, found1, c_1, c_1, c_1, found5))) else (bif decide (c_1 > found5) then (optC (I.needsAllIn_t net set_) (fun c_169 => (bif c_169 then (leaf0_ (found0, found1, c_1, c_1, found4, c_1)) else (leaf0_ (found0, found1, c_1, c_1, found4, found5)))) fail_) else (leaf0_ (found0, found1, c_1, c_1, found4, found5))))) fail_) else (bif decide (c_1 > found5) then (optC (I.needsAllIn_t net set_) (fun c_170 => (bif c_170 then (leaf0_ (found0, found1, c_1, c_1, found4, c_1)) else (leaf0_ (found0, found1, c_1, c_1, found4, found5)))) fail_) else (leaf0_ (found0, found1, c_1, c_1, found4, found5)))) else (bif decide (c_1 > found4) then (optC (I.leastWatchIn_t net set_) (fun c_171 => (bif c_171 then (bif decide (c_1 > found5) then (optC (I.needsAllIn_t net set_) (fun c_172 => (bif c_172 then (leaf0_ (found0, found1, c_1, found3, c_1, c_1)) else (leaf0_ (found0, found1, c_1, found3, c_1, found5)))) fail_) else (leaf0_ (found0, found1, c_1, found3, c_1, found5))) else (bif decide (c_1 > found5) then (optC (I.needsAllIn_t net set_) (fun c_173 => (bif c_173 then (leaf0_ (found0, found1, c_1, found3, found4, c_1)) else (leaf0_ (found0, found1, c_1, found3, found4, found5)))) fail_) else (leaf0_ (found0, found1, c_1, found3, found4, found5))))) fail_) else (bif decide (c_1 > found5) then (optC (I.needsAllIn_t net set_) (fun c_174 => (bif c_174 then (leaf0_ (found0, found1, c_1, found3, found4, c_1)) else (leaf0_ (found0, found1, c_1, found3, found4, found5)))) fail_) else (leaf0_ (found0, found1, c_1, found3, found4, found5)))))) fail_) else (bif decide (c_1 > found4) then (optC (I.leastWatchIn_t net set_) (fun c_175 => (bif c_175 then (bif decide (c_1 > found5) then (optC (I.needsAllIn_t net set_) (fun c_176 => (bif c_176 then (leaf0_ (found0, found1, c_1, found3, c_1, c_1)) else (leaf0_ (found0, found1, c_1, found3, c_1, found5)))) fail_) else (leaf0_ (found0, found1, c_1, found3, c_1, found5))) else (bif decide (c_1 > found5) then (optC (I.needsAllIn_t net set_) (fun c_177 => (bif c_177 then (leaf0_ (found0, found1, c_1, found3, found4, c_1)) else (leaf0_ (found0, found1, c_1, found3, found4, found5)))) fail_) else (leaf0_ (found0, found1, c_1, found3, found4, found5))))) fail_) else (bif decide (c_1 > found5) then (optC (I.needsAllIn_t net set_) (fun c_178 => (bif c_178 then (leaf0_ (found0, found1, c_1, found3, found4, c_1)) else (leaf0_ (found0, found1, c_1, found3, found4, found5)))) fail_) else (leaf0_ (found0, found1, c_1, found3, found4, found5))))) else (bif decide (c_1 > found3) then (optC (I.apartIn_t net set_) (fun c_179 => (bif c_179 then (bif decide (c_1 > found4) then (optC (I.leastWatchIn_t net set_) (fun c_180 => (bif c_180 then (bif decide (c_1 > found5) then (optC (I.needsAllIn_t net set_) (fun c_181 => (bif c_181 then (leaf0_ (found0, found1, found2, c_1, c_1, c_1)) else (leaf0_ (found0, found1, found2, c_1, c_1, found5)))) fail_) else (leaf0_ (found0, found1, found2, c_1, c_1, found5))) else (bif decide (c_1 > found5) then (optC (I.needsAllIn_t net set_) (fun c_182 => (bif c_182 then (leaf0_ (found0, found1, found2, c_1, found4, c_1)) else (leaf0_ (found0, found1, found2, c_1, found4, found5)))) fail_) else (leaf0_ (found0, found1, found2, c_1, found4, found5))))) fail_) else (bif decide (c_1 > found5) then (optC (I.needsAllIn_t net set_) (fun c_183 => (bif c_183 then (leaf0_ (found0, found1, found2, c_1, found4, c_1)) else (leaf0_ (found0, found1, found2, c_1, found4, found5)))) fail_) else (leaf0_ (found0, found1, found2, c_1, found4, found5)))) else (bif decide (c_1 > found4) then (optC (I.leastWatchIn_t net set_) (fun c_184 => (bif c_184 then (bif decide (c_1 > found5) then (optC (I.needsAllIn_t net set_) (fun c_185 => (bif c_185 then (leaf0_ (found0, found1, found2, found3, c_1, c_1)) else (leaf0_ (found0, found1, found2, found3, c_1, found5)))) fail_) else (leaf0_ (found0, found1, found2, found3, c_1, found5))) else (bif decide (c_1 > found5) then (optC (I.needsAllIn_t net set_) (fun c_186 => (bif c_186 then (leaf0_ (found0, found1, found2, found3, found4, c_1)) else (leaf0_ (found0, found1, found2, found3, found4, found5)))) fail_) else (leaf0_ (found0, found1, found2, found3, found4, found5))))) fail_) else (bif decide (c_1 > found5) then (optC (I.needsAllIn_t net set_) (fun c_187 => (bif c_187 then (leaf0_ (found0, found1, found2, found3, found4, c_1)) else (leaf0_ (found0, found1, found2, found3, found4, found5)))) fail_) else (leaf0_ (found0, found1, found2, found3, found4, found5)))))) fail_) else (bif decide (c_1 > found4) then (optC (I.leastWatchIn_t net set_) (fun c_188 => (bif c_188 then (bif decide (c_1 > found5) then (optC (I.needsAllIn_t net set_) (fun c_189 => (bif c_189 then (leaf0_ (found0, found1, found2, found3, c_1, c_1)) else (leaf0_ (found0, found1, found2, found3, c_1, found5)))) fail_) else (leaf0_ (found0, found1, found2, found3, c_1, found5))) else (bif decide (c_1 > found5) then (optC (I.needsAllIn_t net set_) (fun c_190 => (bif c_190 then (leaf0_ (found0, found1, found2, found3, found4, c_1)) else (leaf0_ (found0, found1, found2, found3, found4, found5)))) fail_) else (leaf0_ (found0, found1, found2, found3, found4, found5))))) fail_) else (bif decide (c_1 > found5) then (optC (I.needsAllIn_t net set_) (fun c_191 => (bif c_191 then (leaf0_ (found0, found1, found2, found3, found4, c_1)) else (leaf0_ (found0, found1, found2, found3, found4, found5)))) fail_) else (leaf0_ (found0, found1, found2, found3, found4, found5))))))) fail_) else (bif decide (c_1 > found3) then (optC (I.apartIn_t net set_) (fun c_192 => (bif c_192 then (bif decide (c_1 > found4) then (optC (I.leastWatchIn_t net set_) (fun c_193 => (bif c_193 then (bif decide (c_1 > found5) then (optC (I.needsAllIn_t net set_) (fun c_194 => (bif c_194 then (leaf0_ (found0, found1, found2, c_1, c_1, c_1)) else (leaf0_ (found0, found1, found2, c_1, c_1, found5)))) fail_) else (leaf0_ (found0, found1, found2, c_1, c_1, found5))) else (bif decide (c_1 > found5) then (optC (I.needsAllIn_t net set_) (fun c_195 => (bif c_195 then (leaf0_ (found0, found1, found2, c_1, found4, c_1)) else (leaf0_ (found0, found1, found2, c_1, found4, found5)))) fail_) else (leaf0_ (found0, found1, found2, c_1, found4, found5))))) fail_) else (bif decide (c_1 > found5) then (optC (I.needsAllIn_t net set_) (fun c_196 => (bif c_196 then (leaf0_ (found0, found1, found2, c_1, found4, c_1)) else (leaf0_ (found0, found1, found2, c_1, found4, found5)))) fail_) else (leaf0_ (found0, found1, found2, c_1, found4, found5)))) else (bif decide (c_1 > found4) then (optC (I.leastWatchIn_t net set_) (fun c_197 => (bif c_197 then (bif decide (c_1 > found5) then (optC (I.needsAllIn_t net set_) (fun c_198 => (bif c_198 then (leaf0_ (found0, found1, found2, found3, c_1, c_1)) else (leaf0_ (found0, found1, found2, found3, c_1, found5)))) fail_) else (leaf0_ (found0, found1, found2, found3, c_1, found5))) else (bif decide (c_1 > found5) then (optC (I.needsAllIn_t net set_) (fun c_199 => (bif c_199 then (leaf0_ (found0, found1, found2, found3, found4, c_1)) else (leaf0_ (found0, found1, found2, found3, found4, found5)))) fail_) else (leaf0_ (found0, found1, found2, found3, found4, found5))))) fail_) else (bif decide (c_1 > found5) then (optC (I.needsAllIn_t net set_) (fun c_200 => (bif c_200 then (leaf0_ (found0, found1, found2, found3, found4, c_1)) else (leaf0_ (found0, found1, found2, found3, found4, found5)))) fail_) else (leaf0_ (found0, found1, found2, found3, found4, found5)))))) fail_) else (bif decide (c_1 > found4) then (optC (I.leastWatchIn_t net set_) (fun c_201 => (bif c_201 then (bif decide (c_1 > found5) then (optC (I.needsAllIn_t net set_) (fun c_202 => (bif c_202 then (leaf0_ (found0, found1, found2, found3, c_1, c_1)) else (leaf0_ (found0, found1, found2, found3, c_1, found5)))) fail_) else (leaf0_ (found0, found1, found2, found3, c_1, found5))) else (bif decide (c_1 > found5) then (optC (I.needsAllIn_t net set_) (fun c_203 => (bif c_203 then (leaf0_ (found0, found1, found2, found3, found4, c_1)) else (leaf0_ (found0, found1, found2, found3, found4, found5)))) fail_) else (leaf0_ (found0, found1, found2, found3, found4, found5))))) fail_) else (bif decide (c_1 > found5) then (optC (I.needsAllIn_t net set_) (fun c_204 => (bif c_204 then (leaf0_ (found0, found1, found2, found3, found4, c_1)) else (leaf0_ (found0, found1, found2, found3, found4, found5)))) fail_) else (leaf0_ (found0, found1, found2, found3, found4, found5)))))))) fail_) else (bif decide (c_1 < found2) then (optC (I.fullApartIn_t net set_) (fun c_205 => (bif c_205 then (bif decide (c_1 > found3) then (optC (I.apartIn_t net set_) (fun c_206 => (bif c_206 then (bif decide (c_1 > found4) then (optC (I.leastWatchIn_t net set_) (fun c_207 => (bif c_207 then (bif decide (c_1 > found5) then (optC (I.needsAllIn_t net set_) (fun c_208 => (bif c_208 then (leaf0_ (found0, found1, c_1, c_1, c_1, c_1)) else (leaf0_ (found0, found1, c_1, c_1, c_1, found5)))) fail_) else (leaf0_ (found0, found1, c_1, c_1, c_1, found5))) else (bif decide (c_1 > found5) then (optC (I.needsAllIn_t net set_) (fun c_209 => (bif c_209 then (leaf0_ (found0, found1, c_1, c_1, found4, c_1)) else (leaf0_ (found0, found1, c_1, c_1, found4, found5)))) fail_) else (leaf0_ (found0, found1, c_1, c_1, found4, found5))))) fail_) else (bif decide (c_1 > found5) then (optC (I.needsAllIn_t net set_) (fun c_210 => (bif c_210 then (leaf0_ (found0, found1, c_1, c_1, found4, c_1)) else (leaf0_ (found0, found1, c_1, c_1, found4, found5)))) fail_) else (leaf0_ (found0, found1, c_1, c_1, found4, found5)))) else (bif decide (c_1 > found4) then (optC (I.leastWatchIn_t net set_) (fun c_211 => (bif c_211 then (bif decide (c_1 > found5) then (optC (I.needsAllIn_t net set_) (fun c_212 => (bif c_212 then (leaf0_ (found0, found1, c_1, found3, c_1, c_1)) else (leaf0_ (found0, found1, c_1, found3, c_1, found5)))) fail_) else (leaf0_ (found0, found1, c_1, found3, c_1, found5))) else (bif decide (c_1 > found5) then (optC (I.needsAllIn_t net set_) (fun c_213 => (bif c_213 then (leaf0_ (found0, found1, c_1, found3, found4, c_1)) else (leaf0_ (found0, found1, c_1, found3, found4, found5)))) fail_) else (leaf0_ (found0, found1, c_1, found3, found4, found5))))) fail_) else (bif decide (c_1 > found5) then (optC (I.needsAllIn_t net set_) (fun c_214 => (bif c_214 then (leaf0_ (found0, found1, c_1, found3, found4, c_1)) else (leaf0_ (found0, found1, c_1, found3, found4, found5)))) fail_) else (leaf0_ (found0, found1, c_1, found3, found4, found5)))))) fail_) else (bif decide (c_1 > found4) then (optC (I.leastWatchIn_t net set_) (fun c_215 => (bif c_215 then (bif decide (c_1 > found5) then (optC (I.needsAllIn_t net set_) (fun c_216 => (bif c_216 then (leaf0_ (found0, found1, c_1, found3, c_1, c_1)) else (leaf0_ (found0, found1, c_1, found3, c_1, found5)))) fail_) else (leaf0_ (found0, found1, c_1, found3, c_1, found5))) else (bif decide (c_1 > found5) then (optC (I.needsAllIn_t net set_) (fun c_217 => (bif c_217 then (leaf0_ (found0, found1, c_1, found3, found4, c_1)) else (leaf0_ (found0, found1, c_1, found3, found4, found5)))) fail_) else (leaf0_ (found0, found1, c_1, found3, found4, found5))))) fail_) else (bif decide (c_1 > found5) then (optC (I.needsAllIn_t net set_) (fun c_218 => (bif c_218 then (leaf0_ (found0, found1, c_1, found3, found4, c_1)) else (leaf0_ (found0, found1, c_1, found3, found4, found5)))) fail_) else (leaf0_ (found0, found1, c_1, found3, found4, found5))))) else (bif decide (c_1 > found3) then (optC (I.apartIn_t net set_) (fun c_219 => (bif c_219 then (bif decide (c_1 > found4) then (optC (I.leastWatchIn_t net set_) (fun c_220 => (bif c_220 then (bif decide (c_1 > found5) then (optC (I.needsAllIn_t net set_) (fun c_221 => (bif c_221 then (leaf0_ (found0, found1, found2, c_1, c_1, c_1)) else (leaf0_ (found0, found1, found2, c_1, c_1, found5)))) fail_) else (leaf0_ (found0, found1, found2, c_1, c_1, found5))) else (bif decide (c_1 > found5) then (optC (I.needsAllIn_t net set_) (fun c_222 => (bif c_222 then (leaf0_ (found0, found1, found2, c_1, found4, c_1)) else (leaf0_ (found0, found1, found2, c_1, found4, found5)))) fail_) else (leaf0_ (found0, found1, found2, c_1, found4, found5))))) fail_) else (bif decide (c_1 > found5) then (optC (I.needsAllIn_t net set_) (fun c_223 => (bif c_223 then (leaf0_ (found0, found1, found2, c_1, found4, c_1)) else (leaf0_ (found0, found1, found2, c_1, found4, found5)))) fail_) else (leaf0_ (found0, found1, found2, c_1, found4, found5)))) else (bif decide (c_1 > found4) then (optC (I.leastWatchIn_t net set_) (fun c_224 => (bif c_224 then (bif decide (c_1 > found5) then (optC (I.needsAllIn_t net set_) (fun c_225 => (bif c_225 then (leaf0_ (found0, found1, found2, found3, c_1, c_1)) else (leaf0_ (found0, found1, found2, found3, c_1, found5)))) fail_) else (leaf0_ (found0, found1, found2, found3, c_1, found5))) else (bif decide (c_1 > found5) then (optC (I.needsAllIn_t net set_) (fun c_226 => (bif c_226 then (leaf0_ (found0, found1, found2, found3, found4, c_1)) else (leaf0_ (found0, found1, found2, found3, found4, found5)))) fail_) else (leaf0_ (found0, found1, found2, found3, found4, found5))))) fail_) else (bif decide (c_1 > found5) then (optC (I.needsAllIn_t net set_) (fun c_227 => (bif c_227 then (leaf0_ (found0, found1, found2, found3, found4, c_1)) else (leaf0_ (found0, found1, found2, found3, found4, found5)))) fail_) else (leaf0_ (found0, found1, found2, found3, found4, found5)))))) fail_) else (bif decide (c_1 > found4) then (optC (I.leastWatchIn_t net set_) (fun c_228 => (bif c_228 then (bif decide (c_1 > found5) then (optC (I.needsAllIn_t net set_) (fun c_229 => (bif c_229 then (leaf0_ (found0, found1, found2, found3, c_1, c_1)) else (leaf0_ (found0, found1, found2, found3, c_1, found5)))) fail_) else (leaf0_ (found0, found1, found2, found3, c_1, found5))) else (bif decide (c_1 > found5) then (optC (I.needsAllIn_t net set_) (fun c_230 => (bif c_230 then (leaf0_ (found0, found1, found2, found3, found4, c_1)) else (leaf0_ (found0, found1, found2, found3, found4, found5)))) fail_) else (leaf0_ (found0, found1, found2, found3, found4, found5))))) fail_) else (bif decide (c_1 > found5) then (optC (I.needsAllIn_t net set_) (fun c_231 => (bif c_231 then (leaf0_ (found0, found1, found2, found3, found4, c_1)) else (leaf0_ (found0, found1, found2, found3, found4, found5)))) fail_) else (leaf0_ (found0, found1, found2, found3, found4, found5))))))) fail_) else (bif decide (c_1 > found3) then (optC (I.apartIn_t net set_) (fun c_232 => (bif c_232 then (bif decide (c_1 > found4) then (optC (I.leastWatchIn_t net set_) (fun c_233 => (bif c_233 then (bif decide (c_1 > found5) then (optC (I.needsAllIn_t net set_) (fun c_234 => (bif c_234 then (leaf0_ (found0, found1, found2, c_1, c_1, c_1)) else (leaf0_ (found0, found1, found2, c_1, c_1, found5)))) fail_) else (leaf0_ (found0, found1, found2, c_1, c_1, found5))) else (bif decide (c_1 > found5) then (optC (I.needsAllIn_t net set_) (fun c_235 => (bif c_235 then (leaf0_ (found0, found1, found2, c_1, found4, c_1)) else (leaf0_ (found0, found1, found2, c_1, found4, found5)))) fail_) else (leaf0_ (found0, found1, found2, c_1, found4, found5))))) fail_) else (bif decide (c_1 > found5) then (optC (I.needsAllIn_t net set_) (fun c_236 => (bif c_236 then (leaf0_ (found0, found1, found2, c_1, found4, c_1)) else (leaf0_ (found0, found1, found2, c_1, found4, found5)))) fail_) else (leaf0_ (found0, found1, found2, c_1, found4, found5)))) else (bif decide (c_1 > found4) then (optC (I.leastWatchIn_t net set_) (fun c_237 => (bif c_237 then (bif decide (c_1 > found5) then (optC (I.needsAllIn_t net set_) (fun c_238 => (bif c_238 then (leaf0_ (found0, found1, found2, found3, c_1, c_1)) else (leaf0_ (found0, found1, found2, found3, c_1, found5)))) fail_) else (leaf0_ (found0, found1, found2, found3, c_1, found5))) else (bif decide (c_1 > found5) then (optC (I.needsAllIn_t net set_) (fun c_239 => (bif c_239 then (leaf0_ (found0, found1, found2, found3, found4, c_1)) else (leaf0_ (found0, found1, found2, found3, found4, found5)))) fail_) else (leaf0_ (found0, found1, found2, found3, found4, found5))))) fail_) else (bif decide (c_1 > found5) then (optC (I.needsAllIn_t net set_) (fun c_240 => (bif c_240 then (leaf0_ (found0, found1, found2, found3, found4, c_1)) else (leaf0_ (found0, found1, found2, found3, found4, found5)))) fail_) else (leaf0_ (found0, found1, found2, found3, found4, found5)))))) fail_) else (bif decide (c_1 > found4) then (optC (I.leastWatchIn_t net set_) (fun c_241 => (bif c_241 then (bif decide (c_1 > found5) then (optC (I.needsAllIn_t net set_) (fun c_242 => (bif c_242 then (leaf0_ (found0, found1, found2, found3, c_1, c_1)) else (leaf0_ (found0, found1, found2, found3, c_1, found5)))) fail_) else (leaf0_ (found0, found1, found2, found3, c_1, found5))) else (bif decide (c_1 > found5) then (optC (I.needsAllIn_t net set_) (fun c_243 => (bif c_243 then (leaf0_ (found0, found1, found2, found3, found4, c_1)) else (leaf0_ (found0, found1, found2, found3, found4, found5)))) fail_) else (leaf0_ (found0, found1, found2, found3, found4, found5))))) fail_) else (bif decide (c_1 > found5) then (optC (I.needsAllIn_t net set_) (fun c_244 => (bif c_244 then (leaf0_ (found0, found1, found2, found3, found4, c_1)) else (leaf0_ (found0, found1, found2, found3, found4, found5)))) fail_) else (leaf0_ (found0, found1, found2, found3, found4, found5))))))))) fail_) else (bif decide (c_1 < found1) then (optC (I.watchIn_t net set_) (fun c_245 => (bif c_245 then (bif decide (c_1 < found2) then (optC (I.fullApartIn_t net set_) (fun c_246 => (bif c_246 then (bif decide (c_1 > found3) then (optC (I.apartIn_t net set_) (fun c_247 => (bif c_247 then (bif decide (c_1 > found4) then (optC (I.leastWatchIn_t net set_) (fun c_248 => (bif c_248 then (bif decide (c_1 > found5) then (optC (I.needsAllIn_t net set_) (fun c_249 => (bif c_249 then (leaf0_ (found0, c_1, c_1, c_1, c_1, c_1)) else (leaf0_ (found0, c_1, c_1, c_1, c_1, found5)))) fail_) else (leaf0_ (found0, c_1, c_1, c_1, c_1, found5))) else (bif decide (c_1 > found5) then (optC (I.needsAllIn_t net set_) (fun c_250 => (bif c_250 then (leaf0_ (found0, c_1, c_1, c_1, found4, c_1)) else (leaf0_ (found0, c_1, c_1, c_1, found4, found5)))) fail_) else (leaf0_ (found0, c_1, c_1, c_1, found4, found5))))) fail_) else (bif decide (c_1 > found5) then (optC (I.needsAllIn_t net set_) (fun c_251 => (bif c_251 then (leaf0_ (found0, c_1, c_1, c_1, found4, c_1)) else (leaf0_ (found0, c_1, c_1, c_1, found4, found5)))) fail_) else (leaf0_ (found0, c_1, c_1, c_1, found4, found5)))) else (bif decide (c_1 > found4) then (optC (I.leastWatchIn_t net set_) (fun c_252 => (bif c_252 then (bif decide (c_1 > found5) then (optC (I.needsAllIn_t net set_) (fun c_253 => (bif c_253 then (leaf0_ (found0, c_1, c_1, found3, c_1, c_1)) else (leaf0_ (found0, c_1, c_1, found3, c_1, found5)))) fail_) else (leaf0_ (found0, c_1, c_1, found3, c_1, found5))) else (bif decide (c_1 > found5) then (optC (I.needsAllIn_t net set_) (fun c_254 => (bif c_254 then (leaf0_ (found0, c_1, c_1, found3, found4, c_1)) else (leaf0_ (found0, c_1, c_1, found3, found4, found5)))) fail_) else (leaf0_ (found0, c_1, c_1, found3, found4, found5))))) fail_) else (bif decide (c_1 > found5) then (optC (I.needsAllIn_t net set_) (fun c_255 => (bif c_255 then (leaf0_ (found0, c_1, c_1, found3, found4, c_1)) else (leaf0_ (found0, c_1, c_1, found3, found4, found5)))) fail_) else (leaf0_ (found0, c_1, c_1, found3, found4, found5)))))) fail_) else (bif decide (c_1 > found4) then (optC (I.leastWatchIn_t net set_) (fun c_256 => (bif c_256 then (bif decide (c_1 > found5) then (optC (I.needsAllIn_t net set_) (fun c_257 => (bif c_257 then (leaf0_ (found0, c_1, c_1, found3, c_1, c_1)) else (leaf0_ (found0, c_1, c_1, found3, c_1, found5)))) fail_) else (leaf0_ (found0, c_1, c_1, found3, c_1, found5))) else (bif decide (c_1 > found5) then (optC (I.needsAllIn_t net set_) (fun c_258 => (bif c_258 then (leaf0_ (found0, c_1, c_1, found3, found4, c_1)) else (leaf0_ (found0, c_1, c_1, found3, found4, found5)))) fail_) else (leaf0_ (found0, c_1, c_1, found3, found4, found5))))) fail_) else (bif decide (c_1 > found5) then (optC (I.needsAllIn_t net set_) (fun c_259 => (bif c_259 then (leaf0_ (found0, c_1, c_1, found3, found4, c_1)) else (leaf0_ (found0, c_1, c_1, found3, found4, found5)))) fail_) else (leaf0_ (found0, c_1, c_1, found3, found4, found5))))) else (bif decide (c_1 > found3) then (optC (I.apartIn_t net set_) (fun c_260 => (bif c_260 then (bif decide (c_1 > found4) then (optC (I.leastWatchIn_t net set_) (fun c_261 => (bif c_261 then (bif decide (c_1 > found5) then (optC (I.needsAllIn_t net set_) (fun c_262 => (bif c_262 then (leaf0_ (found0, c_1, found2, c_1, c_1, c_1)) else (leaf0_ (found0, c_1, found2, c_1, c_1, found5)))) fail_) else (leaf0_ (found0, c_1, found2, c_1, c_1, found5))) else (bif decide (c_1 > found5) then (optC (I.needsAllIn_t net set_) (fun c_263 => (bif c_263 then (leaf0_ (found0, c_1, found2, c_1, found4, c_1)) else (leaf0_ (found0, c_1, found2, c_1, found4, found5)))) fail_) else (leaf0_ (found0, c_1, found2, c_1, found4, found5))))) fail_) else (bif decide (c_1 > found5) then (optC (I.needsAllIn_t net set_) (fun c_264 => (bif c_264 then (leaf0_ (found0, c_1, found2, c_1, found4, c_1)) else (leaf0_ (found0, c_1, found2, c_1, found4, found5)))) fail_) else (leaf0_ (found0, c_1, found2, c_1, found4, found5)))) else (bif decide (c_1 > found4) then (optC (I.leastWatchIn_t net set_) (fun c_265 => (bif c_265 then (bif decide (c_1 > found5) then (optC (I.needsAllIn_t net set_) (fun c_266 => (bif c_266 then (leaf0_ (found0, c_1, found2, found3, c_1, c_1)) else (leaf0_ (found0, c_1, found2, found3, c_1, found5)))) fail_) else (leaf0_ (found0, c_1, found2, found3, c_1, found5))) else (bif decide (c_1 > found5) then (optC (I.needsAllIn_t net set_) (fun c_267 => (bif c_267 then (leaf0_ (found0, c_1, found2, found3, found4, c_1)) else (leaf0_ (found0, c_1, found2, found3, found4, found5)))) fail_) else (leaf0_ (found0, c_1, found2, found3, found4, found5))))) fail_) else (bif decide (c_1 > found5) then (optC (I.needsAllIn_t net set_) (fun c_268 => (bif c_268 then (leaf0_ (found0, c_1, found2, found3, found4, c_1)) else (leaf0_ (found0, c_1, found2, found3, found4, found5)))) fail_) else (leaf0_ (found0, c_1, found2, found3, found4, found5)))))) fail_) else (bif decide (c_1 > found4) then (optC (I.leastWatchIn_t net set_) (fun c_269 => (bif c_269 then (bif decide (c_1 > found5) then (optC (I.needsAllIn_t net set_) (fun c_270 => (bif c_270 then (leaf0_ (found0, c_1, found2, found3, c_1, c_1)) else (leaf0_ (found0, c_1, found2, found3, c_1, found5)))) fail_) else (leaf0_ (found0, c_1, found2, found3, c_1, found5))) else (bif decide (c_1 > found5) then (optC (I.needsAllIn_t net set_) (fun c_271 => (bif c_271 then (leaf0_ (found0, c_1, found2, found3, found4, c_1)) else (leaf0_ (found0, c_1, found2, found3, found4, found5)))) fail_) else (leaf0_ (found0, c_1, found2, found3, found4, found5))))) fail_) else (bif decide (c_1 > found5) then (optC (I.needsAllIn_t net set_) (fun c_272 => (bif c_272 then (leaf0_ (found0, c_1, found2, found3, found4, c_1)) else (leaf0_ (found0, c_1, found2, found3, found4, found5)))) fail_) else (leaf0_ (found0, c_1, found2, found3, found4, found5))))))) fail_) else (bif decide (c_1 > found3) then (optC (I.apartIn_t net set_) (fun c_273 => (bif c_273 then (bif decide (c_1 > found4) then (optC (I.leastWatchIn_t net set_) (fun c_274 => (bif c_274 then (bif decide (c_1 > found5) then (optC (I.needsAllIn_t net set_) (fun c_275 => (bif c_275 then (leaf0_ (found0, c_1, found2, c_1, c_1, c_1)) else (leaf0_ (found0, c_1, found2, c_1, c_1, found5)))) fail_) else (leaf0_ (found0, c_1, found2, c_1, c_1, found5))) else (bif decide (c_1 > found5) then (optC (I.needsAllIn_t net set_) (fun c_276 => (bif c_276 then (leaf0_ (found0, c_1, found2, c_1, found4, c_1)) else (leaf0_ (found0, c_1, found2, c_1, found4, found5)))) fail_) else (leaf0_ (found0, c_1, found2, c_1, found4, found5))))) fail_) else (bif decide (c_1 > found5) then (optC (I.needsAllIn_t net set_) (fun c_277 => (bif c_277 then (leaf0_ (found0, c_1, found2, c_1, found4, c_1)) else (leaf0_ (found0, c_1, found2, c_1, found4, found5)))) fail_) else (leaf0_ (found0, c_1, found2, c_1, found4, found5)))) else (bif decide (c_1 > found4) then (optC (I.leastWatchIn_t net set_) (fun c_278 => (bif c_278 then (bif decide (c_1 > found5) then (optC (I.needsAllIn_t net set_) (fun c_279 => (bif c_279 then (leaf0_ (found0, c_1, found2, found3, c_1, c_1)) else (leaf0_ (found0, c_1, found2, found3, c_1, found5)))) fail_) else (leaf0_ (found0, c_1, found2, found3, c_1, found5))) else (bif decide (c_1 > found5) then (optC (I.needsAllIn_t net set_) (fun c_280 => (bif c_280 then (leaf0_ (found0, c_1, found2, found3, found4, c_1)) else (leaf0_ (found0, c_1, found2, found3, found4, found5)))) fail_) else (leaf0_ (found0, c_1, found2, found3, found4, found5))))) fail_) else (bif decide (c_1 > found5) then (optC (I.needsAllIn_t net set_) (fun c_281 => (bif c_281 then (leaf0_ (found0, c_1, found2, found3, found4, c_1)) else (leaf0_ (found0, c_1, found2, found3, found4, found5)))) fail_) else (leaf0_ (found0, c_1, found2, found3, found4, found5)))))) fail_) else (bif decide (c_1 > found4) then (optC (I.leastWatchIn_t net set_) (fun c_282 => (bif c_282 then (bif decide (c_1 > found5) then (optC (I.needsAllIn_t net set_) (fun c_283 => (bif c_283 then (leaf0_ (found0, c_1, found2, found3, c_1, c_1)) else (leaf0_ (found0, c_1, found2, found3, c_1, found5)))) fail_) else (leaf0_ (found0, c_1, found2, found3, c_1, found5))) else (bif decide (c_1 > found5) then (optC (I.needsAllIn_t net set_) (fun c_284 => (bif c_284 then (leaf0_ (found0, c_1, found2, found3, found4, c_1)) else (leaf0_ (found0, c_1, found2, found3, found4, found5)))) fail_) else (leaf0_ (found0, c_1, found2, found3, found4, found5))))) fail_) else (bif decide (c_1 > found5) then (optC (I.needsAllIn_t net set_) (fun c_285 => (bif c_285 then (leaf0_ (found0, c_1, found2, found3, found4, c_1)) else (leaf0_ (found0, c_1, found2, found3, found4, found5)))) fail_) else (leaf0_ (found0, c_1, found2, found3, found4, found5)))))) else (bif decide (c_1 < found2) then (optC (I.fullApartIn_t net set_) (fun c_286 => (bif c_286 then (bif decide (c_1 > found3) then (optC (I.apartIn_t net set_) (fun c_287 => (bif c_287 then (bif decide (c_1 > found4) then (optC (I.leastWatchIn_t net set_) (fun c_288 => (bif c_288 then (bif decide (c_1 > found5) then (optC (I.needsAllIn_t net set_) (fun c_289 => (bif c_289 then (leaf0_ (found0, found1, c_1, c_1, c_1, c_1)) else (leaf0_ (found0, found1, c_1, c_1, c_1, found5)))) fail_) else (leaf0_ (found0, found1, c_1, c_1, c_1, found5))) else (bif decide (c_1 > found5) then (optC (I.needsAllIn_t net set_) (fun c_290 => (bif c_290 then (leaf0_ (found0, found1, c_1, c_1, found4, c_1)) else (leaf0_ (found0, found1, c_1, c_1, found4, found5)))) fail_) else (leaf0_ (found0, found1, c_1, c_1, found4, found5))))) fail_) else (bif decide (c_1 > found5) then (optC (I.needsAllIn_t net set_) (fun c_291 => (bif c_291 then (leaf0_ (found0, found1, c_1, c_1, found4, c_1)) else (leaf0_ (found0, found1, c_1, c_1, found4, found5)))) fail_) else (leaf0_ (found0, found1, c_1, c_1, found4, found5)))) else (bif decide (c_1 > found4) then (optC (I.leastWatchIn_t net set_) (fun c_292 => (bif c_292 then (bif decide (c_1 > found5) then (optC (I.needsAllIn_t net set_) (fun c_293 => (bif c_293 then (leaf0_ (found0, found1, c_1, found3, c_1, c_1)) else (leaf0_ (found0, found1, c_1, found3, c_1, found5)))) fail_) else (leaf0_ (found0, found1, c_1, found3, c_1, found5))) else (bif decide (c_1 > found5) then (optC (I.needsAllIn_t net set_) (fun c_294 => (bif c_294 then (leaf0_ (found0, found1, c_1, found3, found4, c_1)) else (leaf0_ (found0, found1, c_1, found3, found4, found5)))) fail_) else (leaf0_ (found0, found1, c_1, found3, found4, found5))))) fail_) else (bif decide (c_1 > found5) then (optC (I.needsAllIn_t net set_) (fun c_295 => (bif c_295 then (leaf0_ (found0, found1, c_1, found3, found4, c_1)) else (leaf0_ (found0, found1, c_1, found3, found4, found5)))) fail_) else (leaf0_ (found0, found1, c_1, found3, found4, found5)))))) fail_) else (bif decide (c_1 > found4) then (optC (I.leastWatchIn_t net set_) (fun c_296 => (bif c_296 then (bif decide (c_1 > found5) then (optC (I.needsAllIn_t net set_) (fun c_297 => (bif c_297 then (leaf0_ (found0, found1, c_1, found3, c_1, c_1)) else (leaf0_ (found0, found1, c_1, found3, c_1, found5)))) fail_) else (leaf0_ (found0, found1, c_1, found3, c_1, found5))) else (bif decide (c_1 > found5) then (optC (I.needsAllIn_t net set_) (fun c_298 => (bif c_298 then (leaf0_ (found0, found1, c_1, found3, found4, c_1)) else (leaf0_ (found0, found1, c_1, found3, found4, found5)))) fail_) else (leaf0_ (found0, found1, c_1, found3, found4, found5))))) fail_) else (bif decide (c_1 > found5) then (optC (I.needsAllIn_t net set_) (fun c_299 => (bif c_299 then (leaf0_ (found0, found1, c_1, found3, found4, c_1)) else (leaf0_ (found0, found1, c_1, found3, found4, found5)))) fail_) else (leaf0_ (found0, found1, c_1, found3, found4, found5))))) else (bif decide (c_1 > found3) then (optC (I.apartIn_t net set_) (fun c_300 => (bif c_300 then (bif decide (c_1 > found4) then (optC (I.leastWatchIn_t net set_) (fun c_301 => (bif c_301 then (bif decide (c_1 > found5) then (optC (I.needsAllIn_t net set_) (fun c_302 => (bif c_302 then (leaf0_ (found0, found1, found2, c_1, c_1, c_1)) else (leaf0_ (found0, found1, found2, c_1, c_1, found5)))) fail_) else (leaf0_ (found0, found1, found2, c_1, c_1, found5))) else (bif decide (c_1 > found5) then (optC (I.needsAllIn_t net set_) (fun c_303 => (bif c_303 then (leaf0_ (found0, found1, found2, c_1, found4, c_1)) else (leaf0_ (found0, found1, found2, c_1, found4, found5)))) fail_) else (leaf0_ (found0, found1, found2, c_1, found4, found5))))) fail_) else (bif decide (c_1 > found5) then (optC (I.needsAllIn_t net set_) (fun c_304 => (bif c_304 then (leaf0_ (found0, found1, found2, c_1, found4, c_1)) else (leaf0_ (found0, found1, found2, c_1, found4, found5)))) fail_) else (leaf0_ (found0, found1, found2, c_1, found4, found5)))) else (bif decide (c_1 > found4) then (optC (I.leastWatchIn_t net set_) (fun c_305 => (bif c_305 then (bif decide (c_1 > found5) then (optC (I.needsAllIn_t net set_) (fun c_306 => (bif c_306 then (leaf0_ (found0, found1, found2, found3, c_1, c_1)) else (leaf0_ (found0, found1, found2, found3, c_1, found5)))) fail_) else (leaf0_ (found0, found1, found2, found3, c_1, found5))) else (bif decide (c_1 > found5) then (optC (I.needsAllIn_t net set_) (fun c_307 => (bif c_307 then (leaf0_ (found0, found1, found2, found3, found4, c_1)) else (leaf0_ (found0, found1, found2, found3, found4, found5)))) fail_) else (leaf0_ (found0, found1, found2, found3, found4, found5))))) fail_) else (bif decide (c_1 > found5) then (optC (I.needsAllIn_t net set_) (fun c_308 => (bif c_308 then (leaf0_ (found0, found1, found2, found3, found4, c_1)) else (leaf0_ (found0, found1, found2, found3, found4, found5)))) fail_) else (leaf0_ (found0, found1, found2, found3, found4, found5)))))) fail_) else (bif decide (c_1 > found4) then (optC (I.leastWatchIn_t net set_) (fun c_309 => (bif c_309 then (bif decide (c_1 > found5) then (optC (I.needsAllIn_t net set_) (fun c_310 => (bif c_310 then (leaf0_ (found0, found1, found2, found3, c_1, c_1)) else (leaf0_ (found0, found1, found2, found3, c_1, found5)))) fail_) else (leaf0_ (found0, found1, found2, found3, c_1, found5))) else (bif decide (c_1 > found5) then (optC (I.needsAllIn_t net set_) (fun c_311 => (bif c_311 then (leaf0_ (found0, found1, found2, found3, found4, c_1)) else (leaf0_ (found0, found1, found2, found3, found4, found5)))) fail_) else (leaf0_ (found0, found1, found2, found3, found4, found5))))) fail_) else (bif decide (c_1 > found5) then (optC (I.needsAllIn_t net set_) (fun c_312 => (bif c_312 then (leaf0_ (found0, found1, found2, found3, found4, c_1)) else (leaf0_ (found0, found1, found2, found3, found4, found5)))) fail_) else (leaf0_ (found0, found1, found2, found3, found4, found5))))))) fail_) else (bif decide (c_1 > found3) then (optC (I.apartIn_t net set_) (fun c_313 => (bif c_313 then (bif decide (c_1 > found4) then (optC (I.leastWatchIn_t net set_) (fun c_314 => (bif c_314 then (bif decide (c_1 > found5) then (optC (I.needsAllIn_t net set_) (fun c_315 => (bif c_315 then (leaf0_ (found0, found1, found2, c_1, c_1, c_1)) else (leaf0_ (found0, found1, found2, c_1, c_1, found5)))) fail_) else (leaf0_ (found0, found1, found2, c_1, c_1, found5))) else (bif decide (c_1 > found5) then (optC (I.needsAllIn_t net set_) (fun c_316 => (bif c_316 then (leaf0_ (found0, found1, found2, c_1, found4, c_1)) else (leaf0_ (found0, found1, found2, c_1, found4, found5)))) fail_) else (leaf0_ (found0, found1, found2, c_1, found4, found5))))) fail_) else (bif decide (c_1 > found5) then (optC (I.needsAllIn_t net set_) (fun c_317 => (bif c_317 then (leaf0_ (found0, found1, found2, c_1, found4, c_1)) else (leaf0_ (found0, found1, found2, c_1, found4, found5)))) fail_) else (leaf0_ (found0, found1, found2, c_1, found4, found5)))) else (bif decide (c_1 > found4) then (optC (I.leastWatchIn_t net set_) (fun c_318 => (bif c_318 then (bif decide (c_1 > found5) then (optC (I.needsAllIn_t net set_) (fun c_319 => (bif c_319 then (leaf0_ (found0, found1, found2, found3, c_1, c_1)) else (leaf0_ (found0, found1, found2, found3, c_1, found5)))) fail_) else (leaf0_ (found0, found1, found2, found3, c_1, found5))) else (bif decide (c_1 > found5) then (optC (I.needsAllIn_t net set_) (fun c_320 => (bif c_320 then (leaf0_ (found0, found1, found2, found3, found4, c_1)) else (leaf0_ (found0, found1, found2, found3, found4, found5)))) fail_) else (leaf0_ (found0, found1, found2, found3, found4, found5))))) fail_) else (bif decide (c_1 > found5) then (optC (I.needsAllIn_t net set_) (fun c_321 => (bif c_321 then (leaf0_ (found0, found1, found2, found3, found4, c_1)) else (leaf0_ (found0, found1, found2, found3, found4, found5)))) fail_) else (leaf0_ (found0, found1, found2, found3, found4, found5)))))) fail_) else (bif decide (c_1 > found4) then (optC (I.leastWatchIn_t net set_) (fun c_322 => (bif c_322 then (bif decide (c_1 > found5) then (optC (I.needsAllIn_t net set_) (fun c_323 => (bif c_323 then (leaf0_ (found0, found1, found2, found3, c_1, c_1)) else (leaf0_ (found0, found1, found2, found3, c_1, found5)))) fail_) else (leaf0_ (found0, found1, found2, found3, c_1, found5))) else (bif decide (c_1 > found5) then (optC (I.needsAllIn_t net set_) (fun c_324 => (bif c_324 then (leaf0_ (found0, found1, found2, found3, found4, c_1)) else (leaf0_ (found0, found1, found2, found3, found4, found5)))) fail_) else (leaf0_ (found0, found1, found2, found3, found4, found5))))) fail_) else (bif decide (c_1 > found5) then (optC (I.needsAllIn_t net set_) (fun c_325 => (bif c_325 then (leaf0_ (found0, found1, found2, found3, found4, c_1)) else (leaf0_ (found0, found1, found2, found3, found4, found5)))) fail_) else (leaf0_ (found0, found1, found2, found3, found4, found5)))))))) fail_) else (bif decide (c_1 < found2) then (optC (I.fullApartIn_t net set_) (fun c_326 => (bif c_326 then (bif decide (c_1 > found3) then (optC (I.apartIn_t net set_) (fun c_327 => (bif c_327 then (bif decide (c_1 > found4) then (optC (I.leastWatchIn_t net set_) (fun c_328 => (bif c_328 then (bif decide (c_1 > found5) then (optC (I.needsAllIn_t net set_) (fun c_329 => (bif c_329 then (leaf0_ (found0, found1, c_1, c_1, c_1, c_1)) else (leaf0_ (found0, found1, c_1, c_1, c_1, found5)))) fail_) else (leaf0_ (found0, found1, c_1, c_1, c_1, found5))) else (bif decide (c_1 > found5) then (optC (I.needsAllIn_t net set_) (fun c_330 => (bif c_330 then (leaf0_ (found0, found1, c_1, c_1, found4, c_1)) else (leaf0_ (found0, found1, c_1, c_1, found4, found5)))) fail_) else (leaf0_ (found0, found1, c_1, c_1, found4, found5))))) fail_) else (bif decide (c_1 > found5) then (optC (I.needsAllIn_t net set_) (fun c_331 => (bif c_331 then (leaf0_ (found0, found1, c_1, c_1, found4, c_1)) else (leaf0_ (found0, found1, c_1, c_1, found4, found5)))) fail_) else (leaf0_ (found0, found1, c_1, c_1, found4, found5)))) else (bif decide (c_1 > found4) then (optC (I.leastWatchIn_t net set_) (fun c_332 => (bif c_332 then (bif decide (c_1 > found5) then (optC (I.needsAllIn_t net set_) (fun c_333 => (bif c_333 then (leaf0_ (found0, found1, c_1, found3, c_1, c_1)) else (leaf0_ (found0, found1, c_1, found3, c_1, found5)))) fail_) else (leaf0_ (found0, found1, c_1, found3, c_1, found5))) else (bif decide (c_1 > found5) then (optC (I.needsAllIn_t net set_) (fun c_334 => (bif c_334 then (leaf0_ (found0, found1, c_1, found3, found4, c_1)) else (leaf0_ (found0, found1, c_1, found3, found4, found5)))) fail_) else (leaf0_ (found0, found1, c_1, found3, found4, found5))))) fail_) else (bif decide (c_1 > found5) then (optC (I.needsAllIn_t net set_) (fun c_335 => (bif c_335 then (leaf0_ (found0, found1, c_1, found3, found4, c_1)) else (leaf0_ (found0, found1, c_1, found3, found4, found5)))) fail_) else (leaf0_ (found0, found1, c_1, found3, found4, found5)))))) fail_) else (bif decide (c_1 > found4) then (optC (I.leastWatchIn_t net set_) (fun c_336 => (bif c_336 then (bif decide (c_1 > found5) then (optC (I.needsAllIn_t net set_) (fun c_337 => (bif c_337 then (leaf0_ (found0, found1, c_1, found3, c_1, c_1)) else (leaf0_ (found0, found1, c_1, found3, c_1, found5)))) fail_) else (leaf0_ (found0, found1, c_1, found3, c_1, found5))) else (bif decide (c_1 > found5) then (optC (I.needsAllIn_t net set_) (fun c_338 => (bif c_338 then (leaf0_ (found0, found1, c_1, found3, found4, c_1)) else (leaf0_ (found0, found1, c_1, found3, found4, found5)))) fail_) else (leaf0_ (found0, found1, c_1, found3, found4, found5))))) fail_) else (bif decide (c_1 > found5) then (optC (I.needsAllIn_t net set_) (fun c_339 => (bif c_339 then (leaf0_ (found0, found1, c_1, found3, found4, c_1)) else (leaf0_ (found0, found1, c_1, found3, found4, found5)))) fail_) else (leaf0_ (found0, found1, c_1, found3, found4, found5))))) else (bif decide (c_1 > found3) then (optC (I.apartIn_t net set_) (fun c_340 => (bif c_340 then (bif decide (c_1 > found4) then (optC (I.leastWatchIn_t net set_) (fun c_341 => (bif c_341 then (bif decide (c_1 > found5) then (optC (I.needsAllIn_t net set_) (fun c_342 => (bif c_342 then (leaf0_ (found0, found1, found2, c_1, c_1, c_1)) else (leaf0_ (found0, found1, found2, c_1, c_1, found5)))) fail_) else (leaf0_ (found0, found1, found2, c_1, c_1, found5))) else (bif decide (c_1 > found5) then (optC (I.needsAllIn_t net set_) (fun c_343 => (bif c_343 then (leaf0_ (found0, found1, found2, c_1, found4, c_1)) else (leaf0_ (found0, found1, found2, c_1, found4, found5)))) fail_) else (leaf0_ (found0, found1, found2, c_1, found4, found5))))) fail_) else (bif decide (c_1 > found5) then (optC (I.needsAllIn_t net set_) (fun c_344 => (bif c_344 then (leaf0_ (found0, found1, found2, c_1, found4, c_1)) else (leaf0_ (found0, found1, found2, c_1, found4, found5)))) fail_) else (leaf0_ (found0, found1, found2, c_1, found4, found5)))) else (bif decide (c_1 > found4) then (optC (I.leastWatchIn_t net set_) (fun c_345 => (bif c_345 then (bif decide (c_1 > found5) then (optC (I.needsAllIn_t net set_) (fun c_346 => (bif c_346 then (leaf0_ (found0, found1, found2, found3, c_1, c_1)) else (leaf0_ (found0, found1, found2, found3, c_1, found5)))) fail_) else (leaf0_ (found0, found1, found2, found3, c_1, found5))) else (bif decide (c_1 > found5) then (optC (I.needsAllIn_t net set_) (fun c_347 => (bif c_347 then (leaf0_ (found0, found1, found2, found3, found4, c_1)) else (leaf0_ (found0, found1, found2, found3, found4, found5)))) fail_) else (leaf0_ (found0, found1, found2, found3, found4, found5))))) fail_) else (bif decide (c_1 > found5) then (optC (I.needsAllIn_t net set_) (fun c_348 => (bif c_348 then (leaf0_ (found0, found1, found2, found3, found4, c_1)) else (leaf0_ (found0, found1, found2, found3, found4, found5)))) fail_) else (leaf0_ (found0, found1, found2, found3, found4, found5)))))) fail_) else (bif decide (c_1 > found4) then (optC (I.leastWatchIn_t net set_) (fun c_349 => (bif c_349 then (bif decide (c_1 > found5) then (optC (I.needsAllIn_t net set_) (fun c_350 => (bif c_350 then (leaf0_ (found0, found1, found2, found3, c_1, c_1)) else (leaf0_ (found0, found1, found2, found3, c_1, found5)))) fail_) else (leaf0_ (found0, found1, found2, found3, c_1, found5))) else (bif decide (c_1 > found5) then (optC (I.needsAllIn_t net set_) (fun c_351 => (bif c_351 then (leaf0_ (found0, found1, found2, found3, found4, c_1)) else (leaf0_ (found0, found1, found2, found3, found4, found5)))) fail_) else (leaf0_ (found0, found1, found2, found3, found4, found5))))) fail_) else (bif decide (c_1 > found5) then (optC (I.needsAllIn_t net set_) (fun c_352 => (bif c_352 then (leaf0_ (found0, found1, found2, found3, found4, c_1)) else (leaf0_ (found0, found1, found2, found3, found4, found5)))) fail_) else (leaf0_ (found0, found1, found2, found3, found4, found5))))))) fail_) else (bif decide (c_1 > found3) then (optC (I.apartIn_t net set_) (fun c_353 => (bif c_353 then (bif decide (c_1 > found4) then (optC (I.leastWatchIn_t net set_) (fun c_354 => (bif c_354 then (bif decide (c_1 > found5) then (optC (I.needsAllIn_t net set_) (fun c_355 => (bif c_355 then (leaf0_ (found0, found1, found2, c_1, c_1, c_1)) else (leaf0_ (found0, found1, found2, c_1, c_1, found5)))) fail_) else (leaf0_ (found0, found1, found2, c_1, c_1, found5))) else (bif decide (c_1 > found5) then (optC (I.needsAllIn_t net set_) (fun c_356 => (bif c_356 then (leaf0_ (found0, found1, found2, c_1, found4, c_1)) else (leaf0_ (found0, found1, found2, c_1, found4, found5)))) fail_) else (leaf0_ (found0, found1, found2, c_1, found4, found5))))) fail_) else (bif decide (c_1 > found5) then (optC (I.needsAllIn_t net set_) (fun c_357 => (bif c_357 then (leaf0_ (found0, found1, found2, c_1, found4, c_1)) else (leaf0_ (found0, found1, found2, c_1, found4, found5)))) fail_) else (leaf0_ (found0, found1, found2, c_1, found4, found5)))) else (bif decide (c_1 > found4) then (optC (I.leastWatchIn_t net set_) (fun c_358 => (bif c_358 then (bif decide (c_1 > found5) then (optC (I.needsAllIn_t net set_) (fun c_359 => (bif c_359 then (leaf0_ (found0, found1, found2, found3, c_1, c_1)) else (leaf0_ (found0, found1, found2, found3, c_1, found5)))) fail_) else (leaf0_ (found0, found1, found2, found3, c_1, found5))) else (bif decide (c_1 > found5) then (optC (I.needsAllIn_t net set_) (fun c_360 => (bif c_360 then (leaf0_ (found0, found1, found2, found3, found4, c_1)) else (leaf0_ (found0, found1, found2, found3, found4, found5)))) fail_) else (leaf0_ (found0, found1, found2, found3, found4, found5))))) fail_) else (bif decide (c_1 > found5) then (optC (I.needsAllIn_t net set_) (fun c_361 => (bif c_361 then (leaf0_ (found0, found1, found2, found3, found4, c_1)) else (leaf0_ (found0, found1, found2, found3, found4, found5)))) fail_) else (leaf0_ (found0, found1, found2, found3, found4, found5)))))) fail_) else (bif decide (c_1 > found4) then (optC (I.leastWatchIn_t net set_) (fun c_362 => (bif c_362 then (bif decide (c_1 > found5) then (optC (I.needsAllIn_t net set_) (fun c_363 => (bif c_363 then (leaf0_ (found0, found1, found2, found3, c_1, c_1)) else (leaf0_ (found0, found1, found2, found3, c_1, found5)))) fail_) else (leaf0_ (found0, found1, found2, found3, c_1, found5))) else (bif decide (c_1 > found5) then (optC (I.needsAllIn_t net set_) (fun c_364 => (bif c_364 then (leaf0_ (found0, found1, found2, found3, found4, c_1)) else (leaf0_ (found0, found1, found2, found3, found4, found5)))) fail_) else (leaf0_ (found0, found1, found2, found3, found4, found5))))) fail_) else (bif decide (c_1 > found5) then (optC (I.needsAllIn_t net set_) (fun c_365 => (bif c_365 then (leaf0_ (found0, found1, found2, found3, found4, c_1)) else (leaf0_ (found0, found1, found2, found3, found4, found5)))) fail_) else (leaf0_ (found0, found1, found2, found3, found4, found5))))))))) fail_)
theorem I.chainWith_tree_nat {α γ : Type} (g : α → γ) (found0 : Int) (found1 : Int) (found2 : Int) (found3 : Int) (found4 : Int) (found5 : Int) (net : List Int) (set_ : Int) (leaf0_ : Int × Int × Int × Int × Int × Int → α) (fail_ : α) : g (I.chainWith_tree found0 found1 found2 found3 found4 found5 net set_ leaf0_ fail_) = I.chainWith_tree found0 found1 found2 found3 found4 found5 net set_ (fun d => g (leaf0_ d)) (g fail_) := by
  unfold I.chainWith_tree; simp only [apply_cnd g, apply_optC g, apply_sumC g]
noncomputable def I.chainWith_t (found0 : Int) (found1 : Int) (found2 : Int) (found3 : Int) (found4 : Int) (found5 : Int) (net : List Int) (set_ : Int) : Option (Int × Int × Int × Int × Int × Int) := I.chainWith_tree found0 found1 found2 found3 found4 found5 net set_ (fun d => some d) none
theorem I.chainWith_den (found0 : Int) (found1 : Int) (found2 : Int) (found3 : Int) (found4 : Int) (found5 : Int) (net : List Int) (set_ : Int) (κ : V → List E → R) : I.chainWith_F [.agg [.int .i64 found0, .int .i64 found1, .int .i64 found2, .int .i64 found3, .int .i64 found4, .int .i64 found5], .ro false (.ints .i64 net), .int .i64 set_] [] κ = optC (I.chainWith_t found0 found1 found2 found3 found4 found5 net set_) (fun (r : Int × Int × Int × Int × Int × Int) => κ (.agg [(.int .i64 r.1), (.int .i64 r.2.1), (.int .i64 r.2.2.1), (.int .i64 r.2.2.2.1), (.int .i64 r.2.2.2.2.1), (.int .i64 r.2.2.2.2.2)]) []) none := by
  have hu : I.chainWith_F [.agg [.int .i64 found0, .int .i64 found1, .int .i64 found2, .int .i64 found3, .int .i64 found4, .int .i64 found5], .ro false (.ints .i64 net), .int .i64 set_] [] κ = I.chainWith_tree found0 found1 found2 found3 found4 found5 net set_ (fun d => κ (.agg [(.int .i64 d.1), (.int .i64 d.2.1), (.int .i64 d.2.2.1), (.int .i64 d.2.2.2.1), (.int .i64 d.2.2.2.2.1), (.int .i64 d.2.2.2.2.2)]) []) none := by
    kernel_rfl
  rw [hu]
  exact (I.chainWith_tree_nat (fun o => optC o (fun (r : Int × Int × Int × Int × Int × Int) => κ (.agg [(.int .i64 r.1), (.int .i64 r.2.1), (.int .i64 r.2.2.1), (.int .i64 r.2.2.2.1), (.int .i64 r.2.2.2.2.1), (.int .i64 r.2.2.2.2.2)]) []) none) found0 found1 found2 found3 found4 found5 net set_ (fun d => some d) none).symm
noncomputable def I.chainWith_s : D.Spec where
  keep := false
  pure := true
  ds := [.invalid, .int .i64, .invalid]
  sp := fun args h κ => match args, h with
    | [.agg [.int .i64 found0, .int .i64 found1, .int .i64 found2, .int .i64 found3, .int .i64 found4, .int .i64 found5], .ro false (.ints .i64 net), .int .i64 set_], [] => optC (I.chainWith_t found0 found1 found2 found3 found4 found5 net set_) (fun (r : Int × Int × Int × Int × Int × Int) => κ (.agg [(.int .i64 r.1), (.int .i64 r.2.1), (.int .i64 r.2.2.1), (.int .i64 r.2.2.2.1), (.int .i64 r.2.2.2.2.1), (.int .i64 r.2.2.2.2.2)]) []) none
    | _, _ => none
theorem I.chainWith_ok : SpecOk Try.prog 89 I.chainWith_s := by
  refine SpecOk.of TDok mixed (T := I.chainWith_T) ?_ (ann := I.chainWith_ann) Try.func89 rfl (by decide +kernel) ?_ ?_ ?_
  · intro p hp
    simp only [I.chainWith_T, List.mem_cons, List.not_mem_nil, or_false] at hp
    rcases hp with rfl | rfl | rfl | rfl | rfl | rfl | rfl
    · exact I.sizeOf_ok
    · exact I.fullNeedsIn_ok
    · exact I.watchIn_ok
    · exact I.fullApartIn_ok
    · exact I.apartIn_ok
    · exact I.leastWatchIn_ok
    · exact I.needsAllIn_ok
  · intro args h κ r hh
    simp only [I.chainWith_s] at hh
    split at hh
    · exact (I.chainWith_den _ _ _ _ _ _ _ _ κ).trans hh
    · cases hh
  · intro args h κ r hh
    simp only [I.chainWith_s] at hh ⊢
    split at hh
    · exact optC_law2 (F := fun (r : Int × Int × Int × Int × Int × Int) κ => κ (.agg [(.int .i64 r.1), (.int .i64 r.2.1), (.int .i64 r.2.2.1), (.int .i64 r.2.2.2.1), (.int .i64 r.2.2.2.2.1), (.int .i64 r.2.2.2.2.2)]) []) (fun b κ r hb => ⟨_, _, hb, fun _ => rfl⟩) hh
    · cases hh
  · intro _ args h κ r hh
    simp only [I.chainWith_s] at hh
    split at hh
    · exact ⟨rfl, fun _ => rfl⟩
    · cases hh

-- loop.example/guardsonnets/impl.chainIn
noncomputable def I.chainIn_T : List (Nat × D.Spec) := [(61, I.allOf_s), (89, I.chainWith_s)]
def I.chainIn_ann : Nat → List Nat × List Nat
  | 4 => ([0, 2, 4, 5], [2, 4])
  | _ => ([], [])
noncomputable def I.chainIn_F (args : List V) (h : List E) (κ : V → List E → R) : R := funC TD (tableK I.chainIn_T) I.chainIn_ann (drawOk (tableP I.chainIn_T)) FUEL Try.f73 args h κ
noncomputable def I.chainIn_L4 (n : Nat) (σ : St) (k : X → St → R) : R := iterC 0 (fun σ k => denC TD (tableK I.chainIn_T) I.chainIn_ann (drawOk (tableP I.chainIn_T)) 0 FUEL ((findLoop 4 (Try.f73.body.getD .skip)).getD .skip) σ k) [0, 2, 4, 5] [2, 4] n σ k
noncomputable def I.chainIn_k4 (κ : V → List E → R) : X → St → R := (afterC TD (tableK I.chainIn_T) I.chainIn_ann (drawOk (tableP I.chainIn_T)) 0 FUEL 4 (Try.f73.body.getD .skip) (finC TD 0 Try.f73 κ)).getD (fun _ _ => none)
noncomputable def I.chainIn_step4 {α : Type} (x0 : List Int) (x5 : Int) (r0_0 : Int) (r0_1 : Int) (r0_2 : Int) (r0_3 : Int) (r0_4 : Int) (r0_5 : Int) (r1_0 : Int) (r1_1 : Int) (r1_2 : Int) (r1_3 : Int) (r1_4 : Int) (r1_5 : Int) (next_ : Int × Int × Int × Int × Int × Int × Int × Int × Int × Int × Int × Int × Int → α) (out0_ : Int × Int × Int × Int × Int × Int × Int × Int × Int × Int × Int × Int → α) (fail_ : α) : α :=
  (optC (I.allOf_t x0) (fun c_1 => (bif decide (x5 ≤ c_1) then (optC (I.chainWith_t r1_0 r1_1 r1_2 r1_3 r1_4 r1_5 x0 x5) (fun c_2 => (next_ (IntKind.i64.wrap (x5 + 1), r0_0, r0_1, r0_2, r0_3, r0_4, r0_5, c_2.fst, c_2.snd.fst, c_2.snd.snd.fst, c_2.snd.snd.snd.fst, c_2.snd.snd.snd.snd.fst, c_2.snd.snd.snd.snd.snd))) fail_) else (out0_ (r0_0, r0_1, r0_2, r0_3, r0_4, r0_5, r1_0, r1_1, r1_2, r1_3, r1_4, r1_5)))) fail_)
theorem I.chainIn_step4_nat {α γ : Type} (g : α → γ) (x0 : List Int) (x5 : Int) (r0_0 : Int) (r0_1 : Int) (r0_2 : Int) (r0_3 : Int) (r0_4 : Int) (r0_5 : Int) (r1_0 : Int) (r1_1 : Int) (r1_2 : Int) (r1_3 : Int) (r1_4 : Int) (r1_5 : Int) (next_ : Int × Int × Int × Int × Int × Int × Int × Int × Int × Int × Int × Int × Int → α) (out0_ : Int × Int × Int × Int × Int × Int × Int × Int × Int × Int × Int × Int → α) (fail_ : α) : g (I.chainIn_step4 x0 x5 r0_0 r0_1 r0_2 r0_3 r0_4 r0_5 r1_0 r1_1 r1_2 r1_3 r1_4 r1_5 next_ out0_ fail_) = I.chainIn_step4 x0 x5 r0_0 r0_1 r0_2 r0_3 r0_4 r0_5 r1_0 r1_1 r1_2 r1_3 r1_4 r1_5 (fun s => g (next_ s)) (fun d => g (out0_ d)) (g fail_) := by
  unfold I.chainIn_step4; simp only [apply_cnd g, apply_optC g, apply_sumC g]
noncomputable def I.chainIn_run4 (x0 : List Int) : Nat → Int × Int × Int × Int × Int × Int × Int × Int × Int × Int × Int × Int × Int → Option (Int × Int × Int × Int × Int × Int × Int × Int × Int × Int × Int × Int)
  | 0, _ => none
  | n + 1, s_ => I.chainIn_step4 x0 s_.1 s_.2.1 s_.2.2.1 s_.2.2.2.1 s_.2.2.2.2.1 s_.2.2.2.2.2.1 s_.2.2.2.2.2.2.1 s_.2.2.2.2.2.2.2.1 s_.2.2.2.2.2.2.2.2.1 s_.2.2.2.2.2.2.2.2.2.1 s_.2.2.2.2.2.2.2.2.2.2.1 s_.2.2.2.2.2.2.2.2.2.2.2.1 s_.2.2.2.2.2.2.2.2.2.2.2.2 (I.chainIn_run4 x0 n) (fun d => some d) none
theorem I.chainIn_L4_run (x0 : List Int) (n : Nat) (s_ : Int × Int × Int × Int × Int × Int × Int × Int × Int × Int × Int × Int × Int) (k : X → St → R) : I.chainIn_L4 n { n := 23, t := [(0, (.ro false (.ints .i64 x0))), (2, (.ptr 0 0)), (4, (.ptr 1 0)), (5, (.int .i64 s_.1))], h := [.cells [(.int .i64 s_.2.1), (.int .i64 s_.2.2.1), (.int .i64 s_.2.2.2.1), (.int .i64 s_.2.2.2.2.1), (.int .i64 s_.2.2.2.2.2.1), (.int .i64 s_.2.2.2.2.2.2.1)], .cells [(.int .i64 s_.2.2.2.2.2.2.2.1), (.int .i64 s_.2.2.2.2.2.2.2.2.1), (.int .i64 s_.2.2.2.2.2.2.2.2.2.1), (.int .i64 s_.2.2.2.2.2.2.2.2.2.2.1), (.int .i64 s_.2.2.2.2.2.2.2.2.2.2.2.1), (.int .i64 s_.2.2.2.2.2.2.2.2.2.2.2.2)]] } k = optC (I.chainIn_run4 x0 n s_) (fun (r : Int × Int × Int × Int × Int × Int × Int × Int × Int × Int × Int × Int) => k (.exit 0) { n := 23, t := [(2, (.ptr 0 0)), (4, (.ptr 1 0))], h := [.cells [(.int .i64 r.1), (.int .i64 r.2.1), (.int .i64 r.2.2.1), (.int .i64 r.2.2.2.1), (.int .i64 r.2.2.2.2.1), (.int .i64 r.2.2.2.2.2.1)], .cells [(.int .i64 r.2.2.2.2.2.2.1), (.int .i64 r.2.2.2.2.2.2.2.1), (.int .i64 r.2.2.2.2.2.2.2.2.1), (.int .i64 r.2.2.2.2.2.2.2.2.2.1), (.int .i64 r.2.2.2.2.2.2.2.2.2.2.1), (.int .i64 r.2.2.2.2.2.2.2.2.2.2.2)]] }) none := by
  induction n generalizing s_ with
  | zero => rfl
  | succ n ih =>
    have hu : I.chainIn_L4 (n + 1) { n := 23, t := [(0, (.ro false (.ints .i64 x0))), (2, (.ptr 0 0)), (4, (.ptr 1 0)), (5, (.int .i64 s_.1))], h := [.cells [(.int .i64 s_.2.1), (.int .i64 s_.2.2.1), (.int .i64 s_.2.2.2.1), (.int .i64 s_.2.2.2.2.1), (.int .i64 s_.2.2.2.2.2.1), (.int .i64 s_.2.2.2.2.2.2.1)], .cells [(.int .i64 s_.2.2.2.2.2.2.2.1), (.int .i64 s_.2.2.2.2.2.2.2.2.1), (.int .i64 s_.2.2.2.2.2.2.2.2.2.1), (.int .i64 s_.2.2.2.2.2.2.2.2.2.2.1), (.int .i64 s_.2.2.2.2.2.2.2.2.2.2.2.1), (.int .i64 s_.2.2.2.2.2.2.2.2.2.2.2.2)]] } k = I.chainIn_step4 x0 s_.1 s_.2.1 s_.2.2.1 s_.2.2.2.1 s_.2.2.2.2.1 s_.2.2.2.2.2.1 s_.2.2.2.2.2.2.1 s_.2.2.2.2.2.2.2.1 s_.2.2.2.2.2.2.2.2.1 s_.2.2.2.2.2.2.2.2.2.1 s_.2.2.2.2.2.2.2.2.2.2.1 s_.2.2.2.2.2.2.2.2.2.2.2.1 s_.2.2.2.2.2.2.2.2.2.2.2.2 (fun s_ => I.chainIn_L4 n { n := 23, t := [(0, (.ro false (.ints .i64 x0))), (2, (.ptr 0 0)), (4, (.ptr 1 0)), (5, (.int .i64 s_.1))], h := [.cells [(.int .i64 s_.2.1), (.int .i64 s_.2.2.1), (.int .i64 s_.2.2.2.1), (.int .i64 s_.2.2.2.2.1), (.int .i64 s_.2.2.2.2.2.1), (.int .i64 s_.2.2.2.2.2.2.1)], .cells [(.int .i64 s_.2.2.2.2.2.2.2.1), (.int .i64 s_.2.2.2.2.2.2.2.2.1), (.int .i64 s_.2.2.2.2.2.2.2.2.2.1), (.int .i64 s_.2.2.2.2.2.2.2.2.2.2.1), (.int .i64 s_.2.2.2.2.2.2.2.2.2.2.2.1), (.int .i64 s_.2.2.2.2.2.2.2.2.2.2.2.2)]] } k) (fun d => k (.exit 0) { n := 23, t := [(2, (.ptr 0 0)), (4, (.ptr 1 0))], h := [.cells [(.int .i64 d.1), (.int .i64 d.2.1), (.int .i64 d.2.2.1), (.int .i64 d.2.2.2.1), (.int .i64 d.2.2.2.2.1), (.int .i64 d.2.2.2.2.2.1)], .cells [(.int .i64 d.2.2.2.2.2.2.1), (.int .i64 d.2.2.2.2.2.2.2.1), (.int .i64 d.2.2.2.2.2.2.2.2.1), (.int .i64 d.2.2.2.2.2.2.2.2.2.1), (.int .i64 d.2.2.2.2.2.2.2.2.2.2.1), (.int .i64 d.2.2.2.2.2.2.2.2.2.2.2)]] }) none := by
      kernel_rfl
    have hs : (fun s_ : Int × Int × Int × Int × Int × Int × Int × Int × Int × Int × Int × Int × Int => I.chainIn_L4 n { n := 23, t := [(0, (.ro false (.ints .i64 x0))), (2, (.ptr 0 0)), (4, (.ptr 1 0)), (5, (.int .i64 s_.1))], h := [.cells [(.int .i64 s_.2.1), (.int .i64 s_.2.2.1), (.int .i64 s_.2.2.2.1), (.int .i64 s_.2.2.2.2.1), (.int .i64 s_.2.2.2.2.2.1), (.int .i64 s_.2.2.2.2.2.2.1)], .cells [(.int .i64 s_.2.2.2.2.2.2.2.1), (.int .i64 s_.2.2.2.2.2.2.2.2.1), (.int .i64 s_.2.2.2.2.2.2.2.2.2.1), (.int .i64 s_.2.2.2.2.2.2.2.2.2.2.1), (.int .i64 s_.2.2.2.2.2.2.2.2.2.2.2.1), (.int .i64 s_.2.2.2.2.2.2.2.2.2.2.2.2)]] } k) = fun s_ => optC (I.chainIn_run4 x0 n s_) (fun (r : Int × Int × Int × Int × Int × Int × Int × Int × Int × Int × Int × Int) => k (.exit 0) { n := 23, t := [(2, (.ptr 0 0)), (4, (.ptr 1 0))], h := [.cells [(.int .i64 r.1), (.int .i64 r.2.1), (.int .i64 r.2.2.1), (.int .i64 r.2.2.2.1), (.int .i64 r.2.2.2.2.1), (.int .i64 r.2.2.2.2.2.1)], .cells [(.int .i64 r.2.2.2.2.2.2.1), (.int .i64 r.2.2.2.2.2.2.2.1), (.int .i64 r.2.2.2.2.2.2.2.2.1), (.int .i64 r.2.2.2.2.2.2.2.2.2.1), (.int .i64 r.2.2.2.2.2.2.2.2.2.2.1), (.int .i64 r.2.2.2.2.2.2.2.2.2.2.2)]] }) none := funext ih
    rw [hu, hs]
    exact (I.chainIn_step4_nat (fun o => optC o (fun (r : Int × Int × Int × Int × Int × Int × Int × Int × Int × Int × Int × Int) => k (.exit 0) { n := 23, t := [(2, (.ptr 0 0)), (4, (.ptr 1 0))], h := [.cells [(.int .i64 r.1), (.int .i64 r.2.1), (.int .i64 r.2.2.1), (.int .i64 r.2.2.2.1), (.int .i64 r.2.2.2.2.1), (.int .i64 r.2.2.2.2.2.1)], .cells [(.int .i64 r.2.2.2.2.2.2.1), (.int .i64 r.2.2.2.2.2.2.2.1), (.int .i64 r.2.2.2.2.2.2.2.2.1), (.int .i64 r.2.2.2.2.2.2.2.2.2.1), (.int .i64 r.2.2.2.2.2.2.2.2.2.2.1), (.int .i64 r.2.2.2.2.2.2.2.2.2.2.2)]] }) none) x0 s_.1 s_.2.1 s_.2.2.1 s_.2.2.2.1 s_.2.2.2.2.1 s_.2.2.2.2.2.1 s_.2.2.2.2.2.2.1 s_.2.2.2.2.2.2.2.1 s_.2.2.2.2.2.2.2.2.1 s_.2.2.2.2.2.2.2.2.2.1 s_.2.2.2.2.2.2.2.2.2.2.1 s_.2.2.2.2.2.2.2.2.2.2.2.1 s_.2.2.2.2.2.2.2.2.2.2.2.2 (I.chainIn_run4 x0 n) (fun d => some d) none).symm
noncomputable def I.chainIn_tree {α : Type} (net : List Int) (leaf0_ : Int × Int × Int × Int × Int × Int → α) (fail_ : α) : α :=
  (optC (I.chainIn_run4 net FUEL (0, 0, 0, 0, 0, 0, 0, (↑net.length : Int), (↑net.length : Int), (↑net.length : Int), 0, 0, 0)) (fun qy_3 => (leaf0_ (qy_3.2.2.2.2.2.2.1, qy_3.2.2.2.2.2.2.2.1, qy_3.2.2.2.2.2.2.2.2.1, qy_3.2.2.2.2.2.2.2.2.2.1, qy_3.2.2.2.2.2.2.2.2.2.2.1, qy_3.2.2.2.2.2.2.2.2.2.2.2))) fail_)
theorem I.chainIn_tree_nat {α γ : Type} (g : α → γ) (net : List Int) (leaf0_ : Int × Int × Int × Int × Int × Int → α) (fail_ : α) : g (I.chainIn_tree net leaf0_ fail_) = I.chainIn_tree net (fun d => g (leaf0_ d)) (g fail_) := by
  unfold I.chainIn_tree; simp only [apply_cnd g, apply_optC g, apply_sumC g]
noncomputable def I.chainIn_t (net : List Int) : Option (Int × Int × Int × Int × Int × Int) := I.chainIn_tree net (fun d => some d) none
theorem I.chainIn_den (net : List Int) (κ : V → List E → R) : I.chainIn_F [.ro false (.ints .i64 net)] [] κ = optC (I.chainIn_t net) (fun (r : Int × Int × Int × Int × Int × Int) => κ (.agg [(.int .i64 r.1), (.int .i64 r.2.1), (.int .i64 r.2.2.1), (.int .i64 r.2.2.2.1), (.int .i64 r.2.2.2.2.1), (.int .i64 r.2.2.2.2.2)]) []) none := by
  have hu : I.chainIn_F [.ro false (.ints .i64 net)] [] κ = I.chainIn_tree net (fun d => κ (.agg [(.int .i64 d.1), (.int .i64 d.2.1), (.int .i64 d.2.2.1), (.int .i64 d.2.2.2.1), (.int .i64 d.2.2.2.2.1), (.int .i64 d.2.2.2.2.2)]) []) none := by
    refine Eq.trans (show I.chainIn_F [.ro false (.ints .i64 net)] [] κ = (I.chainIn_L4 FUEL { n := 23, t := [(0, (.ro false (.ints .i64 net))), (2, (.ptr 0 0)), (4, (.ptr 1 0)), (5, (.int .i64 0))], h := [.cells [(.int .i64 0), (.int .i64 0), (.int .i64 0), (.int .i64 0), (.int .i64 0), (.int .i64 0)], .cells [(.int .i64 ((↑net.length : Int))), (.int .i64 ((↑net.length : Int))), (.int .i64 ((↑net.length : Int))), (.int .i64 0), (.int .i64 0), (.int .i64 0)]] } (I.chainIn_k4 κ)) by kernel_rfl) ?_
    refine (I.chainIn_L4_run net FUEL (0, 0, 0, 0, 0, 0, 0, (↑net.length : Int), (↑net.length : Int), (↑net.length : Int), 0, 0, 0) (I.chainIn_k4 κ)).trans (optC_congr (fun qy_3 => ?_))
    kernel_rfl
  rw [hu]
  exact (I.chainIn_tree_nat (fun o => optC o (fun (r : Int × Int × Int × Int × Int × Int) => κ (.agg [(.int .i64 r.1), (.int .i64 r.2.1), (.int .i64 r.2.2.1), (.int .i64 r.2.2.2.1), (.int .i64 r.2.2.2.2.1), (.int .i64 r.2.2.2.2.2)]) []) none) net (fun d => some d) none).symm
noncomputable def I.chainIn_s : D.Spec where
  keep := false
  pure := true
  ds := [.int .i64]
  sp := fun args h κ => match args, h with
    | [.ro false (.ints .i64 net)], [] => optC (I.chainIn_t net) (fun (r : Int × Int × Int × Int × Int × Int) => κ (.agg [(.int .i64 r.1), (.int .i64 r.2.1), (.int .i64 r.2.2.1), (.int .i64 r.2.2.2.1), (.int .i64 r.2.2.2.2.1), (.int .i64 r.2.2.2.2.2)]) []) none
    | _, _ => none
theorem I.chainIn_ok : SpecOk Try.prog 73 I.chainIn_s := by
  refine SpecOk.of TDok mixed (T := I.chainIn_T) ?_ (ann := I.chainIn_ann) Try.func73 rfl (by decide +kernel) ?_ ?_ ?_
  · intro p hp
    simp only [I.chainIn_T, List.mem_cons, List.not_mem_nil, or_false] at hp
    rcases hp with rfl | rfl
    · exact I.allOf_ok
    · exact I.chainWith_ok
  · intro args h κ r hh
    simp only [I.chainIn_s] at hh
    split at hh
    · exact (I.chainIn_den _ κ).trans hh
    · cases hh
  · intro args h κ r hh
    simp only [I.chainIn_s] at hh ⊢
    split at hh
    · exact optC_law2 (F := fun (r : Int × Int × Int × Int × Int × Int) κ => κ (.agg [(.int .i64 r.1), (.int .i64 r.2.1), (.int .i64 r.2.2.1), (.int .i64 r.2.2.2.1), (.int .i64 r.2.2.2.2.1), (.int .i64 r.2.2.2.2.2)]) []) (fun b κ r hb => ⟨_, _, hb, fun _ => rfl⟩) hh
    · cases hh
  · intro _ args h κ r hh
    simp only [I.chainIn_s] at hh
    split at hh
    · exact ⟨rfl, fun _ => rfl⟩
    · cases hh

-- loop.example/guardsonnets/impl.FewestNeeds
noncomputable def I.FewestNeeds_T : List (Nat × D.Spec) := [(22, I.NetOk_s), (73, I.chainIn_s)]
def I.FewestNeeds_ann : Nat → List Nat × List Nat
  | _ => ([], [])
noncomputable def I.FewestNeeds_F (args : List V) (h : List E) (κ : V → List E → R) : R := funC TD (tableK I.FewestNeeds_T) I.FewestNeeds_ann (drawOk (tableP I.FewestNeeds_T)) FUEL Try.f39 args h κ
noncomputable def I.FewestNeeds_tree {α : Type} (net : List Int) (leaf0_ : Int → α) (fail_ : α) : α :=
  (optC (I.NetOk_t net) (fun c_1 => (bif !c_1 then (leaf0_ (-1)) else (optC (I.chainIn_t net) (fun c_2 => (leaf0_ c_2.fst)) fail_))) fail_)
theorem I.FewestNeeds_tree_nat {α γ : Type} (g : α → γ) (net : List Int) (leaf0_ : Int → α) (fail_ : α) : g (I.FewestNeeds_tree net leaf0_ fail_) = I.FewestNeeds_tree net (fun d => g (leaf0_ d)) (g fail_) := by
  unfold I.FewestNeeds_tree; simp only [apply_cnd g, apply_optC g, apply_sumC g]
noncomputable def I.FewestNeeds_t (net : List Int) : Option (Int) := I.FewestNeeds_tree net (fun d => some d) none
theorem I.FewestNeeds_den (net : List Int) (κ : V → List E → R) : I.FewestNeeds_F [.ro false (.ints .i64 net)] [] κ = optC (I.FewestNeeds_t net) (fun (r : Int) => κ (.int .i64 r) []) none := by
  have hu : I.FewestNeeds_F [.ro false (.ints .i64 net)] [] κ = I.FewestNeeds_tree net (fun d => κ (.int .i64 d) []) none := by
    kernel_rfl
  rw [hu]
  exact (I.FewestNeeds_tree_nat (fun o => optC o (fun (r : Int) => κ (.int .i64 r) []) none) net (fun d => some d) none).symm
noncomputable def I.FewestNeeds_s : D.Spec where
  keep := false
  pure := true
  ds := [.int .i64]
  sp := fun args h κ => match args, h with
    | [.ro false (.ints .i64 net)], [] => optC (I.FewestNeeds_t net) (fun (r : Int) => κ (.int .i64 r) []) none
    | _, _ => none
theorem I.FewestNeeds_ok : SpecOk Try.prog 39 I.FewestNeeds_s := by
  refine SpecOk.of TDok mixed (T := I.FewestNeeds_T) ?_ (ann := I.FewestNeeds_ann) Try.func39 rfl (by decide +kernel) ?_ ?_ ?_
  · intro p hp
    simp only [I.FewestNeeds_T, List.mem_cons, List.not_mem_nil, or_false] at hp
    rcases hp with rfl | rfl
    · exact I.NetOk_ok
    · exact I.chainIn_ok
  · intro args h κ r hh
    simp only [I.FewestNeeds_s] at hh
    split at hh
    · exact (I.FewestNeeds_den _ κ).trans hh
    · cases hh
  · intro args h κ r hh
    simp only [I.FewestNeeds_s] at hh ⊢
    split at hh
    · exact optC_law2 (F := fun (r : Int) κ => κ (.int .i64 r) []) (fun b κ r hb => ⟨_, _, hb, fun _ => rfl⟩) hh
    · cases hh
  · intro _ args h κ r hh
    simp only [I.FewestNeeds_s] at hh
    split at hh
    · exact ⟨rfl, fun _ => rfl⟩
    · cases hh

-- loop.example/guardsonnets/spec.l3Private
noncomputable def S.l3Private_T : List (Nat × D.Spec) := [(87, S.l1Near_s)]
def S.l3Private_ann : Nat → List Nat × List Nat
  | _ => ([], [])
noncomputable def S.l3Private_F (args : List V) (h : List E) (κ : V → List E → R) : R := funC TD (tableK S.l3Private_T) S.l3Private_ann (drawOk (tableP S.l3Private_T)) FUEL Try.f90 args h κ
noncomputable def S.l3Private_tree {α : Type} (net : List Int) (set_ : Int) (guard : Int) (leaf0_ : Int → α) (fail_ : α) : α :=
  (bif decide (guard < 0) then fail_ else (bif decide (0 ≤ guard) && decide (guard < (↑net.length : Int)) then (bif decide (guard < 0) then fail_ else (optC (S.l1Near_t net (bits BinOp.andNot IntKind.i64 set_ (IntKind.i64.wrap (1 * 2 ^ min guard.toNat IntKind.i64.bits)))) (fun c_1 => (leaf0_ (bits BinOp.andNot IntKind.i64 (bits BinOp.or IntKind.i64 (eli net guard.toNat) (IntKind.i64.wrap (1 * 2 ^ min guard.toNat IntKind.i64.bits))) (bits BinOp.or IntKind.i64 (bits BinOp.andNot IntKind.i64 set_ (IntKind.i64.wrap (1 * 2 ^ min guard.toNat IntKind.i64.bits))) c_1)))) fail_)) else fail_))
theorem S.l3Private_tree_nat {α γ : Type} (g : α → γ) (net : List Int) (set_ : Int) (guard : Int) (leaf0_ : Int → α) (fail_ : α) : g (S.l3Private_tree net set_ guard leaf0_ fail_) = S.l3Private_tree net set_ guard (fun d => g (leaf0_ d)) (g fail_) := by
  unfold S.l3Private_tree; simp only [apply_cnd g, apply_optC g, apply_sumC g]
noncomputable def S.l3Private_t (net : List Int) (set_ : Int) (guard : Int) : Option (Int) := S.l3Private_tree net set_ guard (fun d => some d) none
theorem S.l3Private_den (net : List Int) (set_ : Int) (guard : Int) (κ : V → List E → R) : S.l3Private_F [.ro false (.ints .i64 net), .int .i64 set_, .int .i64 guard] [] κ = optC (S.l3Private_t net set_ guard) (fun (r : Int) => κ (.int .i64 r) []) none := by
  have hu : S.l3Private_F [.ro false (.ints .i64 net), .int .i64 set_, .int .i64 guard] [] κ = S.l3Private_tree net set_ guard (fun d => κ (.int .i64 d) []) none := by
    kernel_rfl
  rw [hu]
  exact (S.l3Private_tree_nat (fun o => optC o (fun (r : Int) => κ (.int .i64 r) []) none) net set_ guard (fun d => some d) none).symm
noncomputable def S.l3Private_s : D.Spec where
  keep := false
  pure := true
  ds := [.int .i64, .invalid, .invalid]
  sp := fun args h κ => match args, h with
    | [.ro false (.ints .i64 net), .int .i64 set_, .int .i64 guard], [] => optC (S.l3Private_t net set_ guard) (fun (r : Int) => κ (.int .i64 r) []) none
    | _, _ => none
theorem S.l3Private_ok : SpecOk Try.prog 90 S.l3Private_s := by
  refine SpecOk.of TDok mixed (T := S.l3Private_T) ?_ (ann := S.l3Private_ann) Try.func90 rfl (by decide +kernel) ?_ ?_ ?_
  · intro p hp
    simp only [S.l3Private_T, List.mem_cons, List.not_mem_nil, or_false] at hp
    rcases hp with rfl
    · exact S.l1Near_ok
  · intro args h κ r hh
    simp only [S.l3Private_s] at hh
    split at hh
    · exact (S.l3Private_den _ _ _ κ).trans hh
    · cases hh
  · intro args h κ r hh
    simp only [S.l3Private_s] at hh ⊢
    split at hh
    · exact optC_law2 (F := fun (r : Int) κ => κ (.int .i64 r) []) (fun b κ r hb => ⟨_, _, hb, fun _ => rfl⟩) hh
    · cases hh
  · intro _ args h κ r hh
    simp only [S.l3Private_s] at hh
    split at hh
    · exact ⟨rfl, fun _ => rfl⟩
    · cases hh

-- loop.example/guardsonnets/spec.l3Needs
noncomputable def S.l3Needs_T : List (Nat × D.Spec) := [(90, S.l3Private_s)]
def S.l3Needs_ann : Nat → List Nat × List Nat
  | 2 => ([0, 1, 5], [4])
  | _ => ([], [])
noncomputable def S.l3Needs_F (args : List V) (h : List E) (κ : V → List E → R) : R := funC TD (tableK S.l3Needs_T) S.l3Needs_ann (drawOk (tableP S.l3Needs_T)) FUEL Try.f75 args h κ
noncomputable def S.l3Needs_L2 (n : Nat) (σ : St) (k : X → St → R) : R := iterC 0 (fun σ k => denC TD (tableK S.l3Needs_T) S.l3Needs_ann (drawOk (tableP S.l3Needs_T)) 0 FUEL ((findLoop 2 (Try.f75.body.getD .skip)).getD .skip) σ k) [0, 1, 5] [4] n σ k
noncomputable def S.l3Needs_k2 (κ : V → List E → R) : X → St → R := (afterC TD (tableK S.l3Needs_T) S.l3Needs_ann (drawOk (tableP S.l3Needs_T)) 0 FUEL 2 (Try.f75.body.getD .skip) (finC TD 0 Try.f75 κ)).getD (fun _ _ => none)
noncomputable def S.l3Needs_step2 {α : Type} (x0 : List Int) (x1 : Int) (x5 : Int) (next_ : Int → α) (out0_ : Bool → α) (out1_ : Unit → α) (fail_ : α) : α :=
  (bif decide (x5 < (↑x0.length : Int)) then (bif decide (x5 < 0) then fail_ else (bif (x1.fdiv (2 ^ min x5.toNat IntKind.i64.bits)).tmod 2 == 1 then (optC (S.l3Private_t x0 x1 x5) (fun c_1 => (bif c_1 == 0 then (out0_ false) else (next_ (IntKind.i64.wrap (x5 + 1))))) fail_) else (next_ (IntKind.i64.wrap (x5 + 1))))) else (out1_ ()))
theorem S.l3Needs_step2_nat {α γ : Type} (g : α → γ) (x0 : List Int) (x1 : Int) (x5 : Int) (next_ : Int → α) (out0_ : Bool → α) (out1_ : Unit → α) (fail_ : α) : g (S.l3Needs_step2 x0 x1 x5 next_ out0_ out1_ fail_) = S.l3Needs_step2 x0 x1 x5 (fun s => g (next_ s)) (fun d => g (out0_ d)) (fun d => g (out1_ d)) (g fail_) := by
  unfold S.l3Needs_step2; simp only [apply_cnd g, apply_optC g, apply_sumC g]
noncomputable def S.l3Needs_run2 (x0 : List Int) (x1 : Int) : Nat → Int → Option ((Bool) ⊕ (Unit))
  | 0, _ => none
  | n + 1, s_ => S.l3Needs_step2 x0 x1 s_ (S.l3Needs_run2 x0 x1 n) (fun d => some ((Sum.inl d))) (fun d => some ((Sum.inr d))) none
theorem S.l3Needs_L2_run (x0 : List Int) (x1 : Int) (n : Nat) (s_ : Int) (k : X → St → R) : S.l3Needs_L2 n { n := 24, t := [(0, (.ro false (.ints .i64 x0))), (1, (.int .i64 x1)), (5, (.int .i64 s_))], h := [] } k = optC (S.l3Needs_run2 x0 x1 n s_) (fun (r : (Bool) ⊕ (Unit)) => (sumC r (fun (r : Bool) => k (.ret) { n := 24, t := [(4, (.bool r))], h := [] }) (fun (r : Unit) => k (.exit 0) { n := 24, t := [(4, .junk)], h := [] }))) none := by
  induction n generalizing s_ with
  | zero => rfl
  | succ n ih =>
    have hu : S.l3Needs_L2 (n + 1) { n := 24, t := [(0, (.ro false (.ints .i64 x0))), (1, (.int .i64 x1)), (5, (.int .i64 s_))], h := [] } k = S.l3Needs_step2 x0 x1 s_ (fun s_ => S.l3Needs_L2 n { n := 24, t := [(0, (.ro false (.ints .i64 x0))), (1, (.int .i64 x1)), (5, (.int .i64 s_))], h := [] } k) (fun d => k (.ret) { n := 24, t := [(4, (.bool d))], h := [] }) (fun d => k (.exit 0) { n := 24, t := [(4, .junk)], h := [] }) none := by
      kernel_rfl
    have hs : (fun s_ : Int => S.l3Needs_L2 n { n := 24, t := [(0, (.ro false (.ints .i64 x0))), (1, (.int .i64 x1)), (5, (.int .i64 s_))], h := [] } k) = fun s_ => optC (S.l3Needs_run2 x0 x1 n s_) (fun (r : (Bool) ⊕ (Unit)) => (sumC r (fun (r : Bool) => k (.ret) { n := 24, t := [(4, (.bool r))], h := [] }) (fun (r : Unit) => k (.exit 0) { n := 24, t := [(4, .junk)], h := [] }))) none := funext ih
    rw [hu, hs]
    exact (S.l3Needs_step2_nat (fun o => optC o (fun (r : (Bool) ⊕ (Unit)) => (sumC r (fun (r : Bool) => k (.ret) { n := 24, t := [(4, (.bool r))], h := [] }) (fun (r : Unit) => k (.exit 0) { n := 24, t := [(4, .junk)], h := [] }))) none) x0 x1 s_ (S.l3Needs_run2 x0 x1 n) (fun d => some ((Sum.inl d))) (fun d => some ((Sum.inr d))) none).symm
noncomputable def S.l3Needs_tree {α : Type} (net : List Int) (set_ : Int) (leaf0_ : Bool → α) (fail_ : α) : α :=
  (optC (S.l3Needs_run2 net set_ FUEL 0) (fun qy_2 => (sumC qy_2 (fun (qy_2 : Bool) => (leaf0_ qy_2)) (fun (qy_2 : Unit) => (leaf0_ true)))) fail_)
theorem S.l3Needs_tree_nat {α γ : Type} (g : α → γ) (net : List Int) (set_ : Int) (leaf0_ : Bool → α) (fail_ : α) : g (S.l3Needs_tree net set_ leaf0_ fail_) = S.l3Needs_tree net set_ (fun d => g (leaf0_ d)) (g fail_) := by
  unfold S.l3Needs_tree; simp only [apply_cnd g, apply_optC g, apply_sumC g]
noncomputable def S.l3Needs_t (net : List Int) (set_ : Int) : Option (Bool) := S.l3Needs_tree net set_ (fun d => some d) none
theorem S.l3Needs_den (net : List Int) (set_ : Int) (κ : V → List E → R) : S.l3Needs_F [.ro false (.ints .i64 net), .int .i64 set_] [] κ = optC (S.l3Needs_t net set_) (fun (r : Bool) => κ (.bool r) []) none := by
  have hu : S.l3Needs_F [.ro false (.ints .i64 net), .int .i64 set_] [] κ = S.l3Needs_tree net set_ (fun d => κ (.bool d) []) none := by
    refine Eq.trans (show S.l3Needs_F [.ro false (.ints .i64 net), .int .i64 set_] [] κ = (S.l3Needs_L2 FUEL { n := 24, t := [(0, (.ro false (.ints .i64 net))), (1, (.int .i64 set_)), (5, (.int .i64 0))], h := [] } (S.l3Needs_k2 κ)) by kernel_rfl) ?_
    refine (S.l3Needs_L2_run net set_ FUEL 0 (S.l3Needs_k2 κ)).trans (optC_congr (fun qy_2 => ?_))
    rcases qy_2 with qy_2 | qy_2
    · kernel_rfl
    · kernel_rfl
  rw [hu]
  exact (S.l3Needs_tree_nat (fun o => optC o (fun (r : Bool) => κ (.bool r) []) none) net set_ (fun d => some d) none).symm
noncomputable def S.l3Needs_s : D.Spec where
  keep := false
  pure := true
  ds := [.int .i64, .invalid]
  sp := fun args h κ => match args, h with
    | [.ro false (.ints .i64 net), .int .i64 set_], [] => optC (S.l3Needs_t net set_) (fun (r : Bool) => κ (.bool r) []) none
    | _, _ => none
theorem S.l3Needs_ok : SpecOk Try.prog 75 S.l3Needs_s := by
  refine SpecOk.of TDok mixed (T := S.l3Needs_T) ?_ (ann := S.l3Needs_ann) Try.func75 rfl (by decide +kernel) ?_ ?_ ?_
  · intro p hp
    simp only [S.l3Needs_T, List.mem_cons, List.not_mem_nil, or_false] at hp
    rcases hp with rfl
    · exact S.l3Private_ok
  · intro args h κ r hh
    simp only [S.l3Needs_s] at hh
    split at hh
    · exact (S.l3Needs_den _ _ κ).trans hh
    · cases hh
  · intro args h κ r hh
    simp only [S.l3Needs_s] at hh ⊢
    split at hh
    · exact optC_law2 (F := fun (r : Bool) κ => κ (.bool r) []) (fun b κ r hb => ⟨_, _, hb, fun _ => rfl⟩) hh
    · cases hh
  · intro _ args h κ r hh
    simp only [S.l3Needs_s] at hh
    split at hh
    · exact ⟨rfl, fun _ => rfl⟩
    · cases hh

-- loop.example/guardsonnets/spec.l3Full
noncomputable def S.l3Full_T : List (Nat × D.Spec) := [(75, S.l3Needs_s)]
def S.l3Full_ann : Nat → List Nat × List Nat
  | 2 => ([0, 1, 5], [0, 1, 4])
  | _ => ([], [])
noncomputable def S.l3Full_F (args : List V) (h : List E) (κ : V → List E → R) : R := funC TD (tableK S.l3Full_T) S.l3Full_ann (drawOk (tableP S.l3Full_T)) FUEL Try.f74 args h κ
noncomputable def S.l3Full_L2 (n : Nat) (σ : St) (k : X → St → R) : R := iterC 0 (fun σ k => denC TD (tableK S.l3Full_T) S.l3Full_ann (drawOk (tableP S.l3Full_T)) 0 FUEL ((findLoop 2 (Try.f74.body.getD .skip)).getD .skip) σ k) [0, 1, 5] [0, 1, 4] n σ k
noncomputable def S.l3Full_k2 (κ : V → List E → R) : X → St → R := (afterC TD (tableK S.l3Full_T) S.l3Full_ann (drawOk (tableP S.l3Full_T)) 0 FUEL 2 (Try.f74.body.getD .skip) (finC TD 0 Try.f74 κ)).getD (fun _ _ => none)
noncomputable def S.l3Full_step2 {α : Type} (x0 : List Int) (x1 : Int) (x5 : Int) (next_ : Int → α) (out0_ : Bool → α) (out1_ : Unit → α) (fail_ : α) : α :=
  (bif decide (x5 < (↑x0.length : Int)) then (bif decide (x5 < 0) then fail_ else (bif (x1.fdiv (2 ^ min x5.toNat IntKind.i64.bits)).tmod 2 == 0 then (bif decide (x5 < 0) then fail_ else (optC (S.l3Needs_t x0 (bits BinOp.or IntKind.i64 x1 (IntKind.i64.wrap (1 * 2 ^ min x5.toNat IntKind.i64.bits)))) (fun c_1 => (bif c_1 then (out0_ false) else (next_ (IntKind.i64.wrap (x5 + 1))))) fail_)) else (next_ (IntKind.i64.wrap (x5 + 1))))) else (out1_ ()))
theorem S.l3Full_step2_nat {α γ : Type} (g : α → γ) (x0 : List Int) (x1 : Int) (x5 : Int) (next_ : Int → α) (out0_ : Bool → α) (out1_ : Unit → α) (fail_ : α) : g (S.l3Full_step2 x0 x1 x5 next_ out0_ out1_ fail_) = S.l3Full_step2 x0 x1 x5 (fun s => g (next_ s)) (fun d => g (out0_ d)) (fun d => g (out1_ d)) (g fail_) := by
  unfold S.l3Full_step2; simp only [apply_cnd g, apply_optC g, apply_sumC g]
noncomputable def S.l3Full_run2 (x0 : List Int) (x1 : Int) : Nat → Int → Option ((Bool) ⊕ (Unit))
  | 0, _ => none
  | n + 1, s_ => S.l3Full_step2 x0 x1 s_ (S.l3Full_run2 x0 x1 n) (fun d => some ((Sum.inl d))) (fun d => some ((Sum.inr d))) none
theorem S.l3Full_L2_run (x0 : List Int) (x1 : Int) (n : Nat) (s_ : Int) (k : X → St → R) : S.l3Full_L2 n { n := 28, t := [(0, (.ro false (.ints .i64 x0))), (1, (.int .i64 x1)), (5, (.int .i64 s_))], h := [] } k = optC (S.l3Full_run2 x0 x1 n s_) (fun (r : (Bool) ⊕ (Unit)) => (sumC r (fun (r : Bool) => k (.ret) { n := 28, t := [(0, (.ro false (.ints .i64 x0))), (1, (.int .i64 x1)), (4, (.bool r))], h := [] }) (fun (r : Unit) => k (.exit 0) { n := 28, t := [(0, (.ro false (.ints .i64 x0))), (1, (.int .i64 x1)), (4, .junk)], h := [] }))) none := by
  induction n generalizing s_ with
  | zero => rfl
  | succ n ih =>
    have hu : S.l3Full_L2 (n + 1) { n := 28, t := [(0, (.ro false (.ints .i64 x0))), (1, (.int .i64 x1)), (5, (.int .i64 s_))], h := [] } k = S.l3Full_step2 x0 x1 s_ (fun s_ => S.l3Full_L2 n { n := 28, t := [(0, (.ro false (.ints .i64 x0))), (1, (.int .i64 x1)), (5, (.int .i64 s_))], h := [] } k) (fun d => k (.ret) { n := 28, t := [(0, (.ro false (.ints .i64 x0))), (1, (.int .i64 x1)), (4, (.bool d))], h := [] }) (fun d => k (.exit 0) { n := 28, t := [(0, (.ro false (.ints .i64 x0))), (1, (.int .i64 x1)), (4, .junk)], h := [] }) none := by
      kernel_rfl
    have hs : (fun s_ : Int => S.l3Full_L2 n { n := 28, t := [(0, (.ro false (.ints .i64 x0))), (1, (.int .i64 x1)), (5, (.int .i64 s_))], h := [] } k) = fun s_ => optC (S.l3Full_run2 x0 x1 n s_) (fun (r : (Bool) ⊕ (Unit)) => (sumC r (fun (r : Bool) => k (.ret) { n := 28, t := [(0, (.ro false (.ints .i64 x0))), (1, (.int .i64 x1)), (4, (.bool r))], h := [] }) (fun (r : Unit) => k (.exit 0) { n := 28, t := [(0, (.ro false (.ints .i64 x0))), (1, (.int .i64 x1)), (4, .junk)], h := [] }))) none := funext ih
    rw [hu, hs]
    exact (S.l3Full_step2_nat (fun o => optC o (fun (r : (Bool) ⊕ (Unit)) => (sumC r (fun (r : Bool) => k (.ret) { n := 28, t := [(0, (.ro false (.ints .i64 x0))), (1, (.int .i64 x1)), (4, (.bool r))], h := [] }) (fun (r : Unit) => k (.exit 0) { n := 28, t := [(0, (.ro false (.ints .i64 x0))), (1, (.int .i64 x1)), (4, .junk)], h := [] }))) none) x0 x1 s_ (S.l3Full_run2 x0 x1 n) (fun d => some ((Sum.inl d))) (fun d => some ((Sum.inr d))) none).symm
noncomputable def S.l3Full_tree {α : Type} (net : List Int) (set_ : Int) (leaf0_ : Bool → α) (fail_ : α) : α :=
  (optC (S.l3Full_run2 net set_ FUEL 0) (fun qy_2 => (sumC qy_2 (fun (qy_2 : Bool) => (leaf0_ qy_2)) (fun (qy_2 : Unit) => (optC (S.l3Needs_t net set_) (fun c_3 => (leaf0_ c_3)) fail_)))) fail_)
theorem S.l3Full_tree_nat {α γ : Type} (g : α → γ) (net : List Int) (set_ : Int) (leaf0_ : Bool → α) (fail_ : α) : g (S.l3Full_tree net set_ leaf0_ fail_) = S.l3Full_tree net set_ (fun d => g (leaf0_ d)) (g fail_) := by
  unfold S.l3Full_tree; simp only [apply_cnd g, apply_optC g, apply_sumC g]
noncomputable def S.l3Full_t (net : List Int) (set_ : Int) : Option (Bool) := S.l3Full_tree net set_ (fun d => some d) none
theorem S.l3Full_den (net : List Int) (set_ : Int) (κ : V → List E → R) : S.l3Full_F [.ro false (.ints .i64 net), .int .i64 set_] [] κ = optC (S.l3Full_t net set_) (fun (r : Bool) => κ (.bool r) []) none := by
  have hu : S.l3Full_F [.ro false (.ints .i64 net), .int .i64 set_] [] κ = S.l3Full_tree net set_ (fun d => κ (.bool d) []) none := by
    refine Eq.trans (show S.l3Full_F [.ro false (.ints .i64 net), .int .i64 set_] [] κ = (S.l3Full_L2 FUEL { n := 28, t := [(0, (.ro false (.ints .i64 net))), (1, (.int .i64 set_)), (5, (.int .i64 0))], h := [] } (S.l3Full_k2 κ)) by kernel_rfl) ?_
    refine (S.l3Full_L2_run net set_ FUEL 0 (S.l3Full_k2 κ)).trans (optC_congr (fun qy_2 => ?_))
    rcases qy_2 with qy_2 | qy_2
    · kernel_rfl
    · kernel_rfl
  rw [hu]
  exact (S.l3Full_tree_nat (fun o => optC o (fun (r : Bool) => κ (.bool r) []) none) net set_ (fun d => some d) none).symm
noncomputable def S.l3Full_s : D.Spec where
  keep := false
  pure := true
  ds := [.int .i64, .invalid]
  sp := fun args h κ => match args, h with
    | [.ro false (.ints .i64 net), .int .i64 set_], [] => optC (S.l3Full_t net set_) (fun (r : Bool) => κ (.bool r) []) none
    | _, _ => none
theorem S.l3Full_ok : SpecOk Try.prog 74 S.l3Full_s := by
  refine SpecOk.of TDok mixed (T := S.l3Full_T) ?_ (ann := S.l3Full_ann) Try.func74 rfl (by decide +kernel) ?_ ?_ ?_
  · intro p hp
    simp only [S.l3Full_T, List.mem_cons, List.not_mem_nil, or_false] at hp
    rcases hp with rfl
    · exact S.l3Needs_ok
  · intro args h κ r hh
    simp only [S.l3Full_s] at hh
    split at hh
    · exact (S.l3Full_den _ _ κ).trans hh
    · cases hh
  · intro args h κ r hh
    simp only [S.l3Full_s] at hh ⊢
    split at hh
    · exact optC_law2 (F := fun (r : Bool) κ => κ (.bool r) []) (fun b κ r hb => ⟨_, _, hb, fun _ => rfl⟩) hh
    · cases hh
  · intro _ args h κ r hh
    simp only [S.l3Full_s] at hh
    split at hh
    · exact ⟨rfl, fun _ => rfl⟩
    · cases hh

-- loop.example/guardsonnets/spec.FewestNeeds
noncomputable def S.FewestNeeds_T : List (Nat × D.Spec) := [(58, S.NetOk_s), (74, S.l3Full_s), (65, S.l1Size_s)]
def S.FewestNeeds_ann : Nat → List Nat × List Nat
  | 5 => ([0, 3, 4], [3])
  | _ => ([], [])
noncomputable def S.FewestNeeds_F (args : List V) (h : List E) (κ : V → List E → R) : R := funC TD (tableK S.FewestNeeds_T) S.FewestNeeds_ann (drawOk (tableP S.FewestNeeds_T)) FUEL Try.f40 args h κ
noncomputable def S.FewestNeeds_L5 (n : Nat) (σ : St) (k : X → St → R) : R := iterC 0 (fun σ k => denC TD (tableK S.FewestNeeds_T) S.FewestNeeds_ann (drawOk (tableP S.FewestNeeds_T)) 0 FUEL ((findLoop 5 (Try.f40.body.getD .skip)).getD .skip) σ k) [0, 3, 4] [3] n σ k
noncomputable def S.FewestNeeds_k5 (κ : V → List E → R) : X → St → R := (afterC TD (tableK S.FewestNeeds_T) S.FewestNeeds_ann (drawOk (tableP S.FewestNeeds_T)) 0 FUEL 5 (Try.f40.body.getD .skip) (finC TD 0 Try.f40 κ)).getD (fun _ _ => none)
noncomputable def S.FewestNeeds_step5 {α : Type} (x0 : List Int) (x3 : Int) (x4 : Int) (next_ : Int × Int → α) (out0_ : Int → α) (fail_ : α) : α :=
  (bif decide (x4 < IntKind.i64.wrap (1 * 2 ^ min (↑x0.length : Int).toNat IntKind.i64.bits)) then (optC (S.l3Full_t x0 x4) (fun c_2 => (bif c_2 then (optC (S.l1Size_t x4) (fun c_3 => (next_ (if c_3 < x3 then c_3 else x3, IntKind.i64.wrap (x4 + 1)))) fail_) else (next_ (x3, IntKind.i64.wrap (x4 + 1))))) fail_) else (out0_ x3))
theorem S.FewestNeeds_step5_nat {α γ : Type} (g : α → γ) (x0 : List Int) (x3 : Int) (x4 : Int) (next_ : Int × Int → α) (out0_ : Int → α) (fail_ : α) : g (S.FewestNeeds_step5 x0 x3 x4 next_ out0_ fail_) = S.FewestNeeds_step5 x0 x3 x4 (fun s => g (next_ s)) (fun d => g (out0_ d)) (g fail_) := by
  unfold S.FewestNeeds_step5; simp only [apply_cnd g, apply_optC g, apply_sumC g]
noncomputable def S.FewestNeeds_run5 (x0 : List Int) : Nat → Int × Int → Option (Int)
  | 0, _ => none
  | n + 1, s_ => S.FewestNeeds_step5 x0 s_.1 s_.2 (S.FewestNeeds_run5 x0 n) (fun d => some d) none
theorem S.FewestNeeds_L5_run (x0 : List Int) (n : Nat) (s_ : Int × Int) (k : X → St → R) : S.FewestNeeds_L5 n { n := 25, t := [(0, (.ro false (.ints .i64 x0))), (3, (.int .i64 s_.1)), (4, (.int .i64 s_.2))], h := [] } k = optC (S.FewestNeeds_run5 x0 n s_) (fun (r : Int) => k (.exit 0) { n := 25, t := [(3, (.int .i64 r))], h := [] }) none := by
  induction n generalizing s_ with
  | zero => rfl
  | succ n ih =>
    have hu : S.FewestNeeds_L5 (n + 1) { n := 25, t := [(0, (.ro false (.ints .i64 x0))), (3, (.int .i64 s_.1)), (4, (.int .i64 s_.2))], h := [] } k = S.FewestNeeds_step5 x0 s_.1 s_.2 (fun s_ => S.FewestNeeds_L5 n { n := 25, t := [(0, (.ro false (.ints .i64 x0))), (3, (.int .i64 s_.1)), (4, (.int .i64 s_.2))], h := [] } k) (fun d => k (.exit 0) { n := 25, t := [(3, (.int .i64 d))], h := [] }) none := by
      kernel_rfl
    have hs : (fun s_ : Int × Int => S.FewestNeeds_L5 n { n := 25, t := [(0, (.ro false (.ints .i64 x0))), (3, (.int .i64 s_.1)), (4, (.int .i64 s_.2))], h := [] } k) = fun s_ => optC (S.FewestNeeds_run5 x0 n s_) (fun (r : Int) => k (.exit 0) { n := 25, t := [(3, (.int .i64 r))], h := [] }) none := funext ih
    rw [hu, hs]
    exact (S.FewestNeeds_step5_nat (fun o => optC o (fun (r : Int) => k (.exit 0) { n := 25, t := [(3, (.int .i64 r))], h := [] }) none) x0 s_.1 s_.2 (S.FewestNeeds_run5 x0 n) (fun d => some d) none).symm
noncomputable def S.FewestNeeds_tree {α : Type} (net : List Int) (leaf0_ : Int → α) (fail_ : α) : α :=
  (optC (S.NetOk_t net) (fun c_1 => (bif !c_1 then (leaf0_ (-1)) else (optC (S.FewestNeeds_run5 net FUEL ((↑net.length : Int), 0)) (fun qy_4 => (leaf0_ qy_4)) fail_))) fail_)
theorem S.FewestNeeds_tree_nat {α γ : Type} (g : α → γ) (net : List Int) (leaf0_ : Int → α) (fail_ : α) : g (S.FewestNeeds_tree net leaf0_ fail_) = S.FewestNeeds_tree net (fun d => g (leaf0_ d)) (g fail_) := by
  unfold S.FewestNeeds_tree; simp only [apply_cnd g, apply_optC g, apply_sumC g]
noncomputable def S.FewestNeeds_t (net : List Int) : Option (Int) := S.FewestNeeds_tree net (fun d => some d) none
theorem S.FewestNeeds_den (net : List Int) (κ : V → List E → R) : S.FewestNeeds_F [.ro false (.ints .i64 net)] [] κ = optC (S.FewestNeeds_t net) (fun (r : Int) => κ (.int .i64 r) []) none := by
  have hu : S.FewestNeeds_F [.ro false (.ints .i64 net)] [] κ = S.FewestNeeds_tree net (fun d => κ (.int .i64 d) []) none := by
    refine Eq.trans (show S.FewestNeeds_F [.ro false (.ints .i64 net)] [] κ = (optC (S.NetOk_t net) (fun c_1 => (bif !c_1 then (κ (.int .i64 (-1)) []) else (S.FewestNeeds_L5 FUEL { n := 25, t := [(0, (.ro false (.ints .i64 net))), (3, (.int .i64 ((↑net.length : Int)))), (4, (.int .i64 0))], h := [] } (S.FewestNeeds_k5 κ)))) none) by kernel_rfl) ?_
    refine optC_congr (fun c_1 => ?_)
    refine cnd_congr ?_ ?_
    · kernel_rfl
    · refine (S.FewestNeeds_L5_run net FUEL ((↑net.length : Int), 0) (S.FewestNeeds_k5 κ)).trans (optC_congr (fun qy_4 => ?_))
      kernel_rfl
  rw [hu]
  exact (S.FewestNeeds_tree_nat (fun o => optC o (fun (r : Int) => κ (.int .i64 r) []) none) net (fun d => some d) none).symm
noncomputable def S.FewestNeeds_s : D.Spec where
  keep := false
  pure := true
  ds := [.int .i64]
  sp := fun args h κ => match args, h with
    | [.ro false (.ints .i64 net)], [] => optC (S.FewestNeeds_t net) (fun (r : Int) => κ (.int .i64 r) []) none
    | _, _ => none
theorem S.FewestNeeds_ok : SpecOk Try.prog 40 S.FewestNeeds_s := by
  refine SpecOk.of TDok mixed (T := S.FewestNeeds_T) ?_ (ann := S.FewestNeeds_ann) Try.func40 rfl (by decide +kernel) ?_ ?_ ?_
  · intro p hp
    simp only [S.FewestNeeds_T, List.mem_cons, List.not_mem_nil, or_false] at hp
    rcases hp with rfl | rfl | rfl
    · exact S.NetOk_ok
    · exact S.l3Full_ok
    · exact S.l1Size_ok
  · intro args h κ r hh
    simp only [S.FewestNeeds_s] at hh
    split at hh
    · exact (S.FewestNeeds_den _ κ).trans hh
    · cases hh
  · intro args h κ r hh
    simp only [S.FewestNeeds_s] at hh ⊢
    split at hh
    · exact optC_law2 (F := fun (r : Int) κ => κ (.int .i64 r) []) (fun b κ r hb => ⟨_, _, hb, fun _ => rfl⟩) hh
    · cases hh
  · intro _ args h κ r hh
    simp only [S.FewestNeeds_s] at hh
    split at hh
    · exact ⟨rfl, fun _ => rfl⟩
    · cases hh

-- loop.example/guardsonnets/laws.FnFewestNeeds
noncomputable def L.FnFewestNeeds_T : List (Nat × D.Spec) := [(38, S.DrawFewestNeeds_s), (39, I.FewestNeeds_s), (40, S.FewestNeeds_s), (22, I.NetOk_s), (23, L.alive_s), (24, I.FewestWatch_s)]
def L.FnFewestNeeds_ann : Nat → List Nat × List Nat
  | _ => ([], [])
noncomputable def L.FnFewestNeeds_F (args : List V) (h : List E) (κ : V → List E → R) : R := funC TD (tableK L.FnFewestNeeds_T) L.FnFewestNeeds_ann (drawOk (tableP L.FnFewestNeeds_T)) FUEL Try.f9 args h κ
noncomputable def L.FnFewestNeeds_tree {α : Type} (code : List Int) (leaf0_ : Bool → α) (fail_ : α) : α :=
  (bif decide ((↑code.length : Int) > 1048576) then (leaf0_ true) else (optC (S.DrawFewestNeeds_t code) (fun c_1 => (optC (I.FewestNeeds_t c_1) (fun c_2 => (optC (S.FewestNeeds_t c_1) (fun c_3 => (bif !c_2 == c_3 then (leaf0_ false) else (bif decide (c_2 < 0) then (bif c_2 == -1 then (optC (I.NetOk_t c_1) (fun c_4 => (bif !c_4 then (optC (L.alive_t) (fun c_5 => (leaf0_ c_5)) fail_) else (leaf0_ false))) fail_) else (leaf0_ false)) else (optC (I.FewestWatch_t c_1) (fun c_6 => (bif decide (c_2 ≥ 1) then (bif decide (c_2 ≤ c_6) then (leaf0_ (decide (c_6 < IntKind.i64.wrap (2 * c_2)))) else (leaf0_ false)) else (leaf0_ false))) fail_)))) fail_)) fail_)) fail_))
theorem L.FnFewestNeeds_tree_nat {α γ : Type} (g : α → γ) (code : List Int) (leaf0_ : Bool → α) (fail_ : α) : g (L.FnFewestNeeds_tree code leaf0_ fail_) = L.FnFewestNeeds_tree code (fun d => g (leaf0_ d)) (g fail_) := by
  unfold L.FnFewestNeeds_tree; simp only [apply_cnd g, apply_optC g, apply_sumC g]
noncomputable def L.FnFewestNeeds_t (code : List Int) : Option (Bool) := L.FnFewestNeeds_tree code (fun d => some d) none
theorem L.FnFewestNeeds_den (code : List Int) (κ : V → List E → R) : L.FnFewestNeeds_F [.ro true (.ints .u8 code)] [] κ = optC (L.FnFewestNeeds_t code) (fun (r : Bool) => κ (.bool r) []) none := by
  have hu : L.FnFewestNeeds_F [.ro true (.ints .u8 code)] [] κ = L.FnFewestNeeds_tree code (fun d => κ (.bool d) []) none := by
    kernel_rfl
  rw [hu]
  exact (L.FnFewestNeeds_tree_nat (fun o => optC o (fun (r : Bool) => κ (.bool r) []) none) code (fun d => some d) none).symm
noncomputable def L.FnFewestNeeds_s : D.Spec where
  keep := true
  pure := true
  ds := [.int .u8]
  sp := fun args h κ => match args, h with
    | [.ro true (.ints .u8 code)], [] => optC (L.FnFewestNeeds_t code) (fun (r : Bool) => κ (.bool r) []) none
    | _, _ => none
theorem L.FnFewestNeeds_ok : SpecOk Try.prog 9 L.FnFewestNeeds_s := by
  refine SpecOk.of TDok mixed (T := L.FnFewestNeeds_T) ?_ (ann := L.FnFewestNeeds_ann) Try.func9 rfl (by decide +kernel) ?_ ?_ ?_
  · intro p hp
    simp only [L.FnFewestNeeds_T, List.mem_cons, List.not_mem_nil, or_false] at hp
    rcases hp with rfl | rfl | rfl | rfl | rfl | rfl
    · exact S.DrawFewestNeeds_ok
    · exact I.FewestNeeds_ok
    · exact S.FewestNeeds_ok
    · exact I.NetOk_ok
    · exact L.alive_ok
    · exact I.FewestWatch_ok
  · intro args h κ r hh
    simp only [L.FnFewestNeeds_s] at hh
    split at hh
    · exact (L.FnFewestNeeds_den _ κ).trans hh
    · cases hh
  · intro args h κ r hh
    simp only [L.FnFewestNeeds_s] at hh ⊢
    split at hh
    · exact optC_law2 (F := fun (r : Bool) κ => κ (.bool r) []) (fun b κ r hb => ⟨_, _, hb, fun _ => rfl⟩) hh
    · cases hh
  · intro _ args h κ r hh
    simp only [L.FnFewestNeeds_s] at hh
    split at hh
    · exact ⟨rfl, fun _ => rfl⟩
    · cases hh

-- loop.example/guardsonnets/laws.FnExactFewestNeeds
noncomputable def L.FnExactFewestNeeds_T : List (Nat × D.Spec) := [(26, L.toIntS_s), (40, S.FewestNeeds_s), (39, I.FewestNeeds_s), (27, L.eqIntS_s)]
def L.FnExactFewestNeeds_ann : Nat → List Nat × List Nat
  | _ => ([], [])
noncomputable def L.FnExactFewestNeeds_F (args : List V) (h : List E) (κ : V → List E → R) : R := funC TD (tableK L.FnExactFewestNeeds_T) L.FnExactFewestNeeds_ann (drawOk (tableP L.FnExactFewestNeeds_T)) FUEL Try.f10 args h κ
noncomputable def L.FnExactFewestNeeds_tree {α : Type} (aNet : List Int) (leaf0_ : Bool → α) (fail_ : α) : α :=
  (bif decide ((↑aNet.length : Int) > 1048576) then (leaf0_ true) else (optC (L.toIntS_t aNet) (fun c_1 => (optC (S.FewestNeeds_t c_1) (fun c_2 => (optC (L.toIntS_t aNet) (fun c_3 => (optC (I.FewestNeeds_t c_3) (fun c_4 => (bif !c_4 == c_2 then (leaf0_ false) else (optC (L.toIntS_t aNet) (fun c_5 => (optC (L.eqIntS_t c_3 c_5) (fun c_6 => (bif !c_6 then (leaf0_ false) else (leaf0_ true))) fail_)) fail_))) fail_)) fail_)) fail_)) fail_))
theorem L.FnExactFewestNeeds_tree_nat {α γ : Type} (g : α → γ) (aNet : List Int) (leaf0_ : Bool → α) (fail_ : α) : g (L.FnExactFewestNeeds_tree aNet leaf0_ fail_) = L.FnExactFewestNeeds_tree aNet (fun d => g (leaf0_ d)) (g fail_) := by
  unfold L.FnExactFewestNeeds_tree; simp only [apply_cnd g, apply_optC g, apply_sumC g]
noncomputable def L.FnExactFewestNeeds_t (aNet : List Int) : Option (Bool) := L.FnExactFewestNeeds_tree aNet (fun d => some d) none
theorem L.FnExactFewestNeeds_den (aNet : List Int) (κ : V → List E → R) : L.FnExactFewestNeeds_F [.ro true (.ints .i64 aNet)] [] κ = optC (L.FnExactFewestNeeds_t aNet) (fun (r : Bool) => κ (.bool r) []) none := by
  have hu : L.FnExactFewestNeeds_F [.ro true (.ints .i64 aNet)] [] κ = L.FnExactFewestNeeds_tree aNet (fun d => κ (.bool d) []) none := by
    kernel_rfl
  rw [hu]
  exact (L.FnExactFewestNeeds_tree_nat (fun o => optC o (fun (r : Bool) => κ (.bool r) []) none) aNet (fun d => some d) none).symm
noncomputable def L.FnExactFewestNeeds_s : D.Spec where
  keep := true
  pure := true
  ds := [.int .i64]
  sp := fun args h κ => match args, h with
    | [.ro true (.ints .i64 aNet)], [] => optC (L.FnExactFewestNeeds_t aNet) (fun (r : Bool) => κ (.bool r) []) none
    | _, _ => none
theorem L.FnExactFewestNeeds_ok : SpecOk Try.prog 10 L.FnExactFewestNeeds_s := by
  refine SpecOk.of TDok mixed (T := L.FnExactFewestNeeds_T) ?_ (ann := L.FnExactFewestNeeds_ann) Try.func10 rfl (by decide +kernel) ?_ ?_ ?_
  · intro p hp
    simp only [L.FnExactFewestNeeds_T, List.mem_cons, List.not_mem_nil, or_false] at hp
    rcases hp with rfl | rfl | rfl | rfl
    · exact L.toIntS_ok
    · exact S.FewestNeeds_ok
    · exact I.FewestNeeds_ok
    · exact L.eqIntS_ok
  · intro args h κ r hh
    simp only [L.FnExactFewestNeeds_s] at hh
    split at hh
    · exact (L.FnExactFewestNeeds_den _ κ).trans hh
    · cases hh
  · intro args h κ r hh
    simp only [L.FnExactFewestNeeds_s] at hh ⊢
    split at hh
    · exact optC_law2 (F := fun (r : Bool) κ => κ (.bool r) []) (fun b κ r hb => ⟨_, _, hb, fun _ => rfl⟩) hh
    · cases hh
  · intro _ args h κ r hh
    simp only [L.FnExactFewestNeeds_s] at hh
    split at hh
    · exact ⟨rfl, fun _ => rfl⟩
    · cases hh

-- loop.example/guardsonnets/spec.DrawMostNeeds
noncomputable def S.DrawMostNeeds_T : List (Nat × D.Spec) := [(60, S.l20Open_s), (59, S.l20Net_s)]
def S.DrawMostNeeds_ann : Nat → List Nat × List Nat
  | _ => ([], [])
noncomputable def S.DrawMostNeeds_F (args : List V) (h : List E) (κ : V → List E → R) : R := funC TD (tableK S.DrawMostNeeds_T) S.DrawMostNeeds_ann (drawOk (tableP S.DrawMostNeeds_T)) FUEL Try.f41 args h κ
noncomputable def S.DrawMostNeeds_tree {α : Type} (code : List Int) (leaf0_ : List Int → α) (fail_ : α) : α :=
  (optC (S.l20Open_t code) (fun c_1 => (optC (S.l20Net_t c_1.fst c_1.snd 9) (fun c_2 => (leaf0_ c_2.snd.snd)) fail_)) fail_)
theorem S.DrawMostNeeds_tree_nat {α γ : Type} (g : α → γ) (code : List Int) (leaf0_ : List Int → α) (fail_ : α) : g (S.DrawMostNeeds_tree code leaf0_ fail_) = S.DrawMostNeeds_tree code (fun d => g (leaf0_ d)) (g fail_) := by
  unfold S.DrawMostNeeds_tree; simp only [apply_cnd g, apply_optC g, apply_sumC g]
noncomputable def S.DrawMostNeeds_t (code : List Int) : Option (List Int) := S.DrawMostNeeds_tree code (fun d => some d) none
theorem S.DrawMostNeeds_den (code : List Int) (κ : V → List E → R) : S.DrawMostNeeds_F [.ro true (.ints .u8 code)] [] κ = optC (S.DrawMostNeeds_t code) (fun (r : List Int) => κ (.own 0) [.row (.ints .i64 r)]) none := by
  have hu : S.DrawMostNeeds_F [.ro true (.ints .u8 code)] [] κ = S.DrawMostNeeds_tree code (fun d => κ (.own 0) [.row (.ints .i64 d)]) none := by
    kernel_rfl
  rw [hu]
  exact (S.DrawMostNeeds_tree_nat (fun o => optC o (fun (r : List Int) => κ (.own 0) [.row (.ints .i64 r)]) none) code (fun d => some d) none).symm
noncomputable def S.DrawMostNeeds_s : D.Spec where
  keep := true
  pure := false
  ds := [.int .u8]
  sp := fun args h κ => match args, h with
    | [.ro true (.ints .u8 code)], [] => optC (S.DrawMostNeeds_t code) (fun (r : List Int) => κ (.own 0) [.row (.ints .i64 r)]) none
    | _, _ => none
theorem S.DrawMostNeeds_ok : SpecOk Try.prog 41 S.DrawMostNeeds_s := by
  refine SpecOk.of TDok mixed (T := S.DrawMostNeeds_T) ?_ (ann := S.DrawMostNeeds_ann) Try.func41 rfl (by decide +kernel) ?_ ?_ ?_
  · intro p hp
    simp only [S.DrawMostNeeds_T, List.mem_cons, List.not_mem_nil, or_false] at hp
    rcases hp with rfl | rfl
    · exact S.l20Open_ok
    · exact S.l20Net_ok
  · intro args h κ r hh
    simp only [S.DrawMostNeeds_s] at hh
    split at hh
    · exact (S.DrawMostNeeds_den _ κ).trans hh
    · cases hh
  · intro args h κ r hh
    simp only [S.DrawMostNeeds_s] at hh ⊢
    split at hh
    · exact optC_law2 (F := fun (r : List Int) κ => κ (.own 0) [.row (.ints .i64 r)]) (fun b κ r hb => ⟨_, _, hb, fun _ => rfl⟩) hh
    · cases hh
  · intro hh; cases hh

-- loop.example/guardsonnets/impl.MostNeeds
noncomputable def I.MostNeeds_T : List (Nat × D.Spec) := [(22, I.NetOk_s), (73, I.chainIn_s)]
def I.MostNeeds_ann : Nat → List Nat × List Nat
  | _ => ([], [])
noncomputable def I.MostNeeds_F (args : List V) (h : List E) (κ : V → List E → R) : R := funC TD (tableK I.MostNeeds_T) I.MostNeeds_ann (drawOk (tableP I.MostNeeds_T)) FUEL Try.f42 args h κ
noncomputable def I.MostNeeds_tree {α : Type} (net : List Int) (leaf0_ : Int → α) (fail_ : α) : α :=
  (optC (I.NetOk_t net) (fun c_1 => (bif !c_1 then (leaf0_ (-1)) else (optC (I.chainIn_t net) (fun c_2 => (leaf0_ c_2.snd.snd.snd.snd.snd)) fail_))) fail_)
theorem I.MostNeeds_tree_nat {α γ : Type} (g : α → γ) (net : List Int) (leaf0_ : Int → α) (fail_ : α) : g (I.MostNeeds_tree net leaf0_ fail_) = I.MostNeeds_tree net (fun d => g (leaf0_ d)) (g fail_) := by
  unfold I.MostNeeds_tree; simp only [apply_cnd g, apply_optC g, apply_sumC g]
noncomputable def I.MostNeeds_t (net : List Int) : Option (Int) := I.MostNeeds_tree net (fun d => some d) none
theorem I.MostNeeds_den (net : List Int) (κ : V → List E → R) : I.MostNeeds_F [.ro false (.ints .i64 net)] [] κ = optC (I.MostNeeds_t net) (fun (r : Int) => κ (.int .i64 r) []) none := by
  have hu : I.MostNeeds_F [.ro false (.ints .i64 net)] [] κ = I.MostNeeds_tree net (fun d => κ (.int .i64 d) []) none := by
    kernel_rfl
  rw [hu]
  exact (I.MostNeeds_tree_nat (fun o => optC o (fun (r : Int) => κ (.int .i64 r) []) none) net (fun d => some d) none).symm
noncomputable def I.MostNeeds_s : D.Spec where
  keep := false
  pure := true
  ds := [.int .i64]
  sp := fun args h κ => match args, h with
    | [.ro false (.ints .i64 net)], [] => optC (I.MostNeeds_t net) (fun (r : Int) => κ (.int .i64 r) []) none
    | _, _ => none
theorem I.MostNeeds_ok : SpecOk Try.prog 42 I.MostNeeds_s := by
  refine SpecOk.of TDok mixed (T := I.MostNeeds_T) ?_ (ann := I.MostNeeds_ann) Try.func42 rfl (by decide +kernel) ?_ ?_ ?_
  · intro p hp
    simp only [I.MostNeeds_T, List.mem_cons, List.not_mem_nil, or_false] at hp
    rcases hp with rfl | rfl
    · exact I.NetOk_ok
    · exact I.chainIn_ok
  · intro args h κ r hh
    simp only [I.MostNeeds_s] at hh
    split at hh
    · exact (I.MostNeeds_den _ κ).trans hh
    · cases hh
  · intro args h κ r hh
    simp only [I.MostNeeds_s] at hh ⊢
    split at hh
    · exact optC_law2 (F := fun (r : Int) κ => κ (.int .i64 r) []) (fun b κ r hb => ⟨_, _, hb, fun _ => rfl⟩) hh
    · cases hh
  · intro _ args h κ r hh
    simp only [I.MostNeeds_s] at hh
    split at hh
    · exact ⟨rfl, fun _ => rfl⟩
    · cases hh

-- loop.example/guardsonnets/spec.MostNeeds
noncomputable def S.MostNeeds_T : List (Nat × D.Spec) := [(58, S.NetOk_s), (75, S.l3Needs_s), (65, S.l1Size_s)]
def S.MostNeeds_ann : Nat → List Nat × List Nat
  | 5 => ([0, 3, 4], [3])
  | _ => ([], [])
noncomputable def S.MostNeeds_F (args : List V) (h : List E) (κ : V → List E → R) : R := funC TD (tableK S.MostNeeds_T) S.MostNeeds_ann (drawOk (tableP S.MostNeeds_T)) FUEL Try.f43 args h κ
noncomputable def S.MostNeeds_L5 (n : Nat) (σ : St) (k : X → St → R) : R := iterC 0 (fun σ k => denC TD (tableK S.MostNeeds_T) S.MostNeeds_ann (drawOk (tableP S.MostNeeds_T)) 0 FUEL ((findLoop 5 (Try.f43.body.getD .skip)).getD .skip) σ k) [0, 3, 4] [3] n σ k
noncomputable def S.MostNeeds_k5 (κ : V → List E → R) : X → St → R := (afterC TD (tableK S.MostNeeds_T) S.MostNeeds_ann (drawOk (tableP S.MostNeeds_T)) 0 FUEL 5 (Try.f43.body.getD .skip) (finC TD 0 Try.f43 κ)).getD (fun _ _ => none)
noncomputable def S.MostNeeds_step5 {α : Type} (x0 : List Int) (x3 : Int) (x4 : Int) (next_ : Int × Int → α) (out0_ : Int → α) (fail_ : α) : α :=
  (bif decide (x4 < IntKind.i64.wrap (1 * 2 ^ min (↑x0.length : Int).toNat IntKind.i64.bits)) then (optC (S.l3Needs_t x0 x4) (fun c_2 => (bif c_2 then (optC (S.l1Size_t x4) (fun c_3 => (next_ (if c_3 > x3 then c_3 else x3, IntKind.i64.wrap (x4 + 1)))) fail_) else (next_ (x3, IntKind.i64.wrap (x4 + 1))))) fail_) else (out0_ x3))
theorem S.MostNeeds_step5_nat {α γ : Type} (g : α → γ) (x0 : List Int) (x3 : Int) (x4 : Int) (next_ : Int × Int → α) (out0_ : Int → α) (fail_ : α) : g (S.MostNeeds_step5 x0 x3 x4 next_ out0_ fail_) = S.MostNeeds_step5 x0 x3 x4 (fun s => g (next_ s)) (fun d => g (out0_ d)) (g fail_) := by
  unfold S.MostNeeds_step5; simp only [apply_cnd g, apply_optC g, apply_sumC g]
noncomputable def S.MostNeeds_run5 (x0 : List Int) : Nat → Int × Int → Option (Int)
  | 0, _ => none
  | n + 1, s_ => S.MostNeeds_step5 x0 s_.1 s_.2 (S.MostNeeds_run5 x0 n) (fun d => some d) none
theorem S.MostNeeds_L5_run (x0 : List Int) (n : Nat) (s_ : Int × Int) (k : X → St → R) : S.MostNeeds_L5 n { n := 23, t := [(0, (.ro false (.ints .i64 x0))), (3, (.int .i64 s_.1)), (4, (.int .i64 s_.2))], h := [] } k = optC (S.MostNeeds_run5 x0 n s_) (fun (r : Int) => k (.exit 0) { n := 23, t := [(3, (.int .i64 r))], h := [] }) none := by
  induction n generalizing s_ with
  | zero => rfl
  | succ n ih =>
    have hu : S.MostNeeds_L5 (n + 1) { n := 23, t := [(0, (.ro false (.ints .i64 x0))), (3, (.int .i64 s_.1)), (4, (.int .i64 s_.2))], h := [] } k = S.MostNeeds_step5 x0 s_.1 s_.2 (fun s_ => S.MostNeeds_L5 n { n := 23, t := [(0, (.ro false (.ints .i64 x0))), (3, (.int .i64 s_.1)), (4, (.int .i64 s_.2))], h := [] } k) (fun d => k (.exit 0) { n := 23, t := [(3, (.int .i64 d))], h := [] }) none := by
      kernel_rfl
    have hs : (fun s_ : Int × Int => S.MostNeeds_L5 n { n := 23, t := [(0, (.ro false (.ints .i64 x0))), (3, (.int .i64 s_.1)), (4, (.int .i64 s_.2))], h := [] } k) = fun s_ => optC (S.MostNeeds_run5 x0 n s_) (fun (r : Int) => k (.exit 0) { n := 23, t := [(3, (.int .i64 r))], h := [] }) none := funext ih
    rw [hu, hs]
    exact (S.MostNeeds_step5_nat (fun o => optC o (fun (r : Int) => k (.exit 0) { n := 23, t := [(3, (.int .i64 r))], h := [] }) none) x0 s_.1 s_.2 (S.MostNeeds_run5 x0 n) (fun d => some d) none).symm
noncomputable def S.MostNeeds_tree {α : Type} (net : List Int) (leaf0_ : Int → α) (fail_ : α) : α :=
  (optC (S.NetOk_t net) (fun c_1 => (bif !c_1 then (leaf0_ (-1)) else (optC (S.MostNeeds_run5 net FUEL (0, 0)) (fun qy_4 => (leaf0_ qy_4)) fail_))) fail_)
theorem S.MostNeeds_tree_nat {α γ : Type} (g : α → γ) (net : List Int) (leaf0_ : Int → α) (fail_ : α) : g (S.MostNeeds_tree net leaf0_ fail_) = S.MostNeeds_tree net (fun d => g (leaf0_ d)) (g fail_) := by
  unfold S.MostNeeds_tree; simp only [apply_cnd g, apply_optC g, apply_sumC g]
noncomputable def S.MostNeeds_t (net : List Int) : Option (Int) := S.MostNeeds_tree net (fun d => some d) none
theorem S.MostNeeds_den (net : List Int) (κ : V → List E → R) : S.MostNeeds_F [.ro false (.ints .i64 net)] [] κ = optC (S.MostNeeds_t net) (fun (r : Int) => κ (.int .i64 r) []) none := by
  have hu : S.MostNeeds_F [.ro false (.ints .i64 net)] [] κ = S.MostNeeds_tree net (fun d => κ (.int .i64 d) []) none := by
    refine Eq.trans (show S.MostNeeds_F [.ro false (.ints .i64 net)] [] κ = (optC (S.NetOk_t net) (fun c_1 => (bif !c_1 then (κ (.int .i64 (-1)) []) else (S.MostNeeds_L5 FUEL { n := 23, t := [(0, (.ro false (.ints .i64 net))), (3, (.int .i64 0)), (4, (.int .i64 0))], h := [] } (S.MostNeeds_k5 κ)))) none) by kernel_rfl) ?_
    refine optC_congr (fun c_1 => ?_)
    refine cnd_congr ?_ ?_
    · kernel_rfl
    · refine (S.MostNeeds_L5_run net FUEL (0, 0) (S.MostNeeds_k5 κ)).trans (optC_congr (fun qy_4 => ?_))
      kernel_rfl
  rw [hu]
  exact (S.MostNeeds_tree_nat (fun o => optC o (fun (r : Int) => κ (.int .i64 r) []) none) net (fun d => some d) none).symm
noncomputable def S.MostNeeds_s : D.Spec where
  keep := false
  pure := true
  ds := [.int .i64]
  sp := fun args h κ => match args, h with
    | [.ro false (.ints .i64 net)], [] => optC (S.MostNeeds_t net) (fun (r : Int) => κ (.int .i64 r) []) none
    | _, _ => none
theorem S.MostNeeds_ok : SpecOk Try.prog 43 S.MostNeeds_s := by
  refine SpecOk.of TDok mixed (T := S.MostNeeds_T) ?_ (ann := S.MostNeeds_ann) Try.func43 rfl (by decide +kernel) ?_ ?_ ?_
  · intro p hp
    simp only [S.MostNeeds_T, List.mem_cons, List.not_mem_nil, or_false] at hp
    rcases hp with rfl | rfl | rfl
    · exact S.NetOk_ok
    · exact S.l3Needs_ok
    · exact S.l1Size_ok
  · intro args h κ r hh
    simp only [S.MostNeeds_s] at hh
    split at hh
    · exact (S.MostNeeds_den _ κ).trans hh
    · cases hh
  · intro args h κ r hh
    simp only [S.MostNeeds_s] at hh ⊢
    split at hh
    · exact optC_law2 (F := fun (r : Int) κ => κ (.int .i64 r) []) (fun b κ r hb => ⟨_, _, hb, fun _ => rfl⟩) hh
    · cases hh
  · intro _ args h κ r hh
    simp only [S.MostNeeds_s] at hh
    split at hh
    · exact ⟨rfl, fun _ => rfl⟩
    · cases hh

-- loop.example/guardsonnets/impl.placeIn
noncomputable def I.placeIn_T : List (Nat × D.Spec) := []
def I.placeIn_ann : Nat → List Nat × List Nat
  | _ => ([], [])
noncomputable def I.placeIn_F (args : List V) (h : List E) (κ : V → List E → R) : R := funC TD (tableK I.placeIn_T) I.placeIn_ann (drawOk (tableP I.placeIn_T)) FUEL Try.f76 args h κ
noncomputable def I.placeIn_tree {α : Type} (net : List Int) (place : Int) (leaf0_ : Bool → α) (fail_ : α) : α :=
  (bif decide (place ≥ 0) then (leaf0_ (decide (place < (↑net.length : Int)))) else (leaf0_ false))
theorem I.placeIn_tree_nat {α γ : Type} (g : α → γ) (net : List Int) (place : Int) (leaf0_ : Bool → α) (fail_ : α) : g (I.placeIn_tree net place leaf0_ fail_) = I.placeIn_tree net place (fun d => g (leaf0_ d)) (g fail_) := by
  unfold I.placeIn_tree; simp only [apply_cnd g, apply_optC g, apply_sumC g]
noncomputable def I.placeIn_t (net : List Int) (place : Int) : Option (Bool) := I.placeIn_tree net place (fun d => some d) none
theorem I.placeIn_den (net : List Int) (place : Int) (κ : V → List E → R) : I.placeIn_F [.ro false (.ints .i64 net), .int .i64 place] [] κ = optC (I.placeIn_t net place) (fun (r : Bool) => κ (.bool r) []) none := by
  have hu : I.placeIn_F [.ro false (.ints .i64 net), .int .i64 place] [] κ = I.placeIn_tree net place (fun d => κ (.bool d) []) none := by
    kernel_rfl
  rw [hu]
  exact (I.placeIn_tree_nat (fun o => optC o (fun (r : Bool) => κ (.bool r) []) none) net place (fun d => some d) none).symm
noncomputable def I.placeIn_s : D.Spec where
  keep := false
  pure := true
  ds := [.int .i64, .invalid]
  sp := fun args h κ => match args, h with
    | [.ro false (.ints .i64 net), .int .i64 place], [] => optC (I.placeIn_t net place) (fun (r : Bool) => κ (.bool r) []) none
    | _, _ => none
theorem I.placeIn_ok : SpecOk Try.prog 76 I.placeIn_s := by
  refine SpecOk.of TDok mixed (T := I.placeIn_T) ?_ (ann := I.placeIn_ann) Try.func76 rfl (by decide +kernel) ?_ ?_ ?_
  · intro p hp; cases hp
  · intro args h κ r hh
    simp only [I.placeIn_s] at hh
    split at hh
    · exact (I.placeIn_den _ _ κ).trans hh
    · cases hh
  · intro args h κ r hh
    simp only [I.placeIn_s] at hh ⊢
    split at hh
    · exact optC_law2 (F := fun (r : Bool) κ => κ (.bool r) []) (fun b κ r hb => ⟨_, _, hb, fun _ => rfl⟩) hh
    · cases hh
  · intro _ args h κ r hh
    simp only [I.placeIn_s] at hh
    split at hh
    · exact ⟨rfl, fun _ => rfl⟩
    · cases hh

-- loop.example/guardsonnets/impl.BallOf
noncomputable def I.BallOf_T : List (Nat × D.Spec) := [(22, I.NetOk_s), (76, I.placeIn_s), (77, I.ballIn_s)]
def I.BallOf_ann : Nat → List Nat × List Nat
  | _ => ([], [])
noncomputable def I.BallOf_F (args : List V) (h : List E) (κ : V → List E → R) : R := funC TD (tableK I.BallOf_T) I.BallOf_ann (drawOk (tableP I.BallOf_T)) FUEL Try.f44 args h κ
noncomputable def I.BallOf_tree {α : Type} (net : List Int) (place : Int) (leaf0_ : Int → α) (fail_ : α) : α :=
  (optC (I.NetOk_t net) (fun c_1 => (bif !c_1 then (leaf0_ (-1)) else (optC (I.placeIn_t net place) (fun c_2 => (bif !c_2 then (leaf0_ (-1)) else (optC (I.ballIn_t net place) (fun c_3 => (leaf0_ c_3)) fail_))) fail_))) fail_)
theorem I.BallOf_tree_nat {α γ : Type} (g : α → γ) (net : List Int) (place : Int) (leaf0_ : Int → α) (fail_ : α) : g (I.BallOf_tree net place leaf0_ fail_) = I.BallOf_tree net place (fun d => g (leaf0_ d)) (g fail_) := by
  unfold I.BallOf_tree; simp only [apply_cnd g, apply_optC g, apply_sumC g]
noncomputable def I.BallOf_t (net : List Int) (place : Int) : Option (Int) := I.BallOf_tree net place (fun d => some d) none
theorem I.BallOf_den (net : List Int) (place : Int) (κ : V → List E → R) : I.BallOf_F [.ro false (.ints .i64 net), .int .i64 place] [] κ = optC (I.BallOf_t net place) (fun (r : Int) => κ (.int .i64 r) []) none := by
  have hu : I.BallOf_F [.ro false (.ints .i64 net), .int .i64 place] [] κ = I.BallOf_tree net place (fun d => κ (.int .i64 d) []) none := by
    kernel_rfl
  rw [hu]
  exact (I.BallOf_tree_nat (fun o => optC o (fun (r : Int) => κ (.int .i64 r) []) none) net place (fun d => some d) none).symm
noncomputable def I.BallOf_s : D.Spec where
  keep := false
  pure := true
  ds := [.int .i64, .invalid]
  sp := fun args h κ => match args, h with
    | [.ro false (.ints .i64 net), .int .i64 place], [] => optC (I.BallOf_t net place) (fun (r : Int) => κ (.int .i64 r) []) none
    | _, _ => none
theorem I.BallOf_ok : SpecOk Try.prog 44 I.BallOf_s := by
  refine SpecOk.of TDok mixed (T := I.BallOf_T) ?_ (ann := I.BallOf_ann) Try.func44 rfl (by decide +kernel) ?_ ?_ ?_
  · intro p hp
    simp only [I.BallOf_T, List.mem_cons, List.not_mem_nil, or_false] at hp
    rcases hp with rfl | rfl | rfl
    · exact I.NetOk_ok
    · exact I.placeIn_ok
    · exact I.ballIn_ok
  · intro args h κ r hh
    simp only [I.BallOf_s] at hh
    split at hh
    · exact (I.BallOf_den _ _ κ).trans hh
    · cases hh
  · intro args h κ r hh
    simp only [I.BallOf_s] at hh ⊢
    split at hh
    · exact optC_law2 (F := fun (r : Int) κ => κ (.int .i64 r) []) (fun b κ r hb => ⟨_, _, hb, fun _ => rfl⟩) hh
    · cases hh
  · intro _ args h κ r hh
    simp only [I.BallOf_s] at hh
    split at hh
    · exact ⟨rfl, fun _ => rfl⟩
    · cases hh

-- loop.example/guardsonnets/impl.MostLeast
noncomputable def I.MostLeast_T : List (Nat × D.Spec) := [(22, I.NetOk_s), (73, I.chainIn_s)]
def I.MostLeast_ann : Nat → List Nat × List Nat
  | _ => ([], [])
noncomputable def I.MostLeast_F (args : List V) (h : List E) (κ : V → List E → R) : R := funC TD (tableK I.MostLeast_T) I.MostLeast_ann (drawOk (tableP I.MostLeast_T)) FUEL Try.f45 args h κ
noncomputable def I.MostLeast_tree {α : Type} (net : List Int) (leaf0_ : Int → α) (fail_ : α) : α :=
  (optC (I.NetOk_t net) (fun c_1 => (bif !c_1 then (leaf0_ (-1)) else (optC (I.chainIn_t net) (fun c_2 => (leaf0_ c_2.snd.snd.snd.snd.fst)) fail_))) fail_)
theorem I.MostLeast_tree_nat {α γ : Type} (g : α → γ) (net : List Int) (leaf0_ : Int → α) (fail_ : α) : g (I.MostLeast_tree net leaf0_ fail_) = I.MostLeast_tree net (fun d => g (leaf0_ d)) (g fail_) := by
  unfold I.MostLeast_tree; simp only [apply_cnd g, apply_optC g, apply_sumC g]
noncomputable def I.MostLeast_t (net : List Int) : Option (Int) := I.MostLeast_tree net (fun d => some d) none
theorem I.MostLeast_den (net : List Int) (κ : V → List E → R) : I.MostLeast_F [.ro false (.ints .i64 net)] [] κ = optC (I.MostLeast_t net) (fun (r : Int) => κ (.int .i64 r) []) none := by
  have hu : I.MostLeast_F [.ro false (.ints .i64 net)] [] κ = I.MostLeast_tree net (fun d => κ (.int .i64 d) []) none := by
    kernel_rfl
  rw [hu]
  exact (I.MostLeast_tree_nat (fun o => optC o (fun (r : Int) => κ (.int .i64 r) []) none) net (fun d => some d) none).symm
noncomputable def I.MostLeast_s : D.Spec where
  keep := false
  pure := true
  ds := [.int .i64]
  sp := fun args h κ => match args, h with
    | [.ro false (.ints .i64 net)], [] => optC (I.MostLeast_t net) (fun (r : Int) => κ (.int .i64 r) []) none
    | _, _ => none
theorem I.MostLeast_ok : SpecOk Try.prog 45 I.MostLeast_s := by
  refine SpecOk.of TDok mixed (T := I.MostLeast_T) ?_ (ann := I.MostLeast_ann) Try.func45 rfl (by decide +kernel) ?_ ?_ ?_
  · intro p hp
    simp only [I.MostLeast_T, List.mem_cons, List.not_mem_nil, or_false] at hp
    rcases hp with rfl | rfl
    · exact I.NetOk_ok
    · exact I.chainIn_ok
  · intro args h κ r hh
    simp only [I.MostLeast_s] at hh
    split at hh
    · exact (I.MostLeast_den _ κ).trans hh
    · cases hh
  · intro args h κ r hh
    simp only [I.MostLeast_s] at hh ⊢
    split at hh
    · exact optC_law2 (F := fun (r : Int) κ => κ (.int .i64 r) []) (fun b κ r hb => ⟨_, _, hb, fun _ => rfl⟩) hh
    · cases hh
  · intro _ args h κ r hh
    simp only [I.MostLeast_s] at hh
    split at hh
    · exact ⟨rfl, fun _ => rfl⟩
    · cases hh

-- loop.example/guardsonnets/laws.FnMostNeeds
noncomputable def L.FnMostNeeds_T : List (Nat × D.Spec) := [(41, S.DrawMostNeeds_s), (42, I.MostNeeds_s), (43, S.MostNeeds_s), (22, I.NetOk_s), (23, L.alive_s), (44, I.BallOf_s), (30, L.sizeOf_s), (45, I.MostLeast_s), (34, I.WiresOf_s)]
def L.FnMostNeeds_ann : Nat → List Nat × List Nat
  | 11 => ([3, 4, 5, 6], [3, 4, 5])
  | _ => ([], [])
noncomputable def L.FnMostNeeds_F (args : List V) (h : List E) (κ : V → List E → R) : R := funC TD (tableK L.FnMostNeeds_T) L.FnMostNeeds_ann (drawOk (tableP L.FnMostNeeds_T)) FUEL Try.f11 args h κ
noncomputable def L.FnMostNeeds_L11 (n : Nat) (σ : St) (k : X → St → R) : R := iterC 0 (fun σ k => denC TD (tableK L.FnMostNeeds_T) L.FnMostNeeds_ann (drawOk (tableP L.FnMostNeeds_T)) 0 FUEL ((findLoop 11 (Try.f11.body.getD .skip)).getD .skip) σ k) [3, 4, 5, 6] [3, 4, 5] n σ k
noncomputable def L.FnMostNeeds_k11 (κ : V → List E → R) : X → St → R := (afterC TD (tableK L.FnMostNeeds_T) L.FnMostNeeds_ann (drawOk (tableP L.FnMostNeeds_T)) 0 FUEL 11 (Try.f11.body.getD .skip) (finC TD 0 Try.f11 κ)).getD (fun _ _ => none)
noncomputable def L.FnMostNeeds_step11 {α : Type} (x4 : Int) (x5 : Int) (x6 : Int) (r0 : List Int) (next_ : Int × Int × (List Int) → α) (out0_ : Int × (List Int) → α) (fail_ : α) : α :=
  (bif decide (x6 < (↑r0.length : Int)) then (optC (I.BallOf_t r0 x6) (fun c_6 => (optC (L.sizeOf_t c_6) (fun c_7 => (next_ (if c_7 < x5 then c_7 else x5, IntKind.i64.wrap (x6 + 1), r0))) fail_)) fail_) else (out0_ (x5, r0)))
theorem L.FnMostNeeds_step11_nat {α γ : Type} (g : α → γ) (x4 : Int) (x5 : Int) (x6 : Int) (r0 : List Int) (next_ : Int × Int × (List Int) → α) (out0_ : Int × (List Int) → α) (fail_ : α) : g (L.FnMostNeeds_step11 x4 x5 x6 r0 next_ out0_ fail_) = L.FnMostNeeds_step11 x4 x5 x6 r0 (fun s => g (next_ s)) (fun d => g (out0_ d)) (g fail_) := by
  unfold L.FnMostNeeds_step11; simp only [apply_cnd g, apply_optC g, apply_sumC g]
noncomputable def L.FnMostNeeds_run11 (x4 : Int) : Nat → Int × Int × (List Int) → Option (Int × (List Int))
  | 0, _ => none
  | n + 1, s_ => L.FnMostNeeds_step11 x4 s_.1 s_.2.1 s_.2.2 (L.FnMostNeeds_run11 x4 n) (fun d => some d) none
theorem L.FnMostNeeds_L11_run (x4 : Int) (n : Nat) (s_ : Int × Int × (List Int)) (k : X → St → R) : L.FnMostNeeds_L11 n { n := 67, t := [(3, (.own 0)), (4, (.int .i64 x4)), (5, (.int .i64 s_.1)), (6, (.int .i64 s_.2.1))], h := [.row (.ints .i64 s_.2.2)] } k = optC (L.FnMostNeeds_run11 x4 n s_) (fun (r : Int × (List Int)) => k (.exit 0) { n := 67, t := [(3, (.own 0)), (4, (.int .i64 x4)), (5, (.int .i64 r.1))], h := [.row (.ints .i64 r.2)] }) none := by
  induction n generalizing s_ with
  | zero => rfl
  | succ n ih =>
    have hu : L.FnMostNeeds_L11 (n + 1) { n := 67, t := [(3, (.own 0)), (4, (.int .i64 x4)), (5, (.int .i64 s_.1)), (6, (.int .i64 s_.2.1))], h := [.row (.ints .i64 s_.2.2)] } k = L.FnMostNeeds_step11 x4 s_.1 s_.2.1 s_.2.2 (fun s_ => L.FnMostNeeds_L11 n { n := 67, t := [(3, (.own 0)), (4, (.int .i64 x4)), (5, (.int .i64 s_.1)), (6, (.int .i64 s_.2.1))], h := [.row (.ints .i64 s_.2.2)] } k) (fun d => k (.exit 0) { n := 67, t := [(3, (.own 0)), (4, (.int .i64 x4)), (5, (.int .i64 d.1))], h := [.row (.ints .i64 d.2)] }) none := by
      kernel_rfl
    have hs : (fun s_ : Int × Int × (List Int) => L.FnMostNeeds_L11 n { n := 67, t := [(3, (.own 0)), (4, (.int .i64 x4)), (5, (.int .i64 s_.1)), (6, (.int .i64 s_.2.1))], h := [.row (.ints .i64 s_.2.2)] } k) = fun s_ => optC (L.FnMostNeeds_run11 x4 n s_) (fun (r : Int × (List Int)) => k (.exit 0) { n := 67, t := [(3, (.own 0)), (4, (.int .i64 x4)), (5, (.int .i64 r.1))], h := [.row (.ints .i64 r.2)] }) none := funext ih
    rw [hu, hs]
    exact (L.FnMostNeeds_step11_nat (fun o => optC o (fun (r : Int × (List Int)) => k (.exit 0) { n := 67, t := [(3, (.own 0)), (4, (.int .i64 x4)), (5, (.int .i64 r.1))], h := [.row (.ints .i64 r.2)] }) none) x4 s_.1 s_.2.1 s_.2.2 (L.FnMostNeeds_run11 x4 n) (fun d => some d) none).symm
noncomputable def L.FnMostNeeds_tree {α : Type} (code : List Int) (leaf0_ : Bool → α) (fail_ : α) : α :=
  (bif decide ((↑code.length : Int) > 1048576) then (leaf0_ true) else (optC (S.DrawMostNeeds_t code) (fun c_1 => (optC (I.MostNeeds_t c_1) (fun c_2 => (optC (S.MostNeeds_t c_1) (fun c_3 => (bif !c_2 == c_3 then (leaf0_ false) else (bif decide (c_2 < 0) then (bif c_2 == -1 then (optC (I.NetOk_t c_1) (fun c_4 => (bif !c_4 then (optC (L.alive_t) (fun c_5 => (leaf0_ c_5)) fail_) else (leaf0_ false))) fail_) else (leaf0_ false)) else (optC (L.FnMostNeeds_run11 c_2 FUEL ((↑c_1.length : Int), 0, c_1)) (fun qy_8 => (optC (I.MostLeast_t qy_8.2) (fun c_9 => (bif decide (c_2 ≥ c_9) then (bif decide (c_2 ≤ IntKind.i64.wrap (IntKind.i64.wrap ((↑qy_8.2.length : Int) - qy_8.1) + 1)) then (optC (I.WiresOf_t qy_8.2) (fun c_10 => (leaf0_ ((c_10 == 0) == (c_2 == (↑qy_8.2.length : Int))))) fail_) else (leaf0_ false)) else (leaf0_ false))) fail_)) fail_)))) fail_)) fail_)) fail_))
theorem L.FnMostNeeds_tree_nat {α γ : Type} (g : α → γ) (code : List Int) (leaf0_ : Bool → α) (fail_ : α) : g (L.FnMostNeeds_tree code leaf0_ fail_) = L.FnMostNeeds_tree code (fun d => g (leaf0_ d)) (g fail_) := by
  unfold L.FnMostNeeds_tree; simp only [apply_cnd g, apply_optC g, apply_sumC g]
noncomputable def L.FnMostNeeds_t (code : List Int) : Option (Bool) := L.FnMostNeeds_tree code (fun d => some d) none
theorem L.FnMostNeeds_den (code : List Int) (κ : V → List E → R) : L.FnMostNeeds_F [.ro true (.ints .u8 code)] [] κ = optC (L.FnMostNeeds_t code) (fun (r : Bool) => κ (.bool r) []) none := by
  have hu : L.FnMostNeeds_F [.ro true (.ints .u8 code)] [] κ = L.FnMostNeeds_tree code (fun d => κ (.bool d) []) none := by
    refine Eq.trans (show L.FnMostNeeds_F [.ro true (.ints .u8 code)] [] κ = (bif decide ((↑code.length : Int) > 1048576) then (κ (.bool true) []) else (optC (S.DrawMostNeeds_t code) (fun c_1 => (optC (I.MostNeeds_t c_1) (fun c_2 => (optC (S.MostNeeds_t c_1) (fun c_3 => (bif !c_2 == c_3 then (κ (.bool false) []) else (bif decide (c_2 < 0) then (bif c_2 == -1 then (optC (I.NetOk_t c_1) (fun c_4 => (bif !c_4 then (optC (L.alive_t) (fun c_5 => (κ (.bool c_5) [])) none) else (κ (.bool false) []))) none) else (κ (.bool false) [])) else (L.FnMostNeeds_L11 FUEL { n := 67, t := [(3, (.own 0)), (4, (.int .i64 c_2)), (5, (.int .i64 ((↑c_1.length : Int)))), (6, (.int .i64 0))], h := [.row (.ints .i64 c_1)] } (L.FnMostNeeds_k11 κ))))) none)) none)) none)) by kernel_rfl) ?_
    refine cnd_congr ?_ ?_
    · kernel_rfl
    · refine optC_congr (fun c_1 => ?_)
      refine optC_congr (fun c_2 => ?_)
      refine optC_congr (fun c_3 => ?_)
      refine cnd_congr ?_ ?_
      · kernel_rfl
      · refine cnd_congr ?_ ?_
        · kernel_rfl
        · refine (L.FnMostNeeds_L11_run c_2 FUEL ((↑c_1.length : Int), 0, c_1) (L.FnMostNeeds_k11 κ)).trans (optC_congr (fun qy_8 => ?_))
          kernel_rfl
  rw [hu]
  exact (L.FnMostNeeds_tree_nat (fun o => optC o (fun (r : Bool) => κ (.bool r) []) none) code (fun d => some d) none).symm
noncomputable def L.FnMostNeeds_s : D.Spec where
  keep := true
  pure := true
  ds := [.int .u8]
  sp := fun args h κ => match args, h with
    | [.ro true (.ints .u8 code)], [] => optC (L.FnMostNeeds_t code) (fun (r : Bool) => κ (.bool r) []) none
    | _, _ => none
theorem L.FnMostNeeds_ok : SpecOk Try.prog 11 L.FnMostNeeds_s := by
  refine SpecOk.of TDok mixed (T := L.FnMostNeeds_T) ?_ (ann := L.FnMostNeeds_ann) Try.func11 rfl (by decide +kernel) ?_ ?_ ?_
  · intro p hp
    simp only [L.FnMostNeeds_T, List.mem_cons, List.not_mem_nil, or_false] at hp
    rcases hp with rfl | rfl | rfl | rfl | rfl | rfl | rfl | rfl | rfl
    · exact S.DrawMostNeeds_ok
    · exact I.MostNeeds_ok
    · exact S.MostNeeds_ok
    · exact I.NetOk_ok
    · exact L.alive_ok
    · exact I.BallOf_ok
    · exact L.sizeOf_ok
    · exact I.MostLeast_ok
    · exact I.WiresOf_ok
  · intro args h κ r hh
    simp only [L.FnMostNeeds_s] at hh
    split at hh
    · exact (L.FnMostNeeds_den _ κ).trans hh
    · cases hh
  · intro args h κ r hh
    simp only [L.FnMostNeeds_s] at hh ⊢
    split at hh
    · exact optC_law2 (F := fun (r : Bool) κ => κ (.bool r) []) (fun b κ r hb => ⟨_, _, hb, fun _ => rfl⟩) hh
    · cases hh
  · intro _ args h κ r hh
    simp only [L.FnMostNeeds_s] at hh
    split at hh
    · exact ⟨rfl, fun _ => rfl⟩
    · cases hh

-- loop.example/guardsonnets/laws.FnExactMostNeeds
noncomputable def L.FnExactMostNeeds_T : List (Nat × D.Spec) := [(26, L.toIntS_s), (43, S.MostNeeds_s), (42, I.MostNeeds_s), (27, L.eqIntS_s)]
def L.FnExactMostNeeds_ann : Nat → List Nat × List Nat
  | _ => ([], [])
noncomputable def L.FnExactMostNeeds_F (args : List V) (h : List E) (κ : V → List E → R) : R := funC TD (tableK L.FnExactMostNeeds_T) L.FnExactMostNeeds_ann (drawOk (tableP L.FnExactMostNeeds_T)) FUEL Try.f12 args h κ
noncomputable def L.FnExactMostNeeds_tree {α : Type} (aNet : List Int) (leaf0_ : Bool → α) (fail_ : α) : α :=
  (bif decide ((↑aNet.length : Int) > 1048576) then (leaf0_ true) else (optC (L.toIntS_t aNet) (fun c_1 => (optC (S.MostNeeds_t c_1) (fun c_2 => (optC (L.toIntS_t aNet) (fun c_3 => (optC (I.MostNeeds_t c_3) (fun c_4 => (bif !c_4 == c_2 then (leaf0_ false) else (optC (L.toIntS_t aNet) (fun c_5 => (optC (L.eqIntS_t c_3 c_5) (fun c_6 => (bif !c_6 then (leaf0_ false) else (leaf0_ true))) fail_)) fail_))) fail_)) fail_)) fail_)) fail_))
theorem L.FnExactMostNeeds_tree_nat {α γ : Type} (g : α → γ) (aNet : List Int) (leaf0_ : Bool → α) (fail_ : α) : g (L.FnExactMostNeeds_tree aNet leaf0_ fail_) = L.FnExactMostNeeds_tree aNet (fun d => g (leaf0_ d)) (g fail_) := by
  unfold L.FnExactMostNeeds_tree; simp only [apply_cnd g, apply_optC g, apply_sumC g]
noncomputable def L.FnExactMostNeeds_t (aNet : List Int) : Option (Bool) := L.FnExactMostNeeds_tree aNet (fun d => some d) none
theorem L.FnExactMostNeeds_den (aNet : List Int) (κ : V → List E → R) : L.FnExactMostNeeds_F [.ro true (.ints .i64 aNet)] [] κ = optC (L.FnExactMostNeeds_t aNet) (fun (r : Bool) => κ (.bool r) []) none := by
  have hu : L.FnExactMostNeeds_F [.ro true (.ints .i64 aNet)] [] κ = L.FnExactMostNeeds_tree aNet (fun d => κ (.bool d) []) none := by
    kernel_rfl
  rw [hu]
  exact (L.FnExactMostNeeds_tree_nat (fun o => optC o (fun (r : Bool) => κ (.bool r) []) none) aNet (fun d => some d) none).symm
noncomputable def L.FnExactMostNeeds_s : D.Spec where
  keep := true
  pure := true
  ds := [.int .i64]
  sp := fun args h κ => match args, h with
    | [.ro true (.ints .i64 aNet)], [] => optC (L.FnExactMostNeeds_t aNet) (fun (r : Bool) => κ (.bool r) []) none
    | _, _ => none
theorem L.FnExactMostNeeds_ok : SpecOk Try.prog 12 L.FnExactMostNeeds_s := by
  refine SpecOk.of TDok mixed (T := L.FnExactMostNeeds_T) ?_ (ann := L.FnExactMostNeeds_ann) Try.func12 rfl (by decide +kernel) ?_ ?_ ?_
  · intro p hp
    simp only [L.FnExactMostNeeds_T, List.mem_cons, List.not_mem_nil, or_false] at hp
    rcases hp with rfl | rfl | rfl | rfl
    · exact L.toIntS_ok
    · exact S.MostNeeds_ok
    · exact I.MostNeeds_ok
    · exact L.eqIntS_ok
  · intro args h κ r hh
    simp only [L.FnExactMostNeeds_s] at hh
    split at hh
    · exact (L.FnExactMostNeeds_den _ κ).trans hh
    · cases hh
  · intro args h κ r hh
    simp only [L.FnExactMostNeeds_s] at hh ⊢
    split at hh
    · exact optC_law2 (F := fun (r : Bool) κ => κ (.bool r) []) (fun b κ r hb => ⟨_, _, hb, fun _ => rfl⟩) hh
    · cases hh
  · intro _ args h κ r hh
    simp only [L.FnExactMostNeeds_s] at hh
    split at hh
    · exact ⟨rfl, fun _ => rfl⟩
    · cases hh

-- loop.example/guardsonnets/spec.DrawMostLeast
noncomputable def S.DrawMostLeast_T : List (Nat × D.Spec) := [(60, S.l20Open_s), (59, S.l20Net_s)]
def S.DrawMostLeast_ann : Nat → List Nat × List Nat
  | _ => ([], [])
noncomputable def S.DrawMostLeast_F (args : List V) (h : List E) (κ : V → List E → R) : R := funC TD (tableK S.DrawMostLeast_T) S.DrawMostLeast_ann (drawOk (tableP S.DrawMostLeast_T)) FUEL Try.f46 args h κ
noncomputable def S.DrawMostLeast_tree {α : Type} (code : List Int) (leaf0_ : List Int → α) (fail_ : α) : α :=
  (optC (S.l20Open_t code) (fun c_1 => (optC (S.l20Net_t c_1.fst c_1.snd 9) (fun c_2 => (leaf0_ c_2.snd.snd)) fail_)) fail_)
theorem S.DrawMostLeast_tree_nat {α γ : Type} (g : α → γ) (code : List Int) (leaf0_ : List Int → α) (fail_ : α) : g (S.DrawMostLeast_tree code leaf0_ fail_) = S.DrawMostLeast_tree code (fun d => g (leaf0_ d)) (g fail_) := by
  unfold S.DrawMostLeast_tree; simp only [apply_cnd g, apply_optC g, apply_sumC g]
noncomputable def S.DrawMostLeast_t (code : List Int) : Option (List Int) := S.DrawMostLeast_tree code (fun d => some d) none
theorem S.DrawMostLeast_den (code : List Int) (κ : V → List E → R) : S.DrawMostLeast_F [.ro true (.ints .u8 code)] [] κ = optC (S.DrawMostLeast_t code) (fun (r : List Int) => κ (.own 0) [.row (.ints .i64 r)]) none := by
  have hu : S.DrawMostLeast_F [.ro true (.ints .u8 code)] [] κ = S.DrawMostLeast_tree code (fun d => κ (.own 0) [.row (.ints .i64 d)]) none := by
    kernel_rfl
  rw [hu]
  exact (S.DrawMostLeast_tree_nat (fun o => optC o (fun (r : List Int) => κ (.own 0) [.row (.ints .i64 r)]) none) code (fun d => some d) none).symm
noncomputable def S.DrawMostLeast_s : D.Spec where
  keep := true
  pure := false
  ds := [.int .u8]
  sp := fun args h κ => match args, h with
    | [.ro true (.ints .u8 code)], [] => optC (S.DrawMostLeast_t code) (fun (r : List Int) => κ (.own 0) [.row (.ints .i64 r)]) none
    | _, _ => none
theorem S.DrawMostLeast_ok : SpecOk Try.prog 46 S.DrawMostLeast_s := by
  refine SpecOk.of TDok mixed (T := S.DrawMostLeast_T) ?_ (ann := S.DrawMostLeast_ann) Try.func46 rfl (by decide +kernel) ?_ ?_ ?_
  · intro p hp
    simp only [S.DrawMostLeast_T, List.mem_cons, List.not_mem_nil, or_false] at hp
    rcases hp with rfl | rfl
    · exact S.l20Open_ok
    · exact S.l20Net_ok
  · intro args h κ r hh
    simp only [S.DrawMostLeast_s] at hh
    split at hh
    · exact (S.DrawMostLeast_den _ κ).trans hh
    · cases hh
  · intro args h κ r hh
    simp only [S.DrawMostLeast_s] at hh ⊢
    split at hh
    · exact optC_law2 (F := fun (r : List Int) κ => κ (.own 0) [.row (.ints .i64 r)]) (fun b κ r hb => ⟨_, _, hb, fun _ => rfl⟩) hh
    · cases hh
  · intro hh; cases hh

-- loop.example/guardsonnets/spec.l2Watch
noncomputable def S.l2Watch_T : List (Nat × D.Spec) := [(87, S.l1Near_s)]
def S.l2Watch_ann : Nat → List Nat × List Nat
  | _ => ([], [])
noncomputable def S.l2Watch_F (args : List V) (h : List E) (κ : V → List E → R) : R := funC TD (tableK S.l2Watch_T) S.l2Watch_ann (drawOk (tableP S.l2Watch_T)) FUEL Try.f91 args h κ
noncomputable def S.l2Watch_tree {α : Type} (net : List Int) (set_ : Int) (leaf0_ : Bool → α) (fail_ : α) : α :=
  (optC (S.l1Near_t net set_) (fun c_1 => (leaf0_ (bits BinOp.or IntKind.i64 set_ c_1 == IntKind.i64.wrap (IntKind.i64.wrap (1 * 2 ^ min (↑net.length : Int).toNat IntKind.i64.bits) - 1)))) fail_)
theorem S.l2Watch_tree_nat {α γ : Type} (g : α → γ) (net : List Int) (set_ : Int) (leaf0_ : Bool → α) (fail_ : α) : g (S.l2Watch_tree net set_ leaf0_ fail_) = S.l2Watch_tree net set_ (fun d => g (leaf0_ d)) (g fail_) := by
  unfold S.l2Watch_tree; simp only [apply_cnd g, apply_optC g, apply_sumC g]
noncomputable def S.l2Watch_t (net : List Int) (set_ : Int) : Option (Bool) := S.l2Watch_tree net set_ (fun d => some d) none
theorem S.l2Watch_den (net : List Int) (set_ : Int) (κ : V → List E → R) : S.l2Watch_F [.ro false (.ints .i64 net), .int .i64 set_] [] κ = optC (S.l2Watch_t net set_) (fun (r : Bool) => κ (.bool r) []) none := by
  have hu : S.l2Watch_F [.ro false (.ints .i64 net), .int .i64 set_] [] κ = S.l2Watch_tree net set_ (fun d => κ (.bool d) []) none := by
    kernel_rfl
  rw [hu]
  exact (S.l2Watch_tree_nat (fun o => optC o (fun (r : Bool) => κ (.bool r) []) none) net set_ (fun d => some d) none).symm
noncomputable def S.l2Watch_s : D.Spec where
  keep := false
  pure := true
  ds := [.int .i64, .invalid]
  sp := fun args h κ => match args, h with
    | [.ro false (.ints .i64 net), .int .i64 set_], [] => optC (S.l2Watch_t net set_) (fun (r : Bool) => κ (.bool r) []) none
    | _, _ => none
theorem S.l2Watch_ok : SpecOk Try.prog 91 S.l2Watch_s := by
  refine SpecOk.of TDok mixed (T := S.l2Watch_T) ?_ (ann := S.l2Watch_ann) Try.func91 rfl (by decide +kernel) ?_ ?_ ?_
  · intro p hp
    simp only [S.l2Watch_T, List.mem_cons, List.not_mem_nil, or_false] at hp
    rcases hp with rfl
    · exact S.l1Near_ok
  · intro args h κ r hh
    simp only [S.l2Watch_s] at hh
    split at hh
    · exact (S.l2Watch_den _ _ κ).trans hh
    · cases hh
  · intro args h κ r hh
    simp only [S.l2Watch_s] at hh ⊢
    split at hh
    · exact optC_law2 (F := fun (r : Bool) κ => κ (.bool r) []) (fun b κ r hb => ⟨_, _, hb, fun _ => rfl⟩) hh
    · cases hh
  · intro _ args h κ r hh
    simp only [S.l2Watch_s] at hh
    split at hh
    · exact ⟨rfl, fun _ => rfl⟩
    · cases hh

-- loop.example/guardsonnets/spec.l2Least
noncomputable def S.l2Least_T : List (Nat × D.Spec) := [(91, S.l2Watch_s)]
def S.l2Least_ann : Nat → List Nat × List Nat
  | 2 => ([0, 1, 5], [0, 1, 4])
  | _ => ([], [])
noncomputable def S.l2Least_F (args : List V) (h : List E) (κ : V → List E → R) : R := funC TD (tableK S.l2Least_T) S.l2Least_ann (drawOk (tableP S.l2Least_T)) FUEL Try.f78 args h κ
noncomputable def S.l2Least_L2 (n : Nat) (σ : St) (k : X → St → R) : R := iterC 0 (fun σ k => denC TD (tableK S.l2Least_T) S.l2Least_ann (drawOk (tableP S.l2Least_T)) 0 FUEL ((findLoop 2 (Try.f78.body.getD .skip)).getD .skip) σ k) [0, 1, 5] [0, 1, 4] n σ k
noncomputable def S.l2Least_k2 (κ : V → List E → R) : X → St → R := (afterC TD (tableK S.l2Least_T) S.l2Least_ann (drawOk (tableP S.l2Least_T)) 0 FUEL 2 (Try.f78.body.getD .skip) (finC TD 0 Try.f78 κ)).getD (fun _ _ => none)
noncomputable def S.l2Least_step2 {α : Type} (x0 : List Int) (x1 : Int) (x5 : Int) (next_ : Int → α) (out0_ : Bool → α) (out1_ : Unit → α) (fail_ : α) : α :=
  (bif decide (x5 < (↑x0.length : Int)) then (bif decide (x5 < 0) then fail_ else (bif (x1.fdiv (2 ^ min x5.toNat IntKind.i64.bits)).tmod 2 == 1 then (bif decide (x5 < 0) then fail_ else (optC (S.l2Watch_t x0 (IntKind.i64.wrap (x1 - IntKind.i64.wrap (1 * 2 ^ min x5.toNat IntKind.i64.bits)))) (fun c_1 => (bif c_1 then (out0_ false) else (next_ (IntKind.i64.wrap (x5 + 1))))) fail_)) else (next_ (IntKind.i64.wrap (x5 + 1))))) else (out1_ ()))
theorem S.l2Least_step2_nat {α γ : Type} (g : α → γ) (x0 : List Int) (x1 : Int) (x5 : Int) (next_ : Int → α) (out0_ : Bool → α) (out1_ : Unit → α) (fail_ : α) : g (S.l2Least_step2 x0 x1 x5 next_ out0_ out1_ fail_) = S.l2Least_step2 x0 x1 x5 (fun s => g (next_ s)) (fun d => g (out0_ d)) (fun d => g (out1_ d)) (g fail_) := by
  unfold S.l2Least_step2; simp only [apply_cnd g, apply_optC g, apply_sumC g]
noncomputable def S.l2Least_run2 (x0 : List Int) (x1 : Int) : Nat → Int → Option ((Bool) ⊕ (Unit))
  | 0, _ => none
  | n + 1, s_ => S.l2Least_step2 x0 x1 s_ (S.l2Least_run2 x0 x1 n) (fun d => some ((Sum.inl d))) (fun d => some ((Sum.inr d))) none
theorem S.l2Least_L2_run (x0 : List Int) (x1 : Int) (n : Nat) (s_ : Int) (k : X → St → R) : S.l2Least_L2 n { n := 28, t := [(0, (.ro false (.ints .i64 x0))), (1, (.int .i64 x1)), (5, (.int .i64 s_))], h := [] } k = optC (S.l2Least_run2 x0 x1 n s_) (fun (r : (Bool) ⊕ (Unit)) => (sumC r (fun (r : Bool) => k (.ret) { n := 28, t := [(0, (.ro false (.ints .i64 x0))), (1, (.int .i64 x1)), (4, (.bool r))], h := [] }) (fun (r : Unit) => k (.exit 0) { n := 28, t := [(0, (.ro false (.ints .i64 x0))), (1, (.int .i64 x1)), (4, .junk)], h := [] }))) none := by
  induction n generalizing s_ with
  | zero => rfl
  | succ n ih =>
    have hu : S.l2Least_L2 (n + 1) { n := 28, t := [(0, (.ro false (.ints .i64 x0))), (1, (.int .i64 x1)), (5, (.int .i64 s_))], h := [] } k = S.l2Least_step2 x0 x1 s_ (fun s_ => S.l2Least_L2 n { n := 28, t := [(0, (.ro false (.ints .i64 x0))), (1, (.int .i64 x1)), (5, (.int .i64 s_))], h := [] } k) (fun d => k (.ret) { n := 28, t := [(0, (.ro false (.ints .i64 x0))), (1, (.int .i64 x1)), (4, (.bool d))], h := [] }) (fun d => k (.exit 0) { n := 28, t := [(0, (.ro false (.ints .i64 x0))), (1, (.int .i64 x1)), (4, .junk)], h := [] }) none := by
      kernel_rfl
    have hs : (fun s_ : Int => S.l2Least_L2 n { n := 28, t := [(0, (.ro false (.ints .i64 x0))), (1, (.int .i64 x1)), (5, (.int .i64 s_))], h := [] } k) = fun s_ => optC (S.l2Least_run2 x0 x1 n s_) (fun (r : (Bool) ⊕ (Unit)) => (sumC r (fun (r : Bool) => k (.ret) { n := 28, t := [(0, (.ro false (.ints .i64 x0))), (1, (.int .i64 x1)), (4, (.bool r))], h := [] }) (fun (r : Unit) => k (.exit 0) { n := 28, t := [(0, (.ro false (.ints .i64 x0))), (1, (.int .i64 x1)), (4, .junk)], h := [] }))) none := funext ih
    rw [hu, hs]
    exact (S.l2Least_step2_nat (fun o => optC o (fun (r : (Bool) ⊕ (Unit)) => (sumC r (fun (r : Bool) => k (.ret) { n := 28, t := [(0, (.ro false (.ints .i64 x0))), (1, (.int .i64 x1)), (4, (.bool r))], h := [] }) (fun (r : Unit) => k (.exit 0) { n := 28, t := [(0, (.ro false (.ints .i64 x0))), (1, (.int .i64 x1)), (4, .junk)], h := [] }))) none) x0 x1 s_ (S.l2Least_run2 x0 x1 n) (fun d => some ((Sum.inl d))) (fun d => some ((Sum.inr d))) none).symm
noncomputable def S.l2Least_tree {α : Type} (net : List Int) (set_ : Int) (leaf0_ : Bool → α) (fail_ : α) : α :=
  (optC (S.l2Least_run2 net set_ FUEL 0) (fun qy_2 => (sumC qy_2 (fun (qy_2 : Bool) => (leaf0_ qy_2)) (fun (qy_2 : Unit) => (optC (S.l2Watch_t net set_) (fun c_3 => (leaf0_ c_3)) fail_)))) fail_)
theorem S.l2Least_tree_nat {α γ : Type} (g : α → γ) (net : List Int) (set_ : Int) (leaf0_ : Bool → α) (fail_ : α) : g (S.l2Least_tree net set_ leaf0_ fail_) = S.l2Least_tree net set_ (fun d => g (leaf0_ d)) (g fail_) := by
  unfold S.l2Least_tree; simp only [apply_cnd g, apply_optC g, apply_sumC g]
noncomputable def S.l2Least_t (net : List Int) (set_ : Int) : Option (Bool) := S.l2Least_tree net set_ (fun d => some d) none
theorem S.l2Least_den (net : List Int) (set_ : Int) (κ : V → List E → R) : S.l2Least_F [.ro false (.ints .i64 net), .int .i64 set_] [] κ = optC (S.l2Least_t net set_) (fun (r : Bool) => κ (.bool r) []) none := by
  have hu : S.l2Least_F [.ro false (.ints .i64 net), .int .i64 set_] [] κ = S.l2Least_tree net set_ (fun d => κ (.bool d) []) none := by
    refine Eq.trans (show S.l2Least_F [.ro false (.ints .i64 net), .int .i64 set_] [] κ = (S.l2Least_L2 FUEL { n := 28, t := [(0, (.ro false (.ints .i64 net))), (1, (.int .i64 set_)), (5, (.int .i64 0))], h := [] } (S.l2Least_k2 κ)) by kernel_rfl) ?_
    refine (S.l2Least_L2_run net set_ FUEL 0 (S.l2Least_k2 κ)).trans (optC_congr (fun qy_2 => ?_))
    rcases qy_2 with qy_2 | qy_2
    · kernel_rfl
    · kernel_rfl
  rw [hu]
  exact (S.l2Least_tree_nat (fun o => optC o (fun (r : Bool) => κ (.bool r) []) none) net set_ (fun d => some d) none).symm
noncomputable def S.l2Least_s : D.Spec where
  keep := false
  pure := true
  ds := [.int .i64, .invalid]
  sp := fun args h κ => match args, h with
    | [.ro false (.ints .i64 net), .int .i64 set_], [] => optC (S.l2Least_t net set_) (fun (r : Bool) => κ (.bool r) []) none
    | _, _ => none
theorem S.l2Least_ok : SpecOk Try.prog 78 S.l2Least_s := by
  refine SpecOk.of TDok mixed (T := S.l2Least_T) ?_ (ann := S.l2Least_ann) Try.func78 rfl (by decide +kernel) ?_ ?_ ?_
  · intro p hp
    simp only [S.l2Least_T, List.mem_cons, List.not_mem_nil, or_false] at hp
    rcases hp with rfl
    · exact S.l2Watch_ok
  · intro args h κ r hh
    simp only [S.l2Least_s] at hh
    split at hh
    · exact (S.l2Least_den _ _ κ).trans hh
    · cases hh
  · intro args h κ r hh
    simp only [S.l2Least_s] at hh ⊢
    split at hh
    · exact optC_law2 (F := fun (r : Bool) κ => κ (.bool r) []) (fun b κ r hb => ⟨_, _, hb, fun _ => rfl⟩) hh
    · cases hh
  · intro _ args h κ r hh
    simp only [S.l2Least_s] at hh
    split at hh
    · exact ⟨rfl, fun _ => rfl⟩
    · cases hh

-- loop.example/guardsonnets/spec.MostLeast
noncomputable def S.MostLeast_T : List (Nat × D.Spec) := [(58, S.NetOk_s), (78, S.l2Least_s), (65, S.l1Size_s)]
def S.MostLeast_ann : Nat → List Nat × List Nat
  | 5 => ([0, 3, 4], [3])
  | _ => ([], [])
noncomputable def S.MostLeast_F (args : List V) (h : List E) (κ : V → List E → R) : R := funC TD (tableK S.MostLeast_T) S.MostLeast_ann (drawOk (tableP S.MostLeast_T)) FUEL Try.f47 args h κ
noncomputable def S.MostLeast_L5 (n : Nat) (σ : St) (k : X → St → R) : R := iterC 0 (fun σ k => denC TD (tableK S.MostLeast_T) S.MostLeast_ann (drawOk (tableP S.MostLeast_T)) 0 FUEL ((findLoop 5 (Try.f47.body.getD .skip)).getD .skip) σ k) [0, 3, 4] [3] n σ k
noncomputable def S.MostLeast_k5 (κ : V → List E → R) : X → St → R := (afterC TD (tableK S.MostLeast_T) S.MostLeast_ann (drawOk (tableP S.MostLeast_T)) 0 FUEL 5 (Try.f47.body.getD .skip) (finC TD 0 Try.f47 κ)).getD (fun _ _ => none)
noncomputable def S.MostLeast_step5 {α : Type} (x0 : List Int) (x3 : Int) (x4 : Int) (next_ : Int × Int → α) (out0_ : Int → α) (fail_ : α) : α :=
  (bif decide (x4 < IntKind.i64.wrap (1 * 2 ^ min (↑x0.length : Int).toNat IntKind.i64.bits)) then (optC (S.l2Least_t x0 x4) (fun c_2 => (bif c_2 then (optC (S.l1Size_t x4) (fun c_3 => (next_ (if c_3 > x3 then c_3 else x3, IntKind.i64.wrap (x4 + 1)))) fail_) else (next_ (x3, IntKind.i64.wrap (x4 + 1))))) fail_) else (out0_ x3))
theorem S.MostLeast_step5_nat {α γ : Type} (g : α → γ) (x0 : List Int) (x3 : Int) (x4 : Int) (next_ : Int × Int → α) (out0_ : Int → α) (fail_ : α) : g (S.MostLeast_step5 x0 x3 x4 next_ out0_ fail_) = S.MostLeast_step5 x0 x3 x4 (fun s => g (next_ s)) (fun d => g (out0_ d)) (g fail_) := by
  unfold S.MostLeast_step5; simp only [apply_cnd g, apply_optC g, apply_sumC g]
noncomputable def S.MostLeast_run5 (x0 : List Int) : Nat → Int × Int → Option (Int)
  | 0, _ => none
  | n + 1, s_ => S.MostLeast_step5 x0 s_.1 s_.2 (S.MostLeast_run5 x0 n) (fun d => some d) none
theorem S.MostLeast_L5_run (x0 : List Int) (n : Nat) (s_ : Int × Int) (k : X → St → R) : S.MostLeast_L5 n { n := 23, t := [(0, (.ro false (.ints .i64 x0))), (3, (.int .i64 s_.1)), (4, (.int .i64 s_.2))], h := [] } k = optC (S.MostLeast_run5 x0 n s_) (fun (r : Int) => k (.exit 0) { n := 23, t := [(3, (.int .i64 r))], h := [] }) none := by
  induction n generalizing s_ with
  | zero => rfl
  | succ n ih =>
    have hu : S.MostLeast_L5 (n + 1) { n := 23, t := [(0, (.ro false (.ints .i64 x0))), (3, (.int .i64 s_.1)), (4, (.int .i64 s_.2))], h := [] } k = S.MostLeast_step5 x0 s_.1 s_.2 (fun s_ => S.MostLeast_L5 n { n := 23, t := [(0, (.ro false (.ints .i64 x0))), (3, (.int .i64 s_.1)), (4, (.int .i64 s_.2))], h := [] } k) (fun d => k (.exit 0) { n := 23, t := [(3, (.int .i64 d))], h := [] }) none := by
      kernel_rfl
    have hs : (fun s_ : Int × Int => S.MostLeast_L5 n { n := 23, t := [(0, (.ro false (.ints .i64 x0))), (3, (.int .i64 s_.1)), (4, (.int .i64 s_.2))], h := [] } k) = fun s_ => optC (S.MostLeast_run5 x0 n s_) (fun (r : Int) => k (.exit 0) { n := 23, t := [(3, (.int .i64 r))], h := [] }) none := funext ih
    rw [hu, hs]
    exact (S.MostLeast_step5_nat (fun o => optC o (fun (r : Int) => k (.exit 0) { n := 23, t := [(3, (.int .i64 r))], h := [] }) none) x0 s_.1 s_.2 (S.MostLeast_run5 x0 n) (fun d => some d) none).symm
noncomputable def S.MostLeast_tree {α : Type} (net : List Int) (leaf0_ : Int → α) (fail_ : α) : α :=
  (optC (S.NetOk_t net) (fun c_1 => (bif !c_1 then (leaf0_ (-1)) else (optC (S.MostLeast_run5 net FUEL (0, 0)) (fun qy_4 => (leaf0_ qy_4)) fail_))) fail_)
theorem S.MostLeast_tree_nat {α γ : Type} (g : α → γ) (net : List Int) (leaf0_ : Int → α) (fail_ : α) : g (S.MostLeast_tree net leaf0_ fail_) = S.MostLeast_tree net (fun d => g (leaf0_ d)) (g fail_) := by
  unfold S.MostLeast_tree; simp only [apply_cnd g, apply_optC g, apply_sumC g]
noncomputable def S.MostLeast_t (net : List Int) : Option (Int) := S.MostLeast_tree net (fun d => some d) none
theorem S.MostLeast_den (net : List Int) (κ : V → List E → R) : S.MostLeast_F [.ro false (.ints .i64 net)] [] κ = optC (S.MostLeast_t net) (fun (r : Int) => κ (.int .i64 r) []) none := by
  have hu : S.MostLeast_F [.ro false (.ints .i64 net)] [] κ = S.MostLeast_tree net (fun d => κ (.int .i64 d) []) none := by
    refine Eq.trans (show S.MostLeast_F [.ro false (.ints .i64 net)] [] κ = (optC (S.NetOk_t net) (fun c_1 => (bif !c_1 then (κ (.int .i64 (-1)) []) else (S.MostLeast_L5 FUEL { n := 23, t := [(0, (.ro false (.ints .i64 net))), (3, (.int .i64 0)), (4, (.int .i64 0))], h := [] } (S.MostLeast_k5 κ)))) none) by kernel_rfl) ?_
    refine optC_congr (fun c_1 => ?_)
    refine cnd_congr ?_ ?_
    · kernel_rfl
    · refine (S.MostLeast_L5_run net FUEL (0, 0) (S.MostLeast_k5 κ)).trans (optC_congr (fun qy_4 => ?_))
      kernel_rfl
  rw [hu]
  exact (S.MostLeast_tree_nat (fun o => optC o (fun (r : Int) => κ (.int .i64 r) []) none) net (fun d => some d) none).symm
noncomputable def S.MostLeast_s : D.Spec where
  keep := false
  pure := true
  ds := [.int .i64]
  sp := fun args h κ => match args, h with
    | [.ro false (.ints .i64 net)], [] => optC (S.MostLeast_t net) (fun (r : Int) => κ (.int .i64 r) []) none
    | _, _ => none
theorem S.MostLeast_ok : SpecOk Try.prog 47 S.MostLeast_s := by
  refine SpecOk.of TDok mixed (T := S.MostLeast_T) ?_ (ann := S.MostLeast_ann) Try.func47 rfl (by decide +kernel) ?_ ?_ ?_
  · intro p hp
    simp only [S.MostLeast_T, List.mem_cons, List.not_mem_nil, or_false] at hp
    rcases hp with rfl | rfl | rfl
    · exact S.NetOk_ok
    · exact S.l2Least_ok
    · exact S.l1Size_ok
  · intro args h κ r hh
    simp only [S.MostLeast_s] at hh
    split at hh
    · exact (S.MostLeast_den _ κ).trans hh
    · cases hh
  · intro args h κ r hh
    simp only [S.MostLeast_s] at hh ⊢
    split at hh
    · exact optC_law2 (F := fun (r : Int) κ => κ (.int .i64 r) []) (fun b κ r hb => ⟨_, _, hb, fun _ => rfl⟩) hh
    · cases hh
  · intro _ args h κ r hh
    simp only [S.MostLeast_s] at hh
    split at hh
    · exact ⟨rfl, fun _ => rfl⟩
    · cases hh


end Go.Proofs.Ytonbbeplmjidnaa
