/- Any tokens are written by codes of their own as one dynamic block that tells what they tell, as the document reads it, or refused as the document refuses them: DeflateDynamic returns true for every input. Condition: the package-level variable header.order holds what the program's text lays (the card ties it to that text). -/
import Derived.Test.YtmgpcbjciioiaaaGreatDoorDdynw
import Derived.Test.YtmgpcbjciioiaaaGreatDoorDtis
import Derived.Test.YtmgpcbjciioiaaaGreatDoorDlaid
import Derived.Test.YtmgpcbjciioiaaaGreatDoorCarg
import Derived.Test.YtmgpcbjciioiaaaGreatDoorTie
import Derived.Test.YtmgpcbjciioiaaaGreatDoorCards
namespace Go.Proofs.YtmgpcbjciioiaaaGreatDoor
set_option maxRecDepth 100000
set_option maxHeartbeats 8000000
open Go.ChangeShapes Go.WideShapes Go.ChangeAt Go.RowKit Go.Joins
theorem deflateDynamic_walk (v : Value) (l : List Ti) (W : World) (hs : Tis W v l) (h8 : ∀ t ∈ l,t.lit < 256) (_ : l.length <= 9223372036854775807) (hz : ∀ n c,v = .slice none n c -> c = 0) (hg : Glob W) :
  Calls Tryz.prog 5 #[v] W fun e w' => e = .returned (.bool true) /\ Below W.heap.size W w' := by
 obtain ⟨a,c,rfl⟩ : ∃ a c,v = .slice a l.length c := by obtain ⟨a,c,e,_⟩ := hs; exact ⟨a,c,e⟩
 by_cases h1 : 300 < l.length
 ·exact ddy_out a _ c W hg h1
 ·have hnil : a = none -> c = 0 := fun e => hz _ _ (by rw [e])
  have hsc := Ti.scan_is (most := 65536) l [] h8 If.Toks.nil (Nat.zero_le _)
  simp only [List.nil_append] at hsc
  generalize Ti.scan 65536 l (If.tell []) = q at hsc
  obtain ⟨q1,q2⟩ := q
  simp only at hsc
  rcases hsc with ⟨_,us,rfl,h2,h3,_⟩ | ⟨h2,_,us,t,rest,rfl,h3,h4,h5,h6⟩
  ·exact ddy_in a _ c us W hg hs hnil rfl (Nat.le_of_not_lt h1) h2 h3
  ·exact ddy_bad a _ c us t rest W hg hs hnil rfl (Nat.le_of_not_lt h1) h3 h4 h5 q1 h6 h2
theorem deflateDynamic_lifted (os : Os) (started : os.Started) (H : Type) (enc : TypeId × Value -> H) :
  ReturnsInHanded {} Tryz.checked os 5 .any (fun w args => (Rows.deflateDynamicSpec.pre enc Tryz.prog Tryz.f5 [] false w args /\ laidMetH Tryz.prog laid1 w) /\ sizedMet enc Tryz.prog Tryz.f5 (OpenSpec.ofChange Rows.deflateDynamicSpec) false w args) (Rows.deflateDynamicSpec.post enc Tryz.prog Tryz.f5 false true false false) := by
 refine returnsInHanded_of_change_and (C := Tryz.checked) (X := fun w _ => laidMetH Tryz.prog laid1 w) (fun _ _ _ hh h => h.of_heap hh) Tryz.own started (by kernel_rfl) Tryz.func5
  (ChangeSpec.witness_shaped (enc := enc) (C := Tryz.checked) (os := os) (X := fun w _ => laidMetH Tryz.prog laid1 w) false (World.doorLaid Tryz.prog 400 os) #[.slice none 0 0] 8 rfl (World.shaped_of_RefB (by kernel_rfl) (by kernel_rfl)) (by kernel_rfl) (by kernel_rfl) (by kernel_rfl) (door_met1 os _)) ?_
 intro W base args ds gs before hval0 hW _ hsz0 hL _
 have hval : ∀ (j : Nat) t v,Tryz.f5.params[j]? = some t -> args[j]? = some v -> Value.okWide Tryz.prog W .any base t v := hval0
 have hsz : (DataW.weightsEach Tryz.prog (Tryz.f5.params.toList ++ Rows.deflateDynamicSpec.plain.varTypes Tryz.prog) (ds ++ gs)).all (· <= reachBytes) = true := hsz0
 have hW' := hW
 obtain ⟨p,q,hA0,hV,rfl,hfz,hnd⟩ := hW
 have hA : DataW.TrodAll enc Tryz.prog W 0 (fun _ => true) true Tryz.f5.params.toList args.toList ds p := hA0
 rw [Tryz.params5] at hA hval hsz
 obtain ⟨v0,vs0,d0,ds0,p0,q0,hargs,rfl,rfl,h0,r0⟩ := trodAll_cons hA
 obtain ⟨rfl,rfl,rfl⟩ := trodAll_nil r0
 obtain rfl : args = #[v0] := by cases args; simp_all
 obtain ⟨rfl,rfl⟩ := trodVars_none hV
 have k0 := h0
 have lt0 : ∀ x ∈ p0,x.block < W.heap.size := by obtain ⟨m,hm⟩ := k0; exact DataW.trod_lt m _ _ _ hm
 obtain ⟨ts0,tl0,t80,tn0,tz0⟩ := tis_open (hval 0 30 v0 rfl rfl) h0
 clear hA0 hval0 hsz0
 refine (deflateDynamic_walk v0 ts0 W tl0 t80 tn0 tz0 (glob_of_laid hL)).mono fun e W' ⟨he,bel⟩ => ?_
 subst he
 exact ⟨_,rfl,_,_,_,[],_,[],hW',trodAll_mk1 (shut_bool Tryz.underlying4 _),(trodAll_cons_mk (Below.trod Tryz.laidOut (by kernel_rfl) (of_decide_eq_true (by kernel_rfl)) k0 bel lt0) trodAll_mk0),rfl,bel.frame _,fun h => by cases h⟩
theorem deflateDynamic_holds : Rows.DeflateDynamicSaid :=
 OpenClaim.holds_of_wide 5 Tryz.f5 rfl rfl rfl rfl rfl rfl rfl ⟨rfl,rfl,rfl,rfl,rfl⟩ rfl rfl rfl rfl rfl (by kernel_rfl) Tryz.func5 (by kernel_rfl)
  (of_decide_eq_true (by kernel_rfl)) (by unfold Func.isWrapper; rw [if_neg (of_decide_eq_false (by kernel_rfl))]; exact ⟨rfl,rfl⟩)
  (fun os started H enc _ => deflateDynamic_lifted os started H enc)
theorem deflateDynamic_proved : Rows.DeflateDynamicCardSaid :=
 Claim7.holds_tied_plain_at .later [] [.data] true Rows.deflateDynamicCard.stood.harness true
  deflateDynamic_holds (fun _ h => by cases h) (by kernel_rfl) (fun _ h => by cases h) deflateDynamic_row_tie rfl ⟨rfl,rfl⟩ (by kernel_rfl) rfl
  (fun f fn hf hfn => by
   obtain rfl : f = 5 := Option.some.inj ((show Tryz.prog.funcNamed "valise/valiselaw10.DeflateDynamic" = some 5 by kernel_rfl).symm.trans hf) |>.symm
   obtain rfl : fn = Tryz.f5 := (Option.some.inj (Tryz.func5.symm.trans hfn)).symm
   refine ⟨by kernel_rfl,fun j t ht => ?_⟩
   rw [Tryz.params5] at ht
   have hm := Array.mem_of_getElem? ht
   have hm2 : t = 30 := by simpa using hm
   subst hm2
   exact (show Tryz.prog.wantsStandIn 30 = false by kernel_rfl))
  (by kernel_rfl)
end Go.Proofs.YtmgpcbjciioiaaaGreatDoor
