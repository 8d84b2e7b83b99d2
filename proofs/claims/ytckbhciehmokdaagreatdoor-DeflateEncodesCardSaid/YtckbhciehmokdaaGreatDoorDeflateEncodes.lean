/- Any bytes have a stream that tells them, as the document reads it, all of whose bytes are used and no longer than if they were stored, or are refused: DeflateEncodes returns true for every input. Condition: the package-level variable header.order holds what the program's text lays (the card ties it to that text). -/
import Derived.Test.YtckbhciehmokdaaGreatDoorDencw
import Derived.Test.YtckbhciehmokdaaGreatDoorDlaid
import Derived.Test.YtckbhciehmokdaaGreatDoorCarg
import Derived.Test.YtckbhciehmokdaaGreatDoorCcap
import Derived.Test.YtckbhciehmokdaaGreatDoorTie
import Derived.Test.YtckbhciehmokdaaGreatDoorCards
namespace Go.Proofs.YtckbhciehmokdaaGreatDoor
set_option maxRecDepth 100000
set_option maxHeartbeats 8000000
open Go.ChangeShapes Go.WideShapes Go.ChangeAt Go.RowKit Go.Joins
theorem deflateEncodes_walk (v : Value) (bs : List Nat) (d : Int) (W : World) (hs : Sl W v bs) (h9 : bs.length <= 140737488351232) (hc : Capped v) (_ : -9223372036854775808 <= d) (_ : d <= 9223372036854775807) (hg : Glob W) :
  Calls Tryz.prog 6 #[v,.int .i64 d] W fun e w' => e = .returned (.bool true) /\ Below W.heap.size W w' := by
 obtain ⟨a,n,c,rfl,hlen⟩ := hs.shape
 have hcp := hc _ _ _ rfl
 by_cases h1 : 65536 < n
 ·exact enc_large a n c d bs W hg hs h1 (by omega)
 ·by_cases h2 : 600 < n
  ·exact enc_out a n c d W hg h2 (by omega)
  ·by_cases h3 : d < 1 ∨ 4096 < d
   ·exact enc_arg a n c d bs W hg hs (by omega) h3
   ·have := enc_in a n c d.toNat bs W hg hs hcp (by omega) (by omega) (by omega)
    rwa [show ((d.toNat : Nat) : Int) = d by omega] at this
theorem deflateEncodes_lifted (os : Os) (started : os.Started) (H : Type) (enc : TypeId × Value -> H) :
  ReturnsInHanded {} Tryz.checked os 6 .any (fun w args => (Rows.deflateEncodesSpec.pre enc Tryz.prog Tryz.f6 [] false w args /\ laidMetH Tryz.prog laid1 w) /\ sizedMet enc Tryz.prog Tryz.f6 (OpenSpec.ofChange Rows.deflateEncodesSpec) false w args) (Rows.deflateEncodesSpec.post enc Tryz.prog Tryz.f6 false true false false) := by
 refine returnsInHanded_of_change_and (C := Tryz.checked) (X := fun w _ => laidMetH Tryz.prog laid1 w) (fun _ _ _ hh h => h.of_heap hh) Tryz.own started (by kernel_rfl) Tryz.func6
  (ChangeSpec.witness_shaped (enc := enc) (C := Tryz.checked) (os := os) (X := fun w _ => laidMetH Tryz.prog laid1 w) false (World.doorLaid Tryz.prog 400 os) #[.slice none 0 0,.int .i64 0] 8 rfl (World.shaped_of_RefB (by kernel_rfl) (by kernel_rfl)) (by kernel_rfl) (by kernel_rfl) (by kernel_rfl) (door_met1 os _)) ?_
 intro W base args ds gs before hval0 hW _ hsz0 hL _
 have hval : ∀ (j : Nat) t v,Tryz.f6.params[j]? = some t -> args[j]? = some v -> Value.okWide Tryz.prog W .any base t v := hval0
 have hsz : (DataW.weightsEach Tryz.prog (Tryz.f6.params.toList ++ Rows.deflateEncodesSpec.plain.varTypes Tryz.prog) (ds ++ gs)).all (· <= reachBytes) = true := hsz0
 have hW' := hW
 obtain ⟨p,q,hA0,hV,rfl,hfz,hnd⟩ := hW
 have hA : DataW.TrodAll enc Tryz.prog W 0 (fun _ => true) true Tryz.f6.params.toList args.toList ds p := hA0
 rw [Tryz.params6] at hA hval hsz
 obtain ⟨v0,vs0,d0,ds0,p0,q0,hargs,rfl,rfl,h0,r0⟩ := trodAll_cons hA
 obtain ⟨v1,vs1,d1,ds1,p1,q1,rfl,rfl,rfl,h1,r1⟩ := trodAll_cons r0
 obtain ⟨rfl,rfl,rfl⟩ := trodAll_nil r1
 obtain rfl : args = #[v0,v1] := by cases args; simp_all
 obtain ⟨rfl,rfl⟩ := trodVars_none hV
 have k0 := h0
 have lt0 : ∀ x ∈ p0,x.block < W.heap.size := by obtain ⟨m,hm⟩ := k0; exact DataW.trod_lt m _ _ _ hm
 have w0 : ∀ n ∈ d0.weights Tryz.prog 22,n <= reachBytes := fun n hn => by simpa using List.all_eq_true.1 hsz n (DataW.weights_mem_each (j := 0) rfl rfl n hn)
 obtain ⟨bs0,sl0,ln0⟩ := bytes_open (hval 0 22 v0 rfl rfl) h0 w0
 have cp0 := bytes_cap (hval 0 22 v0 rfl rfl) h0
 have k1 := h1
 have lt1 : ∀ x ∈ p1,x.block < W.heap.size := by obtain ⟨m,hm⟩ := k1; exact DataW.trod_lt m _ _ _ hm
 obtain ⟨n1,ev1,_,_,wn1⟩ := open_int Tryz.underlying3 (hval 1 3 v1 rfl rfl) h1
 subst ev1
 obtain ⟨lo1,hi1⟩ := wf_bounds wn1
 clear hA0 hval0 hsz0
 refine (deflateEncodes_walk v0 bs0 n1 W sl0 ln0 cp0 lo1 hi1 (glob_of_laid hL)).mono fun e W' ⟨he,bel⟩ => ?_
 subst he
 exact ⟨_,rfl,_,_,_,[],_,[],hW',trodAll_mk1 (shut_bool Tryz.underlying4 _),(trodAll_cons_mk (Below.trod Tryz.laidOut (by kernel_rfl) (of_decide_eq_true (by kernel_rfl)) k0 bel lt0) (trodAll_cons_mk (Below.trod Tryz.laidOut (by kernel_rfl) (of_decide_eq_true (by kernel_rfl)) k1 bel lt1) trodAll_mk0)),rfl,bel.frame _,fun h => by cases h⟩
theorem deflateEncodes_holds : Rows.DeflateEncodesSaid :=
 OpenClaim.holds_of_wide 6 Tryz.f6 rfl rfl rfl rfl rfl rfl rfl ⟨rfl,rfl,rfl,rfl,rfl⟩ rfl rfl rfl rfl rfl (by kernel_rfl) Tryz.func6 (by kernel_rfl)
  (of_decide_eq_true (by kernel_rfl)) (by unfold Func.isWrapper; rw [if_neg (of_decide_eq_false (by kernel_rfl))]; exact ⟨rfl,rfl⟩)
  (fun os started H enc _ => deflateEncodes_lifted os started H enc)
theorem deflateEncodes_proved : Rows.DeflateEncodesCardSaid :=
 Claim7.holds_tied_plain_at .later [] [.data] true Rows.deflateEncodesCard.stood.harness true
  deflateEncodes_holds (fun _ h => by cases h) (by kernel_rfl) (fun _ h => by cases h) deflateEncodes_row_tie rfl ⟨rfl,rfl⟩ (by kernel_rfl) rfl
  (fun f fn hf hfn => by
   obtain rfl : f = 6 := Option.some.inj ((show Tryz.prog.funcNamed "valise/valiselaw10.DeflateEncodes" = some 6 by kernel_rfl).symm.trans hf) |>.symm
   obtain rfl : fn = Tryz.f6 := (Option.some.inj (Tryz.func6.symm.trans hfn)).symm
   refine ⟨by kernel_rfl,fun j t ht => ?_⟩
   rw [Tryz.params6] at ht
   have hm := Array.mem_of_getElem? ht
   have hm2 : t = 22 ∨ t = 3 := by simp at hm; rcases hm with rfl | rfl <;> simp
   rcases hm2 with rfl | rfl
   ·exact (show Tryz.prog.wantsStandIn 22 = false by kernel_rfl)
   ·exact (show Tryz.prog.wantsStandIn 3 = false by kernel_rfl))
  (by kernel_rfl)
end Go.Proofs.YtckbhciehmokdaaGreatDoor
