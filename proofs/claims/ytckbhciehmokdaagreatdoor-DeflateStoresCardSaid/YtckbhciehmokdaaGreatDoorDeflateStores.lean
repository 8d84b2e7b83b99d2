/- Any bytes are stored as the document says, byte by byte, in memory of their own, or refused: DeflateStores returns true for every input. Condition: the package-level variable header.order holds what the program's text lays (the card ties it to that text). -/
import Derived.Test.YtckbhciehmokdaaGreatDoorDstow
import Derived.Test.YtckbhciehmokdaaGreatDoorDlaid
import Derived.Test.YtckbhciehmokdaaGreatDoorCarg
import Derived.Test.YtckbhciehmokdaaGreatDoorCcap
import Derived.Test.YtckbhciehmokdaaGreatDoorTie
import Derived.Test.YtckbhciehmokdaaGreatDoorCards
namespace Go.Proofs.YtckbhciehmokdaaGreatDoor
set_option maxRecDepth 100000
set_option maxHeartbeats 8000000
open Go.ChangeShapes Go.WideShapes Go.ChangeAt Go.RowKit Go.Joins
theorem deflateStores_walk (v : Value) (bs : List Nat) (W : World) (hs : Sl W v bs) (h9 : bs.length <= 140737488351232) (hc : Capped v) (hg : Glob W) :
  Calls Tryz.prog 3 #[v] W fun e w' => e = .returned (.bool true) /\ Below W.heap.size W w' := by
 obtain ⟨a,n,c,rfl,hlen⟩ := hs.shape
 have hcp := hc _ _ _ rfl
 by_cases h1 : 65536 < n
 ·exact sto_large a n c bs W hg hs h1 (by omega)
 ·exact sto_in a n c bs W hg hs hcp (by omega)
theorem deflateStores_lifted (os : Os) (started : os.Started) (H : Type) (enc : TypeId × Value -> H) :
  ReturnsInHanded {} Tryz.checked os 3 .any (fun w args => (Rows.deflateStoresSpec.pre enc Tryz.prog Tryz.f3 [] false w args /\ laidMetH Tryz.prog laid1 w) /\ sizedMet enc Tryz.prog Tryz.f3 (OpenSpec.ofChange Rows.deflateStoresSpec) false w args) (Rows.deflateStoresSpec.post enc Tryz.prog Tryz.f3 false true false false) := by
 refine returnsInHanded_of_change_and (C := Tryz.checked) (X := fun w _ => laidMetH Tryz.prog laid1 w) (fun _ _ _ hh h => h.of_heap hh) Tryz.own started (by kernel_rfl) Tryz.func3
  (ChangeSpec.witness_shaped (enc := enc) (C := Tryz.checked) (os := os) (X := fun w _ => laidMetH Tryz.prog laid1 w) false (World.doorLaid Tryz.prog 400 os) #[.slice none 0 0] 8 rfl (World.shaped_of_RefB (by kernel_rfl) (by kernel_rfl)) (by kernel_rfl) (by kernel_rfl) (by kernel_rfl) (door_met1 os _)) ?_
 intro W base args ds gs before hval0 hW _ hsz0 hL _
 have hval : ∀ (j : Nat) t v,Tryz.f3.params[j]? = some t -> args[j]? = some v -> Value.okWide Tryz.prog W .any base t v := hval0
 have hsz : (DataW.weightsEach Tryz.prog (Tryz.f3.params.toList ++ Rows.deflateStoresSpec.plain.varTypes Tryz.prog) (ds ++ gs)).all (· <= reachBytes) = true := hsz0
 have hW' := hW
 obtain ⟨p,q,hA0,hV,rfl,hfz,hnd⟩ := hW
 have hA : DataW.TrodAll enc Tryz.prog W 0 (fun _ => true) true Tryz.f3.params.toList args.toList ds p := hA0
 rw [Tryz.params3] at hA hval hsz
 obtain ⟨v0,vs0,d0,ds0,p0,q0,hargs,rfl,rfl,h0,r0⟩ := trodAll_cons hA
 obtain ⟨rfl,rfl,rfl⟩ := trodAll_nil r0
 obtain rfl : args = #[v0] := by cases args; simp_all
 obtain ⟨rfl,rfl⟩ := trodVars_none hV
 have k0 := h0
 have lt0 : ∀ x ∈ p0,x.block < W.heap.size := by obtain ⟨m,hm⟩ := k0; exact DataW.trod_lt m _ _ _ hm
 have w0 : ∀ n ∈ d0.weights Tryz.prog 22,n <= reachBytes := fun n hn => by simpa using List.all_eq_true.1 hsz n (DataW.weights_mem_each (j := 0) rfl rfl n hn)
 obtain ⟨bs0,sl0,ln0⟩ := bytes_open (hval 0 22 v0 rfl rfl) h0 w0
 have cp0 := bytes_cap (hval 0 22 v0 rfl rfl) h0
 clear hA0 hval0 hsz0
 refine (deflateStores_walk v0 bs0 W sl0 ln0 cp0 (glob_of_laid hL)).mono fun e W' ⟨he,bel⟩ => ?_
 subst he
 exact ⟨_,rfl,_,_,_,[],_,[],hW',trodAll_mk1 (shut_bool Tryz.underlying4 _),(trodAll_cons_mk (Below.trod Tryz.laidOut (by kernel_rfl) (of_decide_eq_true (by kernel_rfl)) k0 bel lt0) trodAll_mk0),rfl,bel.frame _,fun h => by cases h⟩
theorem deflateStores_holds : Rows.DeflateStoresSaid :=
 OpenClaim.holds_of_wide 3 Tryz.f3 rfl rfl rfl rfl rfl rfl rfl ⟨rfl,rfl,rfl,rfl,rfl⟩ rfl rfl rfl rfl rfl (by kernel_rfl) Tryz.func3 (by kernel_rfl)
  (of_decide_eq_true (by kernel_rfl)) (by unfold Func.isWrapper; rw [if_neg (of_decide_eq_false (by kernel_rfl))]; exact ⟨rfl,rfl⟩)
  (fun os started H enc _ => deflateStores_lifted os started H enc)
theorem deflateStores_proved : Rows.DeflateStoresCardSaid :=
 Claim7.holds_tied_plain_at .later [] [.data] true Rows.deflateStoresCard.stood.harness true
  deflateStores_holds (fun _ h => by cases h) (by kernel_rfl) (fun _ h => by cases h) deflateStores_row_tie rfl ⟨rfl,rfl⟩ (by kernel_rfl) rfl
  (fun f fn hf hfn => by
   obtain rfl : f = 3 := Option.some.inj ((show Tryz.prog.funcNamed "valise/valiselaw10.DeflateStores" = some 3 by kernel_rfl).symm.trans hf) |>.symm
   obtain rfl : fn = Tryz.f3 := (Option.some.inj (Tryz.func3.symm.trans hfn)).symm
   refine ⟨by kernel_rfl,fun j t ht => ?_⟩
   rw [Tryz.params3] at ht
   have hm := Array.mem_of_getElem? ht
   have hm2 : t = 22 := by simpa using hm
   subst hm2
   exact (show Tryz.prog.wantsStandIn 22 = false by kernel_rfl))
  (by kernel_rfl)
end Go.Proofs.YtckbhciehmokdaaGreatDoor
