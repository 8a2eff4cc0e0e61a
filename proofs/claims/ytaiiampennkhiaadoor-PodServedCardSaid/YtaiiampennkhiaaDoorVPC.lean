/-
  rostellumlaw03.PodServed (by the plan of the rounds of the best market all pods that can be served are cut ripe on its days, whatever the truth is, and weigh at least what Market says; no market as long has more that is sure) answers true whatever the pods, the days, the length and the numbers that choose the truth and another market are, and they read behind the call as before.
  Conditions: those of the given row alone (its listed variable of the program holds what its initialiser lays; the card ties it to the text of the program).
  How: a machine of its own (the texts Sh) is proved to say of each call what the model does, whatever order is drawn; arguments that come in are laid into its memory; what it does with them is proved function by function (PW, QW, RW, SW, VS); that a pod of a round of the market is cut in its window, and that the plan's least grams sum to the market's, is arithmetic (RW3, LW1, VS1, VS2).
-/
import Derived.Test.YtaiiampennkhiaaDoorCards
import Derived.Test.YtaiiampennkhiaaDoorTie
import Derived.Test.YtaiiampennkhiaaDoorVPn
import Derived.WalkKit
import Derived.ProofKit
import Derived.OpenShut
import Derived.Deep.DeepHandedRow
import Derived.Deep.DeepWitnessRowRef
namespace Go.Proofs.YtaiiampennkhiaaDoor.walk
open Go.ChangeShapes Go.WideShapes Go.ChangeAt Go.RowKit Go.Sh
open known (partsC laidL noOv)
theorem own:ownKnob Tryd.prog.godebug=none:=by kernel_rfl
theorem row0:RowOf Tryd.prog 0 16 122:=.of (by kernel_rfl)
theorem g0:Tryd.prog.globalNamed "rostellum/pod.parts"=some 0:=by kernel_rfl
theorem t0:(Tryd.prog.globals[0]?).map (·.type)=some 122:=by kernel_rfl
theorem parts_dat:datC Tryd.prog 5 122 Rows.laid_rostellum_pod_parts=some partsC:=by kernel_rfl
def laidRow:List (String × DataW Unit):=[("rostellum/pod.parts",Rows.laid_rostellum_pod_parts)]
theorem laid_ok {W:World} (hs:W.ShapedOpen Tryd.prog) (hL:laidMet Tryd.prog laidRow W):LaidOk Tryd.prog W laidL:=by
 intro x hx
 unfold laidL at hx
 rcases List.mem_cons.1 hx with rfl | hx
 ·exact laid_plain hs hL (.head _) g0 (by rw [globals1]; decide) t0 parts_dat (by kernel_rfl) row0
 ·cases hx
theorem kids:Kids Tryd.prog (· < Tryd.prog.types.size):=kids_rows (by kernel_rfl) (by kernel_rfl)
theorem wide:slicesWide Tryd.prog=true:=by kernel_rfl
noncomputable def laidWorld (os:Os):World :=
 let w0:=World.holding Tryd.prog os ⟨#[],#[],[]⟩
 { w0 with heap:=w0.heap.modify 0 fun
  | .cells _ t frozen=>.cells partsC.toArray t frozen
  | o=>o }
theorem laid_met (os:Os) (args:Array Value):laidMet Tryd.prog laidRow ((laidWorld os).forCall (fun _ _=>0) ⟨#[],args,[]⟩).memory :=
 laidMet_of_run' 8 (by kernel_rfl) (by kernel_rfl)
theorem reads (os:Os) {H:Type} (enc:TypeId × Value→H):∃ places,DataW.whole enc Tryd.prog ((laidWorld os).forCall (fun _ _=>0) ⟨#[],#[.slice none 0 0,.agg ⟨[.int .i64 0,.int .i64 0]⟩,.int .i64 0,.slice none 0 0],[]⟩).memory Tryd.f11.params.toList Rows.podServedSpec.vars false (#[Value.slice none 0 0,.agg ⟨[.int .i64 0,.int .i64 0]⟩,.int .i64 0,.slice none 0 0]:Array Value).toList 8=some ([.nil,.agg [.lit (.int .i64 0),.lit (.int .i64 0)],.lit (.int .i64 0),.nil],[],places) :=
 ⟨[],by kernel_rfl⟩
theorem mem_all {t a b c d:Nat} (h:t ∈ [a,b,c,d]):t=a∨t=b∨t=c∨t=d:=by simpa using h
theorem params11:Tryd.f11.params.toList=[22,26,3,33]:=by kernel_rfl
set_option maxRecDepth 100000 in
theorem contract (H:Type) (enc:TypeId × Value→H) (W:World) (base:Nat) (args:Array Value) (ds gs:List (DataW H)) (before:List MemPlace)
  (hval:∀ (j:Nat) t v,Tryd.f11.params[j]?=some t→args[j]?=some v→Value.okWide Tryd.prog W .any base t v)
  (hW:DataW.Whole enc Tryd.prog Tryd.f11.params.toList Rows.podServedSpec.vars false W args.toList ds gs before) {tw:List TypeId} (hz:(DataW.weightsEach Tryd.prog (Tryd.f11.params.toList++tw) (ds++gs)).all (·≤reachBytes)=true) (hL:laidMet Tryd.prog laidRow W) (hs:W.ShapedOpen Tryd.prog) :
  Calls Tryd.prog 11 args W fun e W'=>∃ v,e=.returned v∧Rows.podServedSpec.post enc Tryd.prog Tryd.f11 false true false false W args v W':=by
 have hW':=hW
 obtain ⟨vs⟩:=args
 obtain ⟨p,q,hA,hV,rfl,hfz,hnd⟩:=hW
 obtain ⟨rfl,rfl⟩:=trodVars_none hV
 have hA':=hA
 rw [params11] at hA'
 rw [params11] at hz
 obtain ⟨_,hlen⟩:=trodAll_length _ _ _ _ hA'
 have key:=input_sized no_count mixed ok38 (laid_ok hs hL) (d:=6) (ts:=[22,26,3,33]) (f:=11) (m:=8) (fun t ht=>by rcases mem_all ht with rfl | rfl | rfl | rfl; exact ty22; exact ty26; exact ty3; exact ty33) (fun j t v h1 h2=>hval j t v (by rw [← Array.getElem?_toList,params11]; exact h1) (by simpa using h2)) hA' hlen hz start_true
 match ds,hlen with
 | [d1,d2,d3,d4],_ =>
  refine key.mono fun e W' ⟨he,hk⟩=>?_
  subst he
  exact ⟨_,rfl,post_stays (pa:=p) (pv:=[]) hW' (fun _ _ _=>trodAll_cons_mk (shut_bool Tryd.underlying4 _) trodAll_mk0)
   (fun sp hsp=>by
    show DataW.TrodAll enc Tryd.prog W' 0 sp true Tryd.f11.params.toList vs [d1,d2,d3,d4] p
    rw [params11]
    exact args_again kids wide hk [22,26,3,33] vs [d1,d2,d3,d4] p (fun t ht=>by rcases mem_all ht with rfl | rfl | rfl | rfl <;> decide +kernel) hA' (fun x hx=>hW'.lt x (by simpa using hx)) (fun x hx=>hsp x (by simpa using hx)))
   (fun _ _=>rfl) rfl hk (ok_one (by kernel_rfl) rfl (okWide_bool_mk Tryd.underlying4 _))⟩
set_option maxRecDepth 100000 in
theorem lifted (os:Os) (started:os.Started) (H:Type) (enc:TypeId × Value→H) (F:Stop.Interp) :
  ReturnsInHanded {} Tryd.checked os 11 .any ((OpenSpec.ofChange Rows.podServedSpec).preRow enc Tryd.prog Tryd.f11 Rows.podServedRow.domain false Rows.podServedRow.laid) (((OpenSpec.ofChange Rows.podServedSpec).at F).post enc Tryd.prog Tryd.f11 false true false false):=by
 obtain ⟨places,hx⟩:=reads os enc
 refine returnsInHanded_of_row (C:=Tryd.checked) (s:=OpenSpec.ofChange Rows.podServedSpec) own started (by kernel_rfl) Tryd.func11
  (witness_row_atRef (enc:=enc) (C:=Tryd.checked) false (laidWorld os) #[.slice none 0 0,.agg ⟨[.int .i64 0,.int .i64 0]⟩,.int .i64 0,.slice none 0 0] rfl (by kernel_rfl) (by kernel_rfl) (by kernel_rfl)
   (OpenSpec.preRow_of_cond 8 hx (by kernel_rfl) (fun k hk=>by cases hk) (by kernel_rfl) (laid_met os _))) ?_
 intro W base args ds gs before hval hW _ _ hz hL hs _
 exact contract H enc W base args ds gs before hval hW hz hL hs
theorem said:Rows.PodServedSaid :=
 OpenClaim.holds_of_cond 11 Tryd.f11 rfl rfl rfl rfl rfl rfl rfl ⟨rfl,rfl,rfl,rfl,rfl⟩ rfl rfl rfl rfl rfl (by kernel_rfl) Tryd.func11 (by kernel_rfl)
  (of_decide_eq_true (by kernel_rfl)) (by unfold Func.isWrapper; first | (rw [if_pos (by decide +kernel)]; kernel_rfl) | (rw [if_neg (by decide +kernel)]; exact ⟨rfl,rfl⟩))
  (fun os started H enc _ F=>by rw [OpenClaim.pre_eq_preRow]; exact lifted os started H enc F)
theorem plain (f:FuncId) (fn:Func) (hf:Tryd.pinned.checked.prog.funcNamed "rostellum/rostellumlaw03.PodServed"=some f) (hfn:Tryd.pinned.checked.prog.funcs[f]?=some fn) :
  false=Tryd.pinned.checked.prog.looks []∧∀ (j:Nat) t,fn.params[j]?=some t→Tryd.pinned.checked.prog.wantsStandIn t=false:=by
 obtain rfl:f=11:=Option.some.inj ((show Tryd.prog.funcNamed "rostellum/rostellumlaw03.PodServed"=some 11 by kernel_rfl).symm.trans hf) |>.symm
 obtain rfl:fn=Tryd.f11:=(Option.some.inj (Tryd.func11.symm.trans hfn)).symm
 refine ⟨by kernel_rfl,fun j t ht=>?_⟩
 have h1:t ∈ Tryd.f11.params.toList:=by
  rw [← Array.getElem?_toList] at ht
  exact List.mem_of_getElem? ht
 rw [params11] at h1
 have k3:Tryd.prog.wantsStandIn 3=false:=by kernel_rfl
 have k22:Tryd.prog.wantsStandIn 22=false:=by kernel_rfl
 have k26:Tryd.prog.wantsStandIn 26=false:=by kernel_rfl
 have k33:Tryd.prog.wantsStandIn 33=false:=by kernel_rfl
 rcases mem_all h1 with rfl | rfl | rfl | rfl
 ·exact k22
 ·exact k26
 ·exact k3
 ·exact k33
set_option maxRecDepth 100000 in
theorem card:Rows.PodServedCardSaid :=
 Claim7.holds_tied_plain_at .later [] _ _ _ _ said (fun _ h=>by cases h) (by kernel_rfl) (fun _ h=>by cases h) podServed_row_tie rfl ⟨rfl,rfl⟩ (by kernel_rfl) rfl plain (by kernel_rfl)
end Go.Proofs.YtaiiampennkhiaaDoor.walk
