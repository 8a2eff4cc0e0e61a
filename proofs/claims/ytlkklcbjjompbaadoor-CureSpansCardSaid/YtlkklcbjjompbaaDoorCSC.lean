/-
  rostellumlaw06.CureSpans (Weights, Solid, Moisture and Odd return what the specification says) answers true whatever the rule, the days, the box, the acts and the readings are, and they read behind the call as before.
  Conditions: those of the given row alone (its listed variable of the program holds what its initialiser lays; the card ties it to the text of the program).
  How: a machine of its own (the texts Sh) is proved to say of each call what the model does, whatever order is drawn; each function is said by a relation (CW), and these are put together (CS). That the way along the chain and back leaves the same spans as passes do until nothing changes is arithmetic (CM1, CW62); that the first of the smallest sets is found by both searches is arithmetic of lists (CW55, CW69).
-/
import Derived.Test.YtlkklcbjjompbaaDoorCards
import Derived.Test.YtlkklcbjjompbaaDoorTie
import Derived.Test.YtlkklcbjjompbaaDoorCSn
import Derived.WalkKit
import Derived.ProofKit
import Derived.OpenShut
import Derived.Deep.DeepHandedRow
import Derived.Deep.DeepWitnessRowRef
namespace Go.Proofs.YtlkklcbjjompbaaDoor.walk
open Go.ChangeShapes Go.WideShapes Go.ChangeAt Go.RowKit Go.Sh
theorem own:ownKnob Tryd.prog.godebug=none:=by kernel_rfl
theorem row0:RowOf Tryd.prog 0 14 141:=.of (by kernel_rfl)
theorem g0:Tryd.prog.globalNamed "rostellum/cure.limits"=some 0:=by kernel_rfl
theorem t0:(Tryd.prog.globals[0]?).map (·.type)=some 141:=by kernel_rfl
theorem lim_dat:datC Tryd.prog 5 141 Rows.laid_rostellum_cure_limits=some limC:=by kernel_rfl
def laidRow:List (String × DataW Unit):=[("rostellum/cure.limits",Rows.laid_rostellum_cure_limits)]
theorem laid_ok {W:World} (hs:W.ShapedOpen Tryd.prog) (hL:laidMet Tryd.prog laidRow W):LaidOk Tryd.prog W laidL:=by
 intro x hx
 unfold laidL at hx
 rcases List.mem_cons.1 hx with rfl | hx
 ·exact laid_plain hs hL (.head _) g0 (by rw [globals1]; decide) t0 lim_dat (by kernel_rfl) row0
 ·cases hx
theorem kids:Kids Tryd.prog (· < Tryd.prog.types.size):=kids_rows (by kernel_rfl) (by kernel_rfl)
theorem wide:slicesWide Tryd.prog=true:=by kernel_rfl
noncomputable def laidWorld (os:Os):World :=
 let w0:=World.holding Tryd.prog os ⟨#[],#[],[]⟩
 { w0 with heap:=w0.heap.modify 0 fun
  | .cells _ t frozen=>.cells limC.toArray t frozen
  | o=>o }
theorem laid_met (os:Os) (args:Array Value):laidMet Tryd.prog laidRow ((laidWorld os).forCall (fun _ _=>0) ⟨#[],args,[]⟩).memory :=
 laidMet_of_run' 8 (by kernel_rfl) (by kernel_rfl)
theorem reads (os:Os) {H:Type} (enc:TypeId × Value→H):∃ places,DataW.whole enc Tryd.prog ((laidWorld os).forCall (fun _ _=>0) ⟨#[],#[.agg ⟨[.slice none 0 0,.slice none 0 0,.int .i64 0,.int .i64 0,.int .i64 0,.int .i64 0,.slice none 0 0]⟩,.slice none 0 0],[]⟩).memory Tryd.f4.params.toList Rows.cureSpansSpec.vars false (#[Value.agg ⟨[.slice none 0 0,.slice none 0 0,.int .i64 0,.int .i64 0,.int .i64 0,.int .i64 0,.slice none 0 0]⟩,.slice none 0 0]:Array Value).toList 8=some ([.agg [.nil,.nil,.agg [.agg [.lit (.int .i64 0),.lit (.int .i64 0)],.agg [.lit (.int .i64 0),.lit (.int .i64 0)]],.nil],.nil],[],places) :=
 ⟨[],by kernel_rfl⟩
theorem mem_all {t a b:Nat} (h:t ∈ [a,b]):t=a∨t=b:=by simpa using h
theorem params4:Tryd.f4.params.toList=[30,42]:=by kernel_rfl
set_option maxRecDepth 100000 in
theorem contract (H:Type) (enc:TypeId × Value→H) (W:World) (base:Nat) (args:Array Value) (ds gs:List (DataW H)) (before:List MemPlace)
  (hval:∀ (j:Nat) t v,Tryd.f4.params[j]?=some t→args[j]?=some v→Value.okWide Tryd.prog W .any base t v)
  (hW:DataW.Whole enc Tryd.prog Tryd.f4.params.toList Rows.cureSpansSpec.vars false W args.toList ds gs before) {tw:List TypeId} (hz:(DataW.weightsEach Tryd.prog (Tryd.f4.params.toList++tw) (ds++gs)).all (·≤reachBytes)=true) (hL:laidMet Tryd.prog laidRow W) (hs:W.ShapedOpen Tryd.prog) :
  Calls Tryd.prog 4 args W fun e W'=>∃ v,e=.returned v∧Rows.cureSpansSpec.post enc Tryd.prog Tryd.f4 false true false false W args v W':=by
 have hW':=hW
 obtain ⟨vs⟩:=args
 obtain ⟨p,q,hA,hV,rfl,hfz,hnd⟩:=hW
 obtain ⟨rfl,rfl⟩:=trodVars_none hV
 have hA':=hA
 rw [params4] at hA'
 rw [params4] at hz
 obtain ⟨_,hlen⟩:=trodAll_length _ _ _ _ hA'
 have key:=input_sized no_count mixed ok87 (laid_ok hs hL) (d:=6) (ts:=[30,42]) (f:=4) (m:=16) (fun t ht=>by rcases mem_all ht with rfl | rfl; exact ty30; exact ty42) (fun j t v h1 h2=>hval j t v (by rw [← Array.getElem?_toList,params4]; exact h1) (by simpa using h2)) hA' hlen hz start_true
 match ds,hlen with
 | [d1,d2],_ =>
  refine key.mono fun e W' ⟨he,hk⟩=>?_
  subst he
  exact ⟨_,rfl,post_stays (pa:=p) (pv:=[]) hW' (fun _ _ _=>trodAll_cons_mk (shut_bool Tryd.underlying4 _) trodAll_mk0)
   (fun sp hsp=>by
    show DataW.TrodAll enc Tryd.prog W' 0 sp true Tryd.f4.params.toList vs [d1,d2] p
    rw [params4]
    exact args_again kids wide hk [30,42] vs [d1,d2] p (fun t ht=>by rcases mem_all ht with rfl | rfl <;> decide +kernel) hA' (fun x hx=>hW'.lt x (by simpa using hx)) (fun x hx=>hsp x (by simpa using hx)))
   (fun _ _=>rfl) rfl hk (ok_one (by kernel_rfl) rfl (okWide_bool_mk Tryd.underlying4 _))⟩
set_option maxRecDepth 100000 in
theorem lifted (os:Os) (started:os.Started) (H:Type) (enc:TypeId × Value→H) (F:Stop.Interp) :
  ReturnsInHanded {} Tryd.checked os 4 .any ((OpenSpec.ofChange Rows.cureSpansSpec).preRow enc Tryd.prog Tryd.f4 Rows.cureSpansRow.domain false Rows.cureSpansRow.laid) (((OpenSpec.ofChange Rows.cureSpansSpec).at F).post enc Tryd.prog Tryd.f4 false true false false):=by
 obtain ⟨places,hx⟩:=reads os enc
 refine returnsInHanded_of_row (C:=Tryd.checked) (s:=OpenSpec.ofChange Rows.cureSpansSpec) own started (by kernel_rfl) Tryd.func4
  (witness_row_atRef (enc:=enc) (C:=Tryd.checked) false (laidWorld os) #[.agg ⟨[.slice none 0 0,.slice none 0 0,.int .i64 0,.int .i64 0,.int .i64 0,.int .i64 0,.slice none 0 0]⟩,.slice none 0 0] rfl (by kernel_rfl) (by kernel_rfl) (by kernel_rfl)
   (OpenSpec.preRow_of_cond 8 hx (by kernel_rfl) (fun k hk=>by cases hk) (by kernel_rfl) (laid_met os _))) ?_
 intro W base args ds gs before hval hW _ _ hz hL hs _
 exact contract H enc W base args ds gs before hval hW hz hL hs
theorem said:Rows.CureSpansSaid :=
 OpenClaim.holds_of_cond 4 Tryd.f4 rfl rfl rfl rfl rfl rfl rfl ⟨rfl,rfl,rfl,rfl,rfl⟩ rfl rfl rfl rfl rfl (by kernel_rfl) Tryd.func4 (by kernel_rfl)
  (of_decide_eq_true (by kernel_rfl)) (by unfold Func.isWrapper; first | (rw [if_pos (by decide +kernel)]; kernel_rfl) | (rw [if_neg (by decide +kernel)]; exact ⟨rfl,rfl⟩))
  (fun os started H enc _ F=>by rw [OpenClaim.pre_eq_preRow]; exact lifted os started H enc F)
theorem plain (f:FuncId) (fn:Func) (hf:Tryd.pinned.checked.prog.funcNamed "rostellum/rostellumlaw06.CureSpans"=some f) (hfn:Tryd.pinned.checked.prog.funcs[f]?=some fn) :
  false=Tryd.pinned.checked.prog.looks []∧∀ (j:Nat) t,fn.params[j]?=some t→Tryd.pinned.checked.prog.wantsStandIn t=false:=by
 obtain rfl:f=4:=Option.some.inj ((show Tryd.prog.funcNamed "rostellum/rostellumlaw06.CureSpans"=some 4 by kernel_rfl).symm.trans hf) |>.symm
 obtain rfl:fn=Tryd.f4:=(Option.some.inj (Tryd.func4.symm.trans hfn)).symm
 refine ⟨by kernel_rfl,fun j t ht=>?_⟩
 have h1:t ∈ Tryd.f4.params.toList:=by
  rw [← Array.getElem?_toList] at ht
  exact List.mem_of_getElem? ht
 rw [params4] at h1
 have k30:Tryd.prog.wantsStandIn 30=false:=by kernel_rfl
 have k42:Tryd.prog.wantsStandIn 42=false:=by kernel_rfl
 rcases mem_all h1 with rfl | rfl
 ·exact k30
 ·exact k42
set_option maxRecDepth 100000 in
theorem card:Rows.CureSpansCardSaid :=
 Claim7.holds_tied_plain_at .later [] _ _ _ _ said (fun _ h=>by cases h) (by kernel_rfl) (fun _ h=>by cases h) cureSpans_row_tie rfl ⟨rfl,rfl⟩ (by kernel_rfl) rfl plain (by kernel_rfl)
end Go.Proofs.YtlkklcbjjompbaaDoor.walk
