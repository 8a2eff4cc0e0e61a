/-
  rostellumlaw02.HandsPlayed (a plan that is carried out pollinates no more flowers of a vine than there are, or than it bears, and no more than the plan says; if it fits the truth, all of them; nothing is lost twice) answers true whatever the season, the plan and the numbers that choose the truth are, and they read behind the call as before.
  Conditions: those of the given row alone.
  How: a machine of its own (the texts Sh) is proved to say of each call what the model does, whatever order is drawn; each function is said by a relation, and these are put together; vine by vine, what is left and what is pollinated add up to what there was (BN11).
-/
import Derived.Test.YtiokkkjahkhbfaaUk
import Derived.Test.YtiokkkjahkhbfaaRows
import Derived.WalkKit
import Derived.ProofKit
import Derived.OpenShut
import Derived.Deep.DeepHandedRow
import Derived.Deep.DeepWitnessRowRef
set_option linter.all false
namespace Go.Proofs.Ytiokkkjahkhbfaa.walk
open Go.ChangeShapes Go.WideShapes Go.ChangeAt Go.RowKit Go.Sh
theorem own:ownKnob Try.prog.godebug=none:=by kernel_rfl
theorem laid_ok {W:World}:LaidOk Try.prog W []:=fun x hx=>by cases hx
theorem kids:Kids Try.prog (· < Try.prog.types.size):=kids_rows (by kernel_rfl) (by kernel_rfl)
theorem wide:slicesWide Try.prog=true:=by kernel_rfl
noncomputable def laidWorld (os:Os):World:=World.holding Try.prog os ⟨#[],#[],[]⟩
theorem laid_met (os:Os) (args:Array Value):laidMet Try.prog [] ((laidWorld os).forCall (fun _ _=>0) ⟨#[],args,[]⟩).memory :=
 laidMet_of_run' 8 (by kernel_rfl) (by kernel_rfl)
theorem reads (os:Os) {H:Type} (enc:TypeId × Value→H):∃ places,DataW.whole enc Try.prog ((laidWorld os).forCall (fun _ _=>0) ⟨#[],#[.agg ⟨[.slice none 0 0,.slice none 0 0,.slice none 0 0]⟩,.slice none 0 0,.slice none 0 0],[]⟩).memory Try.f8.params.toList Rows.handsPlayedSpec.vars false (#[Value.agg ⟨[.slice none 0 0,.slice none 0 0,.slice none 0 0]⟩,.slice none 0 0,.slice none 0 0]:Array Value).toList 8=some ([.agg [.nil,.nil,.nil],.nil,.nil],[],places) :=
 ⟨[],by kernel_rfl⟩
theorem mem_all {t a b c:Nat} (h:t ∈ [a,b,c]):t=a∨t=b∨t=c:=by simpa using h
theorem params8:Try.f8.params.toList=[26,39,42]:=by kernel_rfl
set_option maxRecDepth 100000 in
theorem contract (H:Type) (enc:TypeId × Value→H) (W:World) (base:Nat) (args:Array Value) (ds gs:List (DataW H)) (before:List MemPlace)
  (hval:∀ (j:Nat) t v,Try.f8.params[j]?=some t→args[j]?=some v→Value.okWide Try.prog W .any base t v)
  (hW:DataW.Whole enc Try.prog Try.f8.params.toList Rows.handsPlayedSpec.vars false W args.toList ds gs before) {tw:List TypeId} (hz:(DataW.weightsEach Try.prog (Try.f8.params.toList++tw) (ds++gs)).all (·≤reachBytes)=true) :
  Calls Try.prog 8 args W fun e W'=>∃ v,e=.returned v∧Rows.handsPlayedSpec.post enc Try.prog Try.f8 false true false false W args v W':=by
 have hW':=hW
 obtain ⟨vs⟩:=args
 obtain ⟨p,q,hA,hV,rfl,hfz,hnd⟩:=hW
 obtain ⟨rfl,rfl⟩:=trodVars_none hV
 have hA':=hA
 rw [params8] at hA'
 rw [params8] at hz
 obtain ⟨_,hlen⟩:=trodAll_length _ _ _ _ hA'
 have key:=input_sized no_count mixed ok34 (laid_ok (W:=W)) (d:=6) (ts:=[26,39,42]) (f:=8) (m:=8) (fun t ht=>by rcases mem_all ht with rfl | rfl | rfl; exact ty26; exact ty39; exact ty42) (fun j t v h1 h2=>hval j t v (by rw [← Array.getElem?_toList,params8]; exact h1) (by simpa using h2)) hA' hlen hz start_true
 match ds,hlen with
 | [d1,d2,d3],_ =>
  refine key.mono fun e W' ⟨he,hk⟩=>?_
  subst he
  exact ⟨_,rfl,post_stays (pa:=p) (pv:=[]) hW' (fun _ _ _=>trodAll_cons_mk (shut_bool Try.underlying4 _) trodAll_mk0)
   (fun sp hsp=>by
    show DataW.TrodAll enc Try.prog W' 0 sp true Try.f8.params.toList vs [d1,d2,d3] p
    rw [params8]
    exact args_again kids wide hk [26,39,42] vs [d1,d2,d3] p (fun t ht=>by rcases mem_all ht with rfl | rfl | rfl <;> decide +kernel) hA' (fun x hx=>hW'.lt x (by simpa using hx)) (fun x hx=>hsp x (by simpa using hx)))
   (fun _ _=>rfl) rfl hk (ok_one (by kernel_rfl) rfl (okWide_bool_mk Try.underlying4 _))⟩
set_option maxRecDepth 100000 in
theorem lifted (os:Os) (started:os.Started) (H:Type) (enc:TypeId × Value→H) (F:Stop.Interp) :
  ReturnsInHanded {} Try.checked os 8 .any ((OpenSpec.ofChange Rows.handsPlayedSpec).preRow enc Try.prog Try.f8 Rows.handsPlayedRow.domain false Rows.handsPlayedRow.laid) (((OpenSpec.ofChange Rows.handsPlayedSpec).at F).post enc Try.prog Try.f8 false true false false):=by
 obtain ⟨places,hx⟩:=reads os enc
 refine returnsInHanded_of_row (C:=Try.checked) (s:=OpenSpec.ofChange Rows.handsPlayedSpec) own started (by kernel_rfl) Try.func8
  (witness_row_atRef (enc:=enc) (C:=Try.checked) false (laidWorld os) #[.agg ⟨[.slice none 0 0,.slice none 0 0,.slice none 0 0]⟩,.slice none 0 0,.slice none 0 0] rfl (by kernel_rfl) (by kernel_rfl) (by kernel_rfl)
   (OpenSpec.preRow_of_cond 8 hx (by kernel_rfl) (fun k hk=>by cases hk) (by kernel_rfl) (laid_met os _))) ?_
 intro W base args ds gs before hval hW _ _ hz hL hs _
 exact contract H enc W base args ds gs before hval hW hz
set_option maxRecDepth 100000 in
theorem said:Rows.HandsPlayedSaid :=
 OpenClaim.holds_of_cond 8 Try.f8 rfl rfl rfl rfl rfl rfl rfl ⟨rfl,rfl,rfl,rfl,rfl⟩ rfl rfl rfl rfl rfl (by kernel_rfl) Try.func8 (by kernel_rfl)
  (of_decide_eq_true (by kernel_rfl)) (by unfold Func.isWrapper; first | (rw [if_pos (by decide +kernel)]; kernel_rfl) | (rw [if_neg (by decide +kernel)]; exact ⟨rfl,rfl⟩))
  (fun os started H enc _ F=>by rw [OpenClaim.pre_eq_preRow]; exact lifted os started H enc F)
end Go.Proofs.Ytiokkkjahkhbfaa.walk
