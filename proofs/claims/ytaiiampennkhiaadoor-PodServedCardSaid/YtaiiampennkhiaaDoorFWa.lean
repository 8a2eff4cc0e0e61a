/- Part of a proof by a machine of ones own: see the text with the theorem. -/
import Derived.Test.YtaiiampennkhiaaDoorFT
namespace Go.Proofs.YtaiiampennkhiaaDoor.walk
open Go Go.Sh
open known (partsC laidL noOv)
set_option maxRecDepth 100000
set_option linter.unusedSimpArgs false
theorem rule16m {ov:Ov} (h:HasP ov 16 F16) (p:Pod) (m:Nat) (w:AW):(run Tryd.prog ov (m + 1)).call 16 [.agg ⟨podC p⟩] w .none=.ok (.ret (.tuple ⟨[.agg ⟨[.int .i64 (wA p),.int .i64 (wB p)]⟩,.int .i64 (wE p)]⟩)) w .none:=h.call rfl
def wiL (p:Pod) (a:Int):Int:=max (wA p) a
def wiH (p:Pod) (b:Int):Int:=min (wB p) b
def wiB (p:Pod) (a b:Int):Bool:=decide (wE p=0) && decide (wiL p a≤wiH p b)
noncomputable def F37:PureF:=fun args _=>match args with | [.agg ⟨l⟩,.agg ⟨[.int .i64 a,.int .i64 b]⟩]=>(podOf l).map fun p=>.tuple ⟨[.agg ⟨[.int .i64 (wiL p a),.int .i64 (wiH p b)]⟩,.bool (wiB p a b)]⟩ | _=>none
theorem rule37 {ov:Ov} (h:HasP ov 37 F37) (p:Pod) (a b:Int) (m:Nat) (w:AW):(run Tryd.prog ov (m + 1)).call 37 [.agg ⟨podC p⟩,.agg ⟨[.int .i64 a,.int .i64 b]⟩] w .none=.ok (.ret (.tuple ⟨[.agg ⟨[.int .i64 (wiL p a),.int .i64 (wiH p b)]⟩,.bool (wiB p a b)]⟩)) w .none:=h.call (by simp [F37,podOf_C])
theorem run37 {ov:Ov} (ho:∀ args w,ov 37 args w=none) (h16:HasP ov 16 F16) (h35:HasP ov 35 F35) (p:Pod) (a b:Int) (w:AW) (hl:w.lim=w.next):∃ x w',(run Tryd.prog ov 2).call 37 [.agg ⟨podC p⟩,.agg ⟨[.int .i64 a,.int .i64 b]⟩] w .none=.ok (.ret x) w' .none∧x=.tuple ⟨[.agg ⟨[.int .i64 (wiL p a),.int .i64 (wiH p b)]⟩,.bool (wiB p a b)]⟩:=by
 refine call_wp text37 (by simp) (ho _ _) ?_
 have l1:w.lim≤w.next + 2:=by omega
 have l2:w.lim≤w.next + 3:=by omega
 have r16:=fun w=>rule16m h16 p 0 w
 have r35:=fun a b w=>rule35m h35 a b 0 w
 simp only [Nat.zero_add] at r16 r35
 have sv:=fun x y=>same_ints [x,y]
 simp only [List.map_cons,List.map_nil] at sv
 have si:=fun n k a=>sameN_int n k a
 by_cases hE:wE p=0
 ·by_cases hc:wiL p a≤wiH p b
  ·have hc':max (wA p) a≤min (wB p) b:=hc
   simp [mc37,r16,r35,l1,l2,cellsOf_agg,least2,most2,sv,si,hE,hc',tupV,wiL,wiH,wiB]
  ·have hc':¬ max (wA p) a≤min (wB p) b:=hc
   simp [mc37,r16,r35,l1,l2,cellsOf_agg,least2,most2,sv,si,hE,hc',tupV,wiL,wiH,wiB]
 ·simp [mc37,r16,r35,l1,l2,cellsOf_agg,least2,most2,sv,si,hE,tupV,wiL,wiH,wiB]
end Go.Proofs.YtaiiampennkhiaaDoor.walk
namespace Go.Proofs.YtaiiampennkhiaaDoor.walk
open Go Go.Sh
open known (partsC laidL noOv)
set_option maxRecDepth 100000
set_option linter.unusedSimpArgs false
end Go.Proofs.YtaiiampennkhiaaDoor.walk
namespace Go.Proofs.YtaiiampennkhiaaDoor.walk
open Go Go.Sh
open known (partsC laidL noOv)
set_option maxRecDepth 100000
set_option linter.unusedSimpArgs false
theorem wi_of {p:Pod} (h:podB p=true) (a b:Int):wiB p a b=decide (max (winL p) a≤min (winH p) b)∧(wiB p a b=true→wiL p a=max (winL p) a∧wiH p b=min (winH p) b):=by
 have hB:podsB [p]=true:=by
  have:chkB [p] 1=(chkB [p] 0 && (podB p && !hasT (tagsTo [p] 0) p.tag)):=chk_snoc rfl
  simp only [podsB,Bool.and_eq_true,decide_eq_true_eq]
  refine ⟨by simp,?_⟩
  show chkB [p] 1=true
  rw [this,h]; rfl
 by_cases hc:winH p < winL p
 ·have e:wE p=4:=by simp [wE,hB,hc]
  have e2:wiB p a b=false:=by simp [wiB,e]
  have e3:¬ max (winL p) a≤min (winH p) b:=by omega
  rw [e2]
  exact ⟨by simp [e3],fun h=>by cases h⟩
 ·have e:wE p=0:=by simp [wE,hB,hc]
  have e1:wiL p a=max (winL p) a:=by simp [wiL,wA,e]
  have e2:wiH p b=min (winH p) b:=by simp [wiH,wB,e]
  exact ⟨by simp [wiB,e,e1,e2],fun _=>⟨e1,e2⟩⟩
end Go.Proofs.YtaiiampennkhiaaDoor.walk
namespace Go.Proofs.YtaiiampennkhiaaDoor.walk
open Go Go.Sh
open known (partsC laidL noOv)
set_option maxRecDepth 100000
set_option linter.unusedSimpArgs false
theorem rule38m {ov:Ov} (k:HasP ov 38 F38) {lo hi:Int} (n:Int) (h1:0≤lo∧lo≤100000) (h2:0≤hi∧hi≤100000) (m:Nat) (w:AW):(run Tryd.prog ov (m + 1)).call 38 [.int .i64 lo,.int .i64 hi,.int .i64 n] w .none=.ok (.ret (.int .i64 (withI lo hi n))) w .none:=k.call (by
 have e1:inI 0 lo 100000=true:=by simp only [inI,Bool.and_eq_true,decide_eq_true_eq]; omega
 have e2:inI 0 hi 100000=true:=by simp only [inI,Bool.and_eq_true,decide_eq_true_eq]; omega
 simp [F38,e1,e2])
end Go.Proofs.YtaiiampennkhiaaDoor.walk
namespace Go.Proofs.YtaiiampennkhiaaDoor.walk
open Go Go.Sh
open known (partsC laidL noOv)
set_option maxRecDepth 100000
set_option linter.unusedSimpArgs false
end Go.Proofs.YtaiiampennkhiaaDoor.walk
namespace Go.Proofs.YtaiiampennkhiaaDoor.walk
open Go Go.Sh
open known (partsC laidL noOv)
set_option maxRecDepth 100000
set_option linter.unusedSimpArgs false
end Go.Proofs.YtaiiampennkhiaaDoor.walk
