import Derived.Test.YtjoblhlkfmeckaaGreatDoorQ08
import Derived.Test.YtjoblhlkfmeckaaGreatDoorQ20
import Derived.Test.YtjoblhlkfmeckaaGreatDoorQ13
set_option maxHeartbeats 4000000
set_option maxRecDepth 8000
set_option linter.unusedVariables false
set_option linter.unusedSimpArgs false
open Option renaming none → od,some → lp
open Go.Proofs.Tryz renaming prog → ly
open Go renaming undef → yj,World → qq,Value → tj,heap_alloc_new → tw,Goroutine → gq
open Bool renaming true → s7,false → vp
open Go.Exit renaming normal → kr
open Go.Mode renaming plain → zw
open Go.Value renaming int → rl,string → pt,pointer → om,slice → cf,bool → gf,tuple → fh
open Go.Obj renaming cells → ye
open Go.IntKind renaming i64 → tz,u8 → dc
open Go.Proofs.Tryz Orch
theorem Y78{p q:Prop}(k:q)(h:Hd q->p:=by
 intro kz
 refine A6.tl 3 hI4 (fun _ _ d h=>A8 h d) hS4 (fun w (hw:F2 _ _ _ _ _ w)=>(cellOf (j:=2) hw.2 rfl:w.cell? ⟨svb,2,none⟩=some (.map (some wm)))) (jv 2) (fun w (hw:F2 _ _ _ _ _ w)=>ltOf hw.2) ?_;walk_nrm
 exact kz.1):p:=h ⟨k⟩
theorem Bvs{p q:Prop}(k:q)(h:Hd q->p:=by
 intro kz
 refine Aw ?_
 refine Cc4 ?_
 refine Dbh ?_
 refine Aw ?_
 refine Dt ?_
 exact kz.1):p:=h ⟨k⟩
theorem Mn0{p q:Prop}(k:q)(h:Hd q->p:=by
 intro kz
 refine A6.tp 0 hI4 (fun _ _ d h=>A8 h d) hS4 ?_;walk_nrm
 refine A6.tp 1 hI4 (fun _ _ d h=>A8 h d) hS4 ?_;walk_nrm
 refine A6.tp 2 hI4 (fun _ _ d h=>A8 h d) hS4 ?_;walk_nrm
 refine A6.tp 4 hI4 (fun _ _ d h=>A8 h d) hS4 ?_;walk_nrm
 refine A6.tp 8 hI4 (fun _ _ d h=>A8 h d) hS4 ?_;walk_nrm
 refine Y78 ?_
 exact kz.1):p:=h ⟨k⟩
theorem Wjq{p q:Prop}(k:q)(h:Hd q->p:=by
 intro kz
 refine Aw ?_
 refine Fr7 ?_
 refine Kj ?_
 simp only [Az,As,bC,bQ]
 exact kz.1):p:=h ⟨k⟩
theorem Nao{p q:Prop}(k:q)(h:Hd q->p:=by
 intro kz
 iterate 3(refine Ak ?_)
 exact kz.1):p:=h ⟨k⟩
theorem Qab{p q:Prop}(k:q)(h:Hd q->p:=by
 intro kz
 have Gv:=(C4.kx ((Ar.refl u4 (fun _=>False)).at d4) (W4.at d4) fun _ h=>h.elim).glob hs
 obtain⟨g,hg1,hT4⟩:=hT L Gv
 have hwL:Lo L wm ks:=Lo.sim (u:=u4.at d4) (hw4.keep rfl) (W4.at d4).nf hs nw
 revert Gv g hg1 hT4 hwL
 exact kz.1):p:=h ⟨k⟩
theorem Kao{p q:Prop}(k:q)(h:Hd q->p:=by
 intro kz
 have jv:∀k,¬J (.cell ⟨svb,k,none⟩):=fun k h=>nv (C.W.ji.cell _ h)
 revert jv
 exact kz.1):p:=h ⟨k⟩
theorem Ccf{p q:Prop}(k:q)(h:Hd q->p:=by
 intro kz
 refine Bq hc1' (jgr 1) (Lr hc1') ?_;walk_nrm
 refine Pdv ?_
 refine Aw ?_
 have hI4:=F2.at (rb:=u.heap.size) (rc:=Dc kind q d n v) (rt:=130) (svb:=svb) (vc:=B0 db tb wm sm last down)
 refine Ei (I:=F2 u.heap.size (Dc kind q d n v) 130 svb (B0 db tb wm sm last down)) Ac fun d4=>?_
 have hS4:F2 u.heap.size (Dc kind q d n v) 130 svb (B0 db tb wm sm last down) (u4.at d4):=⟨hr4,hv4⟩
 refine Mn0 ?_
 revert hI4 d4 hS4
 exact kz.1):p:=h ⟨k⟩
theorem Iup{p q:Prop}(k:q)(h:Hd q->p:=by
 intro kz
 have nr:¬Bs u.heap.size:=fun h=>by have:=C.W.lt h;omega
 have jr:∀k,¬J (.cell ⟨u.heap.size,k,none⟩):=fun k h=>nr (C.W.ji.cell _ h)
 revert nr jr
 exact kz.1):p:=h ⟨k⟩
theorem A1p{p q:Prop}(k:q)(h:Hd q->p:=by
 intro kz
 refine Br Tryz.func146 Ac rfl (R:=fun tmps=>tmps.getD 4 undef) (fun _ _=>results_tmp Ac _ _ _) (fun _ _=>events_results_tmp Ac _ _) ?_
 exact kz.1):p:=h ⟨k⟩
theorem Euk{p q:Prop}(k:q)(h:Hd q->p:=by
 intro kz
 refine Bq (cellOf (j:=0) F7 rfl) (jr 0) (ltOf F7) ?_;walk_nrm
 exact kz.1):p:=h ⟨k⟩
theorem Fv4{p q:Prop}(k:q)(h:Hd q->p:=by
 intro kz
 refine A1p ?_
 simp only [Tryz.ntmps146,na,Nat.reduceAdd,Nat.reduceSub]
 exact kz.1):p:=h ⟨k⟩
theorem Uva{p q:Prop}(k:q)(h:Hd q->p:=by
 intro kz
 refine Ak ?_
 refine Euk ?_
 refine Am ?_
 refine Dt ?_
 exact kz.1):p:=h ⟨k⟩
theorem B0i{p q:Prop}(k:q)(h:Hd q->p:=by
 intro kz
 refine Br Tryz.func68 Ac rfl (R:=fun tmps=>tmps.getD 4 undef) (fun _ _=>results_tmp Ac _ _ _) (fun _ _=>events_results_tmp Ac _ _) ?_
 exact kz.1):p:=h ⟨k⟩
theorem J75{p q:Prop}(k:q)(h:Hd q->p:=by
 intro kz
 refine Ex (.pointer (some ⟨g,0,none⟩)) ?_;walk_nrm
 exact kz.1):p:=h ⟨k⟩
theorem Cfw{p:Prop}(h:p:=by
 refine Bnc ?_;intro hT'
 exact A6.only hrd (.op o ho hw fun d=>let⟨x,w',L',h1,h2,h3,h4⟩:=Qi (J:=J) hT' W.ji W.rc H d;⟨x,w',h1,Bo x w' L' h2 h3 h4⟩)):p:=h
namespace Go.Proofs.YtjoblhlkfmeckaaGreatDoor
open Go Go.Conc Go.Pair Go.RowKit Go.Maps
section
variable {valid:ByteArray->Bool} {Tabs:qq->Prop} {gN:Nat} {J:Loc->Prop} {Bs:Nat->Prop} {Stop:gq->qq->Prop} {u:qq}
theorem Ij{w:qq}{cb:Nat}{kind:Int}{p d n:ByteArray}{v:Int}(h:w.heap[cb]? = lp (ye (Dc kind p d n v) 130))(hj:∀k,¬J (.cell ⟨cb,k,od⟩))(o:Oper)(k:Nat)(ho:o.op=.load 130 (.tmp k))(a:Act)(hk:a.eval (.tmp k)=om (lp ⟨cb,0,od⟩)) :
  Go.Pair.Yields ly (execOp a.eval o) w (J4 kind p d n v) w/\∀e∈(execOp a.eval o).events ly w #[],EvJ J w.heap.size e:=by
 obtain⟨c0,c1,c2,c3,c4⟩:=Ck5 (w:=w) 0 1 2 3 4 h
 unfold execOp
 rw [ho]
 simp only [hk]
 refine⟨.inl ?_,fun e he=>?_⟩
 ·go_simp
 ·simp [go_sem,c0,c1,c2,c3,c4] at he
  rcases he with rfl|rfl|rfl|rfl|rfl <;> exact⟨hj _,ltOf h⟩
def Yk(J:Loc->Prop)(Bs:Nat->Prop)(rb:Nat)(rc:Array tj)(svb:Nat)(vc:Array tj)(eb:Nat)(what:Int)(q:ByteArray)(sm:Nat)(ss:List (Int×Nat))(w:qq):Prop:=F2 rb rc 130 svb vc w/\w.heap[eb]? = lp (ye #[rl tz what,pt q] 256)/\Bm ly 3 w sm (Fp ss)/\VW J Bs w
theorem Yk.at{rb:Nat}{rc:Array tj}{svb:Nat}{vc:Array tj}{eb:Nat}{what:Int}{q:ByteArray}{sm:Nat}{ss:List (Int×Nat)}(w:qq)(d:Nat)(h:Yk J Bs rb rc svb vc eb what q sm ss w):Yk J Bs rb rc svb vc eb what q sm ss (w.at d):=⟨h.1,h.2.1,h.2.2.1.of_block rfl,h.2.2.2.at d⟩
theorem Yk.kx{rb:Nat}{rc:Array tj}{svb:Nat}{vc:Array tj}{eb:Nat}{what:Int}{q:ByteArray}{sm:Nat}{ss:List (Int×Nat)}{w w':qq}{X:Nat->Prop}(h:Yk J Bs rb rc svb vc eb what q sm ss w)(hk:Ar w w' X)(W:VW J Bs w')(h1:¬X rb)(h2:¬X svb)(h3:¬X eb)(h4:¬X sm):Yk J Bs rb rc svb vc eb what q sm ss w':=⟨h.1.kx hk h1 h2,hk.get h.2.1 h3,h.2.2.1.of_block (hk.block _ h.2.2.1.lt h4),W⟩
def BC(z x:Int)(q:ByteArray):List UInt8:=be (be (-1) 4++be z 8++be 0 4++be x 4++be q.size 4++q.data.toList).length 4++(be (-1) 4++be z 8++be 0 4++be x 4++be q.size 4++q.data.toList)
theorem CW:Keyed ly 3:=int_keyed underlying3
theorem FO{w:qq}{eg:Nat}{what:Int}{q:ByteArray}(c0:w.cell? ⟨eg,0,od⟩=lp (rl tz what))(c1:w.cell? ⟨eg,1,od⟩=lp (pt q))(hj:∀k,¬J (.cell ⟨eg,k,od⟩))(o:Oper)(k:Nat)(ho:o.op=.load 256 (.tmp k))(a:Act)(hk:a.eval (.tmp k)=om (lp ⟨eg,0,od⟩)) :
  Go.Pair.Yields ly (execOp a.eval o) w (.agg #[rl tz what,pt q]) w/\∀e∈(execOp a.eval o).events ly w #[],EvJ J w.heap.size e:=by
 unfold execOp
 rw [ho]
 simp only [hk]
 refine⟨.inl ?_,fun e he=>?_⟩
 ·go_simp
 ·simp [go_sem,c0,c1] at he
  have hl:eg<w.heap.size:=Lr c0
  rcases he with rfl|rfl <;> exact⟨hj _,hl⟩
theorem KG{w:qq}{eb:Nat}{what:Int}{q:ByteArray}(h:w.heap[eb]? = lp (ye #[rl tz 0,pt ⟨#[]⟩] 256))(hj:∀k,¬J (.cell ⟨eb,k,od⟩))(o:Oper)(ho:o.op=.store 256 (.tmp 7) (.tmp 30))(a:Act)(h6:a.eval (.tmp 7)=om (lp ⟨eb,0,od⟩))(h17:a.eval (.tmp 30)=.agg #[rl tz what,pt q]) :
  (∀d,Go.Pair.Yields ly (execOp a.eval o) (w.at d) yj (((w.setCell ⟨eb,0,od⟩ (rl tz what)).setCell ⟨eb,1,od⟩ (pt q)).at d))/\∀d,∀e∈(execOp a.eval o).events ly (w.at d) #[],EvJ J ((w.setCell ⟨eb,0,od⟩ (rl tz what)).setCell ⟨eb,1,od⟩ (pt q)).heap.size e:=by
 have Di:((w.setCell ⟨eb,0,od⟩ (rl tz what)).setCell ⟨eb,1,od⟩ (pt q)).heap.size=w.heap.size:=by simp [size_setCell]
 refine⟨fun d=>.inr ⟨?_,rfl⟩,fun d=>?_⟩
 all_goals
  obtain⟨a0,a1⟩:=BH (w:=(w.at d)) 0 1 h
  obtain⟨f0,f1⟩:=Fk2 (w:=(w.at d)) 0 1 h
  unfold execOp
  rw [ho]
  simp only [h6,h17]
 ·go_simp
  simp only [at_set]
 ·intro e he
  simp [go_sem,a0,a1,f0,f1,events_store _ _ _ _ (Value.string _) zw rfl,storedEv] at he
  have hl:eb<((w.setCell ⟨eb,0,od⟩ (rl tz what)).setCell ⟨eb,1,od⟩ (pt q)).heap.size:=by rw [Di];exact ltOf h
  rcases he with rfl|rfl <;> exact⟨hj _,hl⟩
theorem VH{ops:Array Oper}{I:qq->Prop}{oi:Oper}{x:tj}{a:Act}{S:Env}{fn:FuncId}(hw:Region.wanted oi (yielded ops a.tmps)=s7)(hT:Sj ly S fn oi)(Ga:S.reg fn a.tmps)(hI:∀w,I w->VW J Bs w)(h:∀w,I w->(execOp a.eval oi).run ly w=.ok (.value x) w)(hL:∀w L,I w->Cq Bs w L->(execOp a.eval oi).run ly L=.ok (.value x) L):YV ly J ops I oi x a:=by
 refine⟨fun h=>absurd (hw.symm.trans h) Ae,fun _ w hIw=>?_⟩
 have hT':Ev ly (Ta ly S) (execOp a.eval oi) (fun _=>False):=by
  exact Sj6
 obtain⟨y,w',L',hR,_⟩:=Qi (J:=J) (Bs:=Bs) hT' (hI w hIw).ji (hI w hIw).rc (R:=fun _ _=>True) (fun L hs=>⟨x,L,.inl (hL w L hIw hs),trivial⟩) w.drawn
 exact UK (show RL ly J _ w y w' from hR) (h w hIw)
theorem Vw(U:Jk valid Tabs)(C:Cx Tabs gN J Bs u)(svb db tb mb wm sm s1 s2:Nat)(last:Int)(down:Bool)(num:Int)(ns:List (ByteArray×Nd))(n2 p2 t2 v2 e2:tj)(hb:u.heap[s2]? = lp (ye (Bl n2 p2 t2 v2 e2 (cf od 0 0)) 75))(gs:gN<=s2)(j5:¬J (.cell ⟨s2,5,od⟩))(hv:u.heap[svb]? = lp (ye (B0 db tb wm sm last down) 84))(nv:¬Bs svb)(hsv:svb≠s2)(ht:Ca u tb mb num ns)(nt:¬Bs tb)(nm:¬Bs mb)(hz1:-9223372036854775808<=num)(hz2:num<=9223372036854775807)(hm:Bm ly 3 u sm (Fp [(1,s1),(2,s2)]))(nsm:¬Bs sm)(ks:List tj)(hw:Lo u wm ks)(nw:¬Bs wm)(gw:gN<=wm)(nws:wm≠s2)(nwv:wm≠svb)(nwt:wm≠tb)(nwm:wm≠mb)(nwsm:wm≠sm)(kind:Nat)(Ia:kind<4)(T:List Tl)(h3:T.length<=3)(hT:∀L,Yn Tabs gN L->∃g,g<gN/\Hn L kind g T)(hof:∀x∈T,(Lit.int tz x.1).wf=s7)(q d n:ByteArray)(v:Int)(hq:q.size<=200)(hqv:valid q=s7)(hsl:Dj q=s7)(hno1:∀x∈T,Dw 1 (if x.2.1 then Ds q else q) x.1∉ks)(hcase:(∀x∈T,Dw 2 (if x.2.1 then Ds q else q) x.1∉ks)∨∃what T0,T=(0,vp,what) :: T0/\ks = [Dw 2 q 0]/\(-2147483648:Int)<=what/\what<=2147483647) :
  Bz ly s7 J Stop 145 #[om (lp ⟨svb,0,od⟩),J4 kind q d n v] u fun x u'=>x=fh #[]/\VW J Bs u'/\(((∀x∈T,Dw 2 (if x.2.1 then Ds q else q) x.1∉ks)/\Ar u u' (fun _=>False)) ∨
   ∃what T0,T=(0,vp,what) :: T0/\ks = [Dw 2 q 0]/\Ar u u' (fun i=>i=s2∨i=wm)/\Lo u' wm []/\∃ov l,l=BC num what q/\u'.heap[s2]? = lp (ye (Bl n2 p2 t2 v2 e2 ov) 75)/\u'.ownsRow u.heap.size 5 1 ov l.length (A0 l)):=by
 have Cg:=ltOf hb
 refine Br func145 Ac rfl (R:=fun _=>fh #[]) (fun _ _=>results_none Ac _ _ _) (fun _ _=>events_results_none Ac _ _) ?_
 simp only [ntmps145,na,Nat.reduceAdd,Nat.reduceSub]
 refine Fck ?_
 refine E9 (Dc kind q d n v) 130 ?_;walk_nrm
 refine Am ?_
 have H0:=B8 u (Dc kind q d n v) 130 (fun _=>False)
 have W1:=C.W.alloc (Dc kind q d n v) 130
 have F7:(u.alloc (ye (Dc kind q d n v) 130)).heap[u.heap.size]? = lp (ye (Dc kind q d n v) 130):=tw _ _
 generalize u.alloc (ye (Dc kind q d n v) 130)=u1 at H0 W1 F7 ⊢
 have hv1:=H0.get hv id
 refine Iup ?_;intro nr jr
 refine Kao ?_;intro jv
 refine Fck ?_
 refine Nao ?_
 refine Bq (cellOf (j:=3) hv1 rfl) (jv 3) (ltOf hv1) ?_;walk_nrm
 refine By (Abi W1 sm) rfl Ac rfl (by walk_nrm) ?_
 rintro x u2 ⟨rfl,H2,W2,hx2⟩
 walk_nrm
 have hm2:Bm ly 3 u2 sm (Fp [(1,s1),(2,s2)]):=(hm.of_block (H0.block _ hm.lt id)).of_block (H2.block _ (aB hm.lt H0.size) id)
 refine By (UO W2 sm u1.heap.size s1 s2 hm2 nsm hx2 (fun h=>by have:=W1.lt h;omega)) rfl Ac rfl (by walk_nrm) ?_
 rintro x u3 ⟨hk3,W3,gr,gcap,rfl,hgr,hc0,hc1⟩
 walk_nrm
 refine Lh6 ?_
 refine Am ?_
 have hk03:=(H0.trans H2).trans hk3
 have Ft:=H2.trans hk3
 have ngr:¬Bs gr:=fun h=>by have h1:=C.W.lt h;have h2:=H0.size;have h3:=H2.size;omega
 have jgr:∀k,¬J (.cell ⟨gr,k,od⟩):=fun k h=>ngr (C.W.ji.cell _ h)
 have hr3:=Ft.get F7 id
 have hv3:=hk03.get hv id
 have hw3:Lo u3 wm ks:=hw.keep (hk03.block _ (Bm.lt hw) id)
 have C3:=C.kx hk03 W3 fun _ h=>h.elim
 refine Dt ?_
 refine I1 ?_
 refine Fck ?_
 refine Pdv ?_
 refine Bvs ?_
 refine Fck ?_
 refine Ak ?_
 refine Bq hc0 (jgr 0) (Lr hc0) ?_;walk_nrm
 refine Pdv ?_
 refine Aw ?_
 have hI3:=F2.at (rb:=u.heap.size) (rc:=Dc kind q d n v) (rt:=130) (svb:=svb) (vc:=B0 db tb wm sm last down)
 refine Ei (I:=F2 u.heap.size (Dc kind q d n v) 130 svb (B0 db tb wm sm last down)) Ac fun d3=>?_
 have hS3:F2 u.heap.size (Dc kind q d n v) 130 svb (B0 db tb wm sm last down) (u3.at d3):=⟨hr3,hv3⟩
 refine A6.tp 0 hI3 (fun _ _ d h=>A8 h d) hS3 ?_;walk_nrm
 refine A6.tp 1 hI3 (fun _ _ d h=>A8 h d) hS3 ?_;walk_nrm
 refine A6.tp 2 hI3 (fun _ _ d h=>A8 h d) hS3 ?_;walk_nrm
 refine A6.tp 4 hI3 (fun _ _ d h=>A8 h d) hS3 ?_;walk_nrm
 refine A6.tp 8 hI3 (fun _ _ d h=>A8 h d) hS3 ?_;walk_nrm
 refine A6.tl 3 hI3 (fun _ _ d h=>A8 h d) hS3 (fun w (hw:F2 _ _ _ _ _ w)=>(cellOf (j:=2) hw.2 rfl:w.cell? ⟨svb,2,od⟩=lp (.map (lp wm)))) (jv 2) (fun w (hw:F2 _ _ _ _ _ w)=>ltOf hw.2) ?_;walk_nrm
 refine A6.take (i:=5) (x:=(J4 kind q d n v)) hI3 (fun _ _ d h=>A8 h d) rfl Aa Aa Aa (Ge (S:=env Lv) Ac (Dp (fn:=0) Aa) (Bg _ _) ?_) hS3 ?_
 ·exact fun w hw=>Ij hw.1 jr _ _ rfl _ Ac
 walk_nrm
 refine Cb (i:=6) (Fc (f:=177) (args:=#[.map (lp wm),rl tz 1,J4 kind q d n v]) Ad (W3.at d3) (X:=fun _=>False) (R:=fun y _=>y=cf od 0 0) fun L hs=>?_) Aa rfl Ac rfl (by walk_nrm) ?_
 ·have Gv:=(C3.kx ((Ar.refl u3 (fun _=>False)).at d3) (W3.at d3) fun _ h=>h.elim).glob hs
  obtain⟨g,hg1,hT4⟩:=hT L Gv
  have hwL:Lo L wm ks:=Lo.sim (u:=u3.at d3) (hw3.keep rfl) (W3.at d3).nf hs nw
  exact(U6 hwL Ia hT4 h3 (by have:=Gv.size;have:=C.g8;omega) (by have:=Gv.size;omega) Ad hof Ab hsl d n v hno1).mono fun e w' h=>⟨⟨_,h.1,rfl⟩,Bp h.2⟩
 rintro y u4 ⟨hk4',W4,L4,hs4,rfl⟩
 have hS4:=hS3.kx hk4' id id
 refine⟨hS4,?_⟩
 walk_nrm
 refine A6.tp 7 hI3 (fun _ _ d h=>A8 h d) hS4 ?_;walk_nrm
 refine Ybw ?_
 refine Dt ?_
 refine I1 ?_
 refine Fck ?_
 refine Pdv ?_
 refine Wjq ?_
 have hk34:Ar u3 u4 (fun _=>False):=((Ar.refl u3 _).at d3).trans hk4'
 have hk04:=hk03.trans hk34
 have C4:=C.kx hk04 W4 fun _ h=>h.elim
 have hw4:Lo u4 wm ks:=hw3.keep (hk34.block _ (Bm.lt hw3) id)
 have hc1':u4.cell? ⟨gr,1,od⟩=lp (rl tz 2):=(Ew (hk34.block gr (Lr hc1) id)).trans hc1
 obtain⟨hr4,hv4⟩:=hS4
 refine A5 ?_
 refine Ex (rl tz 1) ?_;walk_nrm
 refine Pdv ?_
 refine Ye ?_
 refine Fck ?_
 refine Pdv ?_
 refine Bvs ?_
 refine Fck ?_
 refine Ex (om (lp ⟨gr,1,od⟩)) ?_;walk_nrm
 rcases hcase with hn2|⟨what,T0,hTT,hks,hwh1,hwh2⟩
 ·
  refine Ccf ?_;intro hI4 d4 hS4
  refine A6.take (i:=5) (x:=(J4 kind q d n v)) hI4 (fun _ _ d h=>A8 h d) rfl Aa Aa Aa (Ge (S:=env Lv) Ac (Dp (fn:=0) Aa) (Bg _ _) ?_) hS4 ?_
  ·exact fun w hw=>Ij hw.1 jr _ _ rfl _ Ac
  walk_nrm
  refine Cb (i:=6) (Fc (f:=177) (args:=#[.map (lp wm),rl tz 2,J4 kind q d n v]) Ad (W4.at d4) (X:=fun _=>False) (R:=fun y _=>y=cf od 0 0) fun L hs=>?_) Aa rfl Ac rfl (by walk_nrm) ?_
  ·refine Qab ?_;intro Gv g hg1 hT4 hwL
   exact(U6 hwL Ia hT4 h3 (by have:=Gv.size;have:=C.g8;omega) (by have:=Gv.size;omega) Ad hof Ab hsl d n v hn2).mono fun e w' h=>⟨⟨_,h.1,rfl⟩,Bp h.2⟩
  rintro y u5 ⟨hk5',W5,L5,hs5,rfl⟩
  have hS5:=hS4.kx hk5' id id
  refine⟨hS5,?_⟩
  walk_nrm
  refine A6.tp 7 hI4 (fun _ _ d h=>A8 h d) hS5 ?_;walk_nrm
  refine Ybw ?_
  refine Dt ?_
  refine I1 ?_
  refine Fck ?_
  refine Pdv ?_
  refine Wjq ?_
  have hk45:Ar u4 u5 (fun _=>False):=((Ar.refl u4 _).at d4).trans hk5'
  refine A5 ?_
  refine Ex (rl tz 2) ?_;walk_nrm
  refine Pdv ?_
  refine Ye ?_
  refine Fck ?_
  refine Pdv ?_
  refine Wjq ?_
  exact⟨.inl trivial,trivial,trivial,W5,.inl ⟨hn2,hk04.trans hk45⟩⟩
 ·
  refine Ccf ?_;intro hI4 d4 hS4
  refine A6.take (i:=5) (x:=(J4 kind q d n v)) hI4 (fun _ _ d h=>A8 h d) rfl Aa Aa Aa (Ge (S:=env Lv) Ac (Dp (fn:=0) Aa) (Bg _ _) ?_) hS4 ?_
  ·exact fun w hw=>Ij hw.1 jr _ _ rfl _ Ac
  walk_nrm
  refine Cb (i:=6) (Fc (f:=177) (args:=#[.map (lp wm),rl tz 2,J4 kind q d n v]) Ad (W4.at d4) (X:=(· = wm)) (R:=fun y w'=>Lo w' wm []/\w'.ownsRow u4.heap.size 256 2 y 1 [rl tz what,pt q]) fun L hs=>?_) Aa rfl Ac rfl (by walk_nrm) ?_
  ·refine Qab ?_;intro Gv g hg1 hT4 hwL
   refine(KH hwL Ia hT4 h3 (by have:=Gv.size;have:=C.g8;omega) (by have:=Gv.size;omega) Ad hof Ab hsl d n v hTT hks (by have:=C.g8;omega) Ab).mono fun e w' h=>?_
   obtain⟨⟨ov,h1,h2⟩,h3',h4⟩:=h
   rw [hs.size] at h2
   exact⟨⟨ov,h1,h4,h2⟩,h3'⟩
  rintro y u5 ⟨hk5',W5,L5,hs5,hw5',ho5'⟩
  have hwlt:=Bm.lt hw
  have hne1:¬u.heap.size=wm:=fun h=>Ab
  have hS5:=hS4.kx hk5' hne1 (fun h=>nwv h.symm)
  refine⟨hS5,?_⟩
  walk_nrm
  have hw5:Lo u5 wm []:=hw5'.keep (hs5.same W5.nf nw).symm
  have ho5:u5.ownsRow u4.heap.size 256 2 y 1 [rl tz what,pt q]:=D8 ho5' fun g hg _=>(hs5.same W5.nf fun hB=>by have:=W4.lt hB;omega).symm
  obtain⟨_,⟨_,h⟩|⟨eg,ecap,cur,rfl,heg,hbe,hce,_,hse,hte⟩⟩:=ho5
  ·omega
  have hk45:Ar u4 u5 (· = wm):=((Ar.refl u4 _).at d4).trans hk5'
  have hk05:Ar u u5 (· = wm):=(hk04.mono fun _ h=>h.elim).trans hk45
  have C5:=C.kx hk05 W5 fun i h=>by rw [h];exact gw
  have ce0:u5.cell? ⟨eg,0,od⟩=lp (rl tz what):=by
   have e1:(cur.toList.take (1 * 2))[0]? = lp (rl tz what):=by rw [hte];rfl
   rw [cK Ab,dC] at e1
   exact cellOf (j:=0) hbe e1
  have ce1:u5.cell? ⟨eg,1,od⟩=lp (pt q):=by
   have e1:(cur.toList.take (1 * 2))[1]? = lp (pt q):=by rw [hte];rfl
   rw [cK Ab,dC] at e1
   exact cellOf (j:=1) hbe e1
  have neg:¬Bs eg:=fun h=>by have h1:=W4.lt h;omega
  have jeg:∀k,¬J (.cell ⟨eg,k,od⟩):=fun k h=>neg (C.W.ji.cell _ h)
  refine A6.tp 7 hI4 (fun _ _ d h=>A8 h d) hS5 ?_;walk_nrm
  refine Ybw ?_
  refine Dt ?_
  refine I1 ?_
  refine Fck ?_
  refine Pdv ?_
  refine Bvs ?_
  refine Fck ?_
  refine Ex (om (lp ⟨eg,0,od⟩)) ?_;walk_nrm
  refine Ef (S:=env Lv) (fn:=145) rfl Ac (Dp Aa) (Bg _ _) (x:=.agg #[rl tz what,pt q]) (v':=u5) (fun d'=>(FO (J:=J) (w:=u5.at d') ce0 ce1 jeg _ _ rfl _ Ac).1) (fun d'=>(FO (J:=J) (w:=u5.at d') ce0 ce1 jeg _ _ rfl _ Ac).2) ?_
  walk_nrm
  refine E9 #[rl tz 0,pt ⟨#[]⟩] 256 ?_;walk_nrm
  have hk6:=B8 u5 #[rl tz 0,pt ⟨#[]⟩] 256 (fun _=>False)
  have W6:=W5.alloc #[rl tz 0,pt ⟨#[]⟩] 256
  have hb6:(u5.alloc (ye #[rl tz 0,pt ⟨#[]⟩] 256)).heap[u5.heap.size]? = lp (ye #[rl tz 0,pt ⟨#[]⟩] 256):=tw _ _
  generalize u5.alloc (ye #[rl tz 0,pt ⟨#[]⟩] 256)=u6 at hk6 W6 hb6 ⊢
  have neb:¬Bs u5.heap.size:=fun h=>by have:=W5.lt h;omega
  have jeb:∀k,¬J (.cell ⟨u5.heap.size,k,od⟩):=fun k h=>neb (C.W.ji.cell _ h)
  have SE:=KG (J:=J) (what:=what) (q:=q) hb6 jeb
  refine Ef (S:=env Lv) (fn:=145) rfl Ac (Dp Aa) (Bg _ _) (x:=yj) (v':=(u6.setCell ⟨u5.heap.size,0,od⟩ (rl tz what)).setCell ⟨u5.heap.size,1,od⟩ (pt q)) (SE _ rfl _ Ac Ac).1 (SE _ rfl _ Ac Ac).2 ?_
  walk_nrm
  refine Am ?_
  have T7:Bn u6 ((u6.setCell ⟨u5.heap.size,0,od⟩ (rl tz what)).setCell ⟨u5.heap.size,1,od⟩ (pt q)) u5.heap.size #[rl tz what,pt q] 256:=((Bn.refl hb6).set 0 _).set 1 _
  have W7:VW J Bs ((u6.setCell ⟨u5.heap.size,0,od⟩ (rl tz what)).setCell ⟨u5.heap.size,1,od⟩ (pt q)):=W6.set T7 (NF.setCell (NF.setCell W6.nf _ _) _ _)
  generalize (u6.setCell ⟨u5.heap.size,0,od⟩ (rl tz what)).setCell ⟨u5.heap.size,1,od⟩ (pt q)=u7 at T7 W7 ⊢
  have hk57:Ar u5 u7 (fun _=>False):=⟨T7.grown.os.trans hk6.os,T7.grown.tape.trans hk6.tape,T7.grown.output.trans hk6.output,aE hk6.size T7.grown.size,fun k hk _=>(T7.grown.block k (aB hk hk6.size) (fun h=>by cases h;omega)).trans (hk6.block k hk id)⟩
  have hk07:Ar u u7 (· = wm):=hk05.trans (hk57.mono fun _ h=>h.elim)
  have hne2:¬sm=wm:=fun h=>nwsm h.symm
  have hm7:Bm ly 3 u7 sm (Fp [(1,s1),(2,s2)]):=hm.of_block (hk07.block _ hm.lt hne2)
  have hsms:sm≠s2:=fun h=>by
   obtain⟨es,clock,h1,_⟩:=hm.ex
   rw [h,hb] at h1
   cases h1
  have hI7:=Yk.at (J:=J) (Bs:=Bs) (rb:=u.heap.size) (rc:=Dc kind q d n v) (svb:=svb) (vc:=B0 db tb wm sm last down) (eb:=u5.heap.size) (what:=what) (q:=q) (sm:=sm) (ss:=[(1,s1),(2,s2)])
  refine Ei (I:=Yk J Bs u.heap.size (Dc kind q d n v) svb (B0 db tb wm sm last down) u5.heap.size what q sm [(1,s1),(2,s2)]) Ac fun d7=>?_
  have hS7:Yk J Bs u.heap.size (Dc kind q d n v) svb (B0 db tb wm sm last down) u5.heap.size what q sm [(1,s1),(2,s2)] (u7.at d7):=⟨hS5.kx (hk57.at d7) id id,T7.blk,hm7.of_block rfl,W7.at d7⟩
  refine A6.tp 0 hI7 (fun _ _ d h=>A8 h d) hS7 ?_;walk_nrm
  refine A6.tp 1 hI7 (fun _ _ d h=>A8 h d) hS7 ?_;walk_nrm
  refine A6.tp 2 hI7 (fun _ _ d h=>A8 h d) hS7 ?_;walk_nrm
  refine A6.tp 4 hI7 (fun _ _ d h=>A8 h d) hS7 ?_;walk_nrm
  refine A6.tp 6 hI7 (fun _ _ d h=>A8 h d) hS7 ?_;walk_nrm
  refine A6.tp 7 hI7 (fun _ _ d h=>A8 h d) hS7 ?_;walk_nrm
  refine A6.tp 8 hI7 (fun _ _ d h=>A8 h d) hS7 ?_;walk_nrm
  refine A6.tp 11 hI7 (fun _ _ d h=>A8 h d) hS7 ?_;walk_nrm
  refine A6.tp 13 hI7 (fun _ _ d h=>A8 h d) hS7 ?_;walk_nrm
  refine A6.tl 3 hI7 (fun _ _ d h=>A8 h d) hS7 (fun w (hw:Yk _ _ _ _ _ _ _ _ _ _ _ w)=>(cellOf (j:=3) hw.1.2 rfl:w.cell? ⟨svb,3,od⟩=lp (.map (lp sm)))) (jv 3) (fun w (hw:Yk _ _ _ _ _ _ _ _ _ _ _ w)=>ltOf hw.1.2) ?_;walk_nrm
  refine A6.tl 9 hI7 (fun _ _ d h=>A8 h d) hS7 (fun w (hw:Yk _ _ _ _ _ _ _ _ _ _ _ w)=>(cellOf (j:=1) hw.1.2 rfl:w.cell? ⟨svb,1,od⟩=lp (om (lp ⟨tb,0,od⟩)))) (jv 1) (fun w (hw:Yk _ _ _ _ _ _ _ _ _ _ _ w)=>ltOf hw.1.2) ?_;walk_nrm
  refine A6.tl 12 hI7 (fun _ _ d h=>A8 h d) hS7 (fun w (hw:Yk _ _ _ _ _ _ _ _ _ _ _ w)=>(cellOf (j:=0) hw.2.1 rfl:w.cell? ⟨u5.heap.size,0,od⟩=lp (rl tz what))) (jeb 0) (fun w (hw:Yk _ _ _ _ _ _ _ _ _ _ _ w)=>ltOf hw.2.1) ?_;walk_nrm
  refine A6.tl 14 hI7 (fun _ _ d h=>A8 h d) hS7 (fun w (hw:Yk _ _ _ _ _ _ _ _ _ _ _ w)=>(cellOf (j:=1) hw.2.1 rfl:w.cell? ⟨u5.heap.size,1,od⟩=lp (pt q))) (jeb 1) (fun w (hw:Yk _ _ _ _ _ _ _ _ _ _ _ w)=>ltOf hw.2.1) ?_;walk_nrm
  have hlook:∀w:qq,Bm ly 3 w sm (Fp [(1,s1),(2,s2)])->(Instr.lookup 82 (.map (lp sm)) (rl tz 2) vp).run ly w=.ok (om (lp ⟨s2,0,od⟩)) w:=fun w hmw=>Bm.look_some vp hmw CW underlying82 (kl:=.int .i64 2) Aa (v:=om (lp ⟨s2,0,od⟩)) (by simp [Fp])
  refine A6.take (i:=5) (x:=om (lp ⟨s2,0,od⟩)) hI7 (fun _ _ d h=>A8 h d) rfl Aa Aa Aa (VH (Bs:=Bs) (S:=env Lv) (fn:=0) Ac (Dp Aa) (Bg _ _) (fun w hw=>hw.2.2.2) (fun w hw=>?_) (fun w L hw hs=>?_)) hS7 ?_
  ·unfold execOp
   walk_nrm
   simp only [Sem.run_bind,hlook w hw.2.2.1]
   rfl
  ·unfold execOp
   walk_nrm
   simp only [Sem.run_bind,hlook L (hw.2.2.1.of_block (hs.same hw.2.2.2.nf nsm))]
   rfl
  walk_nrm
  have ht7:=ht.kx hk07 (fun h=>nwt h.symm) (fun h=>nwm h.symm)
  have hb7:=hk07.get hb (fun h=>nws h.symm)
  refine Cb (i:=10) (Fc (f:=31) (args:=#[om (lp ⟨tb,0,od⟩)]) Ad (W7.at d7) (X:=fun _=>False) (R:=fun x _=>x=rl tz num) fun L hs=>?_) Aa rfl Ac rfl (by walk_nrm) ?_
  ·exact(Kb L tb mb num ns ((ht7.at d7).sim (W7.at d7).nf hs nt nm)).mono fun e w' h=>⟨⟨_,h.1,rfl⟩,by rw [h.2];exact Ar.refl _ _⟩
  rintro x u8 ⟨hk8,W8,L8,hs8,rfl⟩
  have hS8:=hS7.kx hk8 W8 id id id id
  refine⟨hS8,?_⟩
  walk_nrm
  have hk78:Ar u7 u8 (fun _=>False):=((Ar.refl u7 _).at d7).trans hk8
  have hk08:Ar u u8 (· = wm):=hk07.trans (hk78.mono fun _ h=>h.elim)
  have C8:=C.kx hk08 W8 fun i h=>by rw [h];exact gw
  refine Cb (i:=15) (Fc (f:=178) (args:=#[rl tz num,rl tz what,pt q]) Ad W8 (X:=fun _=>False) (R:=fun x w'=>w'.ownsRow u8.heap.size 5 1 x (BC num what q).length (A0 (BC num what q))) fun L hs=>?_) Aa rfl Ac rfl (by walk_nrm) ?_
  ·have Gv:=C8.glob hs
   refine(IH U L Gv.tabs Gv.table num what q hz1 hz2 hwh1 hwh2 hq hqv).mono fun e w' h=>?_
   obtain⟨⟨ov,h1,h2⟩,h3'⟩:=h
   rw [hs.size] at h2
   exact⟨⟨ov,h1,h2⟩,Bp h3'⟩
  rintro f u9 ⟨hk9,W9,L9,hs9,ho9⟩
  have hS9:=hS8.kx hk9 W9 id id id id
  refine⟨hS9,?_⟩
  walk_nrm
  have hk79:=hk78.trans hk9
  have hb9:=hk79.get hb7 id
  have hlen:(BC num what q).length=28+q.size:=by simp [BC,be_length];omega
  refine Cb (i:=16) (GC W9 s2 u8.heap.size f n2 p2 t2 v2 e2 (BC num what q) (by intro h;rw [h] at hlen;simp at hlen;omega) Ab hb9 (Ju W9 W9.nf hs9 (fun i hi=>W8.lt hi) ho9) (fun i hi=>W8.lt hi) j5) Aa rfl Ac rfl (by walk_nrm) ?_
  rintro x u10 ⟨rfl,T10,W10⟩
  have hk57':=hk57.size
  have hS10:=hS9.kx T10.kept W10 Ab hsv (by have:=hk05.size;omega) hsms
  refine⟨hS10,?_⟩
  walk_nrm
  refine Fbn ?_
  simp only [Az,As]
  have hw9:Lo u9 wm []:=hw5.keep ((hk79.block _ (by have:=hk57.size;have:=Bm.lt hw5;omega) id).trans (hk57.block _ (Bm.lt hw5) id))
  have hw10:Lo u10 wm []:=hw9.keep (T10.kept.block _ (Bm.lt hw9) nws)
  obtain⟨ov,ho1,ho2⟩:=T10.out
  have hk09:Ar u u9 (· = wm):=hk07.trans (hk79.mono fun _ h=>h.elim)
  refine A5 ?_
  refine Ex (rl tz 1) ?_;walk_nrm
  refine Pdv ?_
  refine Ye ?_
  refine Fck ?_
  refine Pdv ?_
  refine Wjq ?_
  refine A5 ?_
  refine Ex (rl tz 2) ?_;walk_nrm
  refine Pdv ?_
  refine Ye ?_
  refine Fck ?_
  refine Pdv ?_
  refine Wjq ?_
  exact⟨.inl trivial,trivial,trivial,W10,.inr ⟨what,T0,hTT,hks,(hk09.mono fun _ h=>.inr h).trans (T10.kept.mono fun _ h=>.inl h),hw10,ov,_,rfl,ho1,Df ho2 hk09.size⟩⟩
end
section
variable {valid:ByteArray->Bool} {Tabs:qq->Prop} {gN:Nat} {J:Loc->Prop} {Bs:Nat->Prop} {Stop:gq->qq->Prop} {u:qq}
theorem Rx{w:qq}{nb:Nat}{x:Nd}(h:w.heap[nb]? = lp (ye Nd.zero.cs 96))(hj:∀k,¬J (.cell ⟨nb,k,od⟩))(o:Oper)(i j:Nat)(ho:o.op=.store 96 (.tmp i) (.tmp j))(a:Act)(h6:a.eval (.tmp i)=om (lp ⟨nb,0,od⟩))(h17:a.eval (.tmp j)=x.val) :
  (∀d,Go.Pair.Yields ly (execOp a.eval o) (w.at d) yj ((Jg w nb x).at d))/\∀d,∀e∈(execOp a.eval o).events ly (w.at d) #[],EvJ J (Jg w nb x).heap.size e:=by
 have key:=Pr (J:=J) (x:=x) h hj { o with op:=.store 96 (.tmp 6) (.tmp 17) } rfl { tmps:=((Array.replicate 18 yj).setIfInBounds 6 (om (lp ⟨nb,0,od⟩))).setIfInBounds 17 x.val,defers:=[] } Ac Ac
 have e:∀(ρ:Operand->tj) (o':Oper) (x1 x2:Operand),o'.op=.store 96 x1 x2->execOp ρ o'=(do Instr.storeAt 96 (ρ x1) (ρ x2);Pure.pure Next.skip):=fun ρ o' x1 x2 h=>by
  unfold execOp
  rw [h]
 rw [e _ _ _ _ rfl] at key
 rw [e _ _ _ _ ho,h6,h17]
 exact key
theorem JC(U:Jk valid Tabs)(C:Cx Tabs gN J Bs u)(svb db tb mb wm sm:Nat)(last:Int)(down:Bool)(num:Int)(ns:List (ByteArray×Nd))(hv:u.heap[svb]? = lp (ye (B0 db tb wm sm last down) 84))(nv:¬Bs svb)(ht:Ca u tb mb num ns)(nt:¬Bs tb)(nm:¬Bs mb)(tk:R9 num ns)(p d n:ByteArray)(v:Int):Bz ly s7 J Stop 146 #[om (lp ⟨svb,0,od⟩),J4 1 p d n v] u fun lv u'=>Ar u u' (fun _=>False)/\VW J Bs u'/\RU Bs u' [txt p] lv:=by
 have Cg:=ltOf hv
 refine Kao ?_;intro jv
 refine Fv4 ?_
 refine Fck ?_
 refine E9 (Dc 1 p d n v) 130 ?_;walk_nrm
 have K1:=B8 u (Dc 1 p d n v) 130 (fun _=>False)
 have W1:=C.W.alloc (Dc 1 p d n v) 130
 have F7:(u.alloc (ye (Dc 1 p d n v) 130)).heap[u.heap.size]? = lp (ye (Dc 1 p d n v) 130):=tw _ _
 generalize u.alloc (ye (Dc 1 p d n v) 130)=u1 at K1 W1 F7 ⊢
 refine Iup ?_;intro nr jr
 refine Pdv ?_
 refine Fck ?_
 refine Uva ?_
 refine Fck ?_
 refine Lh6 ?_
 refine K75 ?_
 refine Fck ?_
 refine Ak ?_
 refine Bq (cellOf (j:=1) F7 rfl) (jr 1) (ltOf F7) ?_;walk_nrm
 refine By (Fc (f:=179) (args:=#[pt p]) Ad W1 (X:=fun _=>False) (R:=fun x w'=>Er w' (fun b=>b<w'.heap.size) [txt p] x) fun L hs=>(PE L p).mono fun e w' h=>⟨h.1,Bp h.2⟩) rfl Ac rfl (by walk_nrm) ?_
 rintro lv u2 ⟨K2,W2,L2,hs2,hlv⟩
 walk_nrm
 refine Pdv ?_
 refine Ez ?_
 simp only [Az,As]
 refine⟨.inr trivial,trivial,K1.trans K2,W2,?_⟩
 walk_nrm
 exact Yb W2 hs2 hlv
theorem JD(U:Jk valid Tabs)(C:Cx Tabs gN J Bs u)(svb db tb mb wm sm:Nat)(last:Int)(down:Bool)(num:Int)(ns:List (ByteArray×Nd))(hv:u.heap[svb]? = lp (ye (B0 db tb wm sm last down) 84))(nv:¬Bs svb)(ht:Ca u tb mb num ns)(nt:¬Bs tb)(nm:¬Bs mb)(tk:R9 num ns)(p d n:ByteArray)(v:Int):Bz ly s7 J Stop 146 #[om (lp ⟨svb,0,od⟩),J4 2 p d n v] u fun lv u'=>Ar u u' (fun _=>False)/\VW J Bs u'/\lv=cf od 0 0:=by
 have Cg:=ltOf hv
 refine Kao ?_;intro jv
 refine Fv4 ?_
 refine Fck ?_
 refine E9 (Dc 2 p d n v) 130 ?_;walk_nrm
 have K1:=B8 u (Dc 2 p d n v) 130 (fun _=>False)
 have W1:=C.W.alloc (Dc 2 p d n v) 130
 have F7:(u.alloc (ye (Dc 2 p d n v) 130)).heap[u.heap.size]? = lp (ye (Dc 2 p d n v) 130):=tw _ _
 generalize u.alloc (ye (Dc 2 p d n v) 130)=u1 at K1 W1 F7 ⊢
 refine Iup ?_;intro nr jr
 refine Pdv ?_
 refine Fck ?_
 refine Uva ?_
 refine Fck ?_
 refine Lh6 ?_
 refine Am ?_
 refine Fr7 ?_
 refine Fck ?_
 refine Lh6 ?_
 refine Am ?_
 refine Fr7 ?_
 refine Fck ?_
 refine Pdv ?_
 refine Ez ?_
 simp only [Az,As]
 refine⟨.inr trivial,trivial,K1,W1,?_⟩
 walk_nrm
theorem JF(U:Jk valid Tabs)(C:Cx Tabs gN J Bs u)(svb db tb mb wm sm:Nat)(last:Int)(down:Bool)(num:Int)(ns:List (ByteArray×Nd))(hv:u.heap[svb]? = lp (ye (B0 db tb wm sm last down) 84))(nv:¬Bs svb)(ht:Ca u tb mb num ns)(nt:¬Bs tb)(nm:¬Bs mb)(tk:R9 num ns)(p d n:ByteArray)(v:Int)(hp:Hq p=s7)(hps:p.size<=1000)(x:Nd)(hx:(p,x)∈ns):Bz ly s7 J Stop 146 #[om (lp ⟨svb,0,od⟩),J4 3 p d n v] u fun lv u'=>Ar u u' (fun _=>False)/\VW J Bs u'/\∃ck:Nat,ck<=ns.length/\RU Bs u' [.mk 0 ⟨#[]⟩ [Orch.num x.made,Orch.num x.changed,Orch.num x.version,Orch.num ck]] lv:=by
 have Cg:=ltOf hv
 refine Kao ?_;intro jv
 refine Fv4 ?_
 refine Fck ?_
 refine E9 (Dc 3 p d n v) 130 ?_;walk_nrm
 have K1:=B8 u (Dc 3 p d n v) 130 (fun _=>False)
 have W1:=C.W.alloc (Dc 3 p d n v) 130
 have F7:(u.alloc (ye (Dc 3 p d n v) 130)).heap[u.heap.size]? = lp (ye (Dc 3 p d n v) 130):=tw _ _
 generalize u.alloc (ye (Dc 3 p d n v) 130)=u1 at K1 W1 F7 ⊢
 refine Iup ?_;intro nr jr
 refine Pdv ?_
 refine Fck ?_
 refine Uva ?_
 refine Fck ?_
 refine Lh6 ?_
 refine Am ?_
 refine Fr7 ?_
 refine Fck ?_
 refine Lh6 ?_
 refine K75 ?_
 refine Aw ?_
 have hv1:=K1.get hv id
 have ht1:=ht.kx K1 id id
 have hI:=F2.at (rb:=u.heap.size) (rc:=Dc 3 p d n v) (rt:=130) (svb:=svb) (vc:=B0 db tb wm sm last down)
 refine AX (Q:=fun e a' w'=>e=.normal/\∃nb,a'=⟨#[om (lp ⟨svb,0,od⟩),J4 3 p d n v,yj,om (lp ⟨u.heap.size,0,od⟩),cf od 0 0,om (lp ⟨nb,0,od⟩),rl tz 0,om (lp ((⟨u.heap.size,0,od⟩:Addr).add 0)),rl tz 3,gf (decide ((3:Int)=1)),gf (decide ((3:Int)=1)),yj,yj,yj,gf (decide ((3:Int)=3)),gf (decide ((3:Int)=3)),fh #[x.val,rl tz 0],om (lp ⟨svb,0,od⟩),om (lp ⟨svb,0,od⟩),om (lp ((⟨svb,0,od⟩:Addr).add 1)),om (lp ⟨tb,0,od⟩),om (lp ((⟨u.heap.size,0,od⟩:Addr).add 1)),pt p,fh #[x.val,rl tz 0],x.val,rl tz 0,yj,yj,yj,yj,yj,yj,yj,yj,yj,yj],[]⟩/\u1.heap.size<=nb/\w'.heap[nb]? = lp (ye x.cs 96)/\Ar u1 w' (fun _=>False)/\VW J Bs w') ?_ ?_
 ·refine Ei (I:=F2 u.heap.size (Dc 3 p d n v) 130 svb (B0 db tb wm sm last down)) Ac fun d0=>?_
  have hQ:∀(a:Act) (w:qq) (d':Nat),(kr=kr/\∃nb,a=⟨#[om (lp ⟨svb,0,od⟩),J4 3 p d n v,yj,om (lp ⟨u.heap.size,0,od⟩),cf od 0 0,om (lp ⟨nb,0,od⟩),rl tz 0,om (lp ((⟨u.heap.size,0,od⟩:Addr).add 0)),rl tz 3,gf (decide ((3:Int)=1)),gf (decide ((3:Int)=1)),yj,yj,yj,gf (decide ((3:Int)=3)),gf (decide ((3:Int)=3)),fh #[x.val,rl tz 0],om (lp ⟨svb,0,od⟩),om (lp ⟨svb,0,od⟩),om (lp ((⟨svb,0,od⟩:Addr).add 1)),om (lp ⟨tb,0,od⟩),om (lp ((⟨u.heap.size,0,od⟩:Addr).add 1)),pt p,fh #[x.val,rl tz 0],x.val,rl tz 0,yj,yj,yj,yj,yj,yj,yj,yj,yj,yj],[]⟩/\u1.heap.size<=nb/\w.heap[nb]? = lp (ye x.cs 96)/\Ar u1 w (fun _=>False)/\VW J Bs w)->(kr=kr/\∃nb,a=⟨#[om (lp ⟨svb,0,od⟩),J4 3 p d n v,yj,om (lp ⟨u.heap.size,0,od⟩),cf od 0 0,om (lp ⟨nb,0,od⟩),rl tz 0,om (lp ((⟨u.heap.size,0,od⟩:Addr).add 0)),rl tz 3,gf (decide ((3:Int)=1)),gf (decide ((3:Int)=1)),yj,yj,yj,gf (decide ((3:Int)=3)),gf (decide ((3:Int)=3)),fh #[x.val,rl tz 0],om (lp ⟨svb,0,od⟩),om (lp ⟨svb,0,od⟩),om (lp ((⟨svb,0,od⟩:Addr).add 1)),om (lp ⟨tb,0,od⟩),om (lp ((⟨u.heap.size,0,od⟩:Addr).add 1)),pt p,fh #[x.val,rl tz 0],x.val,rl tz 0,yj,yj,yj,yj,yj,yj,yj,yj,yj,yj],[]⟩/\u1.heap.size<=nb/\(w.at d').heap[nb]? = lp (ye x.cs 96)/\Ar u1 (w.at d') (fun _=>False)/\VW J Bs (w.at d')):=fun a w d' ⟨h1,nb,h2,h3,h4,h5,h6⟩=>⟨h1,nb,h2,h3,h4,h5.at d',h6.at d'⟩
  have hS:F2 u.heap.size (Dc 3 p d n v) 130 svb (B0 db tb wm sm last down) (u1.at d0):=⟨F7,hv1⟩
  refine Nds ?_
  refine A6.tp 4 hI hQ hS ?_;walk_nrm
  refine A6.tl 3 hI hQ hS (fun w (hw:F2 _ _ _ _ _ w)=>(cellOf (j:=1) hw.2 rfl:w.cell? ⟨svb,1,od⟩=lp (om (lp ⟨tb,0,od⟩)))) (jv 1) (fun w (hw:F2 _ _ _ _ _ w)=>ltOf hw.2) ?_;walk_nrm
  refine A6.tl 5 hI hQ hS (fun w (hw:F2 _ _ _ _ _ w)=>(cellOf (j:=1) hw.1 rfl:w.cell? ⟨u.heap.size,1,od⟩=lp (pt p))) (jr 1) (fun w (hw:F2 _ _ _ _ _ w)=>ltOf hw.1) ?_;walk_nrm
  have HC:∀w,Ar u1 w (fun _=>False)->VW J Bs w->Bz ly s7 J Stop 147 #[om (lp ⟨tb,0,od⟩),pt p] w fun y w'=>Ar w w' (fun _=>False)/\VW J Bs w'/\y=fh #[x.val,rl tz 0]:=fun w hk hW=>by
   refine Dm (Fc (f:=147) Ad hW (X:=fun _=>False) (R:=fun y _=>y=fh #[x.val,rl tz 0]) fun L hs=>?_) fun y w' h=>⟨h.1,h.2.1,let⟨_,_,h⟩:=h.2.2;h⟩
   have Gv:=(C.kx (K1.trans hk) hW fun _ h=>h.elim).glob hs
   obtain⟨m,hm⟩:=Gv.ml
   exact(Pm ((ht1.kx hk id id).sim hW.nf hs nt nm) m hm (by have:=Gv.size;have:=C.g8;omega) p hps hp x hx).mono fun e w' h=>⟨⟨_,h.1,rfl⟩,Bp h.2⟩
  refine Te (i:=6) (j:=10) Aa ?_ ?_
  ·refine Z1 (HC (u1.at d0) ((Ar.refl _ _).at d0) (W1.at d0)) rfl Ac rfl (by walk_nrm) ?_
   rintro y u2 ⟨H2,W2,rfl⟩
   have hk2':Ar u1 u2 (fun _=>False):=((Ar.refl u1 _).at d0).trans H2
   refine⟨F2.kx hS H2 id id,?_⟩
   refine Gwc ?_;intro hS2 hk3 W3 hn3
   refine Pp (S:=env Lv) (fn:=0) hI hQ rfl Ac (Dp Aa) (Bg _ _) (x:=om (lp ⟨Array.size (World.heap u2),0,od⟩)) (v':=World.alloc u2 (ye Nd.zero.cs 96)) (fun dz=>.inl (by walk_nrm;go_simp;first|done|rfl|exact⟨rfl,rfl⟩)) (fun dz=>by walk_nrm;intro ez hez;simp [go_sem] at hez) (F2.kx hS2 hk3 id id) ?_;walk_nrm
   generalize u2.alloc (ye Nd.zero.cs 96)=u3 at hk3 W3 hn3 ⊢
   have nn:¬Bs u2.heap.size:=fun h=>by have:=W2.lt h;omega
   have Ft:=hk2'.trans hk3
   have hS3:=F2.kx hS2 hk3 id id
   have SN:=Rx (J:=J) (x:=x) hn3 (fun k h=>nn (C.W.ji.cell _ h))
   refine Jzm ?_;intro T4 Ia hne1 hne2 hS4
   refine Jl (i:=11) (S:=env Lv) (fn:=0) (x:=yj) (v':=Jg u3 u2.heap.size x) hI hQ Aa rfl Ac (Dp Aa) (Bg _ _) (SN _ 5 24 rfl _ Ac Ac).1 (SN _ 5 24 rfl _ Ac Ac).2 hS4 ?_
   exact Gkz
  ·refine Ngc ?_;intro H2 W2 hn2 hS2
   refine Pp (S:=env Lv) (fn:=0) hI hQ rfl Ac (Dp Aa) (Bg _ _) (x:=om (lp ⟨Array.size (World.heap (u1.at d0)),0,od⟩)) (v':=World.alloc (u1.at d0) (ye Nd.zero.cs 96)) (fun dz=>.inl (by walk_nrm;go_simp;first|done|rfl|exact⟨rfl,rfl⟩)) (fun dz=>by walk_nrm;intro ez hez;simp [go_sem] at hez) hS2 ?_;walk_nrm
   refine V8a ?_;intro nn hk2'
   generalize (u1.at d0).alloc (ye Nd.zero.cs 96)=u2 at H2 W2 hn2 hS2 hk2' ⊢
   refine Cb (i:=6) (HC u2 hk2' W2) Aa rfl Ac rfl (by walk_nrm) ?_
   rintro y u3 ⟨hk3,W3,rfl⟩
   refine⟨F2.kx hS2 hk3 id id,?_⟩
   walk_nrm
   have hS3:=F2.kx hS2 hk3 id id
   refine Vmv ?_
   have Ft:=hk2'.trans hk3
   have hn3:=hk3.get hn2 id
   have hle:u1.heap.size<=(u1.at d0).heap.size:=aA _
   have SN:=Rx (J:=J) (x:=x) hn3 (fun k h=>nn (C.W.ji.cell _ h))
   refine Ft6 ?_;intro T4 Ia hne1 hne2 hS4
   refine Jl (i:=11) (S:=env Lv) (fn:=0) (x:=yj) (v':=Jg u3 (u1.at d0).heap.size x) hI hQ Aa rfl Ac (Dp Aa) (Bg _ _) (SN _ 5 24 rfl _ Ac Ac).1 (SN _ 5 24 rfl _ Ac Ac).2 hS4 ?_
   exact Lk6
 ·rintro e' a' u2 ⟨rfl,nb,rfl,hle,hn2,H2,W2⟩
  simp only [Az]
  have hk12:=K1.trans H2
  have hr2:=H2.get F7 id
  have hv2:=hk12.get hv id
  have ht2:=ht.kx hk12 id id
  have hnb:¬Bs nb:=fun h=>by have h1:=C.W.lt h;have h2:=K1.size;omega
  have jn:∀k,¬J (.cell ⟨nb,k,od⟩):=fun k h=>hnb (C.W.ji.cell _ h)
  refine Aw ?_
  have hI5:=AY.at (rb:=u.heap.size) (rc:=Dc 3 p d n v) (rt:=130) (svb:=svb) (vc:=B0 db tb wm sm last down) (nb:=nb) (x:=x)
  refine Ei (I:=AY u.heap.size (Dc 3 p d n v) 130 svb (B0 db tb wm sm last down) nb x) Ac fun d2=>?_
  have hS8:AY u.heap.size (Dc 3 p d n v) 130 svb (B0 db tb wm sm last down) nb x (u2.at d2):=⟨⟨hr2,hv2⟩,hn2⟩
  refine A6.tp 1 hI5 (fun _ _ d h=>A8 h d) hS8 ?_;walk_nrm
  refine A6.tp 2 hI5 (fun _ _ d h=>A8 h d) hS8 ?_;walk_nrm
  refine A6.tp 3 hI5 (fun _ _ d h=>A8 h d) hS8 ?_;walk_nrm
  refine A6.tp 5 hI5 (fun _ _ d h=>A8 h d) hS8 ?_;walk_nrm
  refine A6.tl 4 hI5 (fun _ _ d h=>A8 h d) hS8 (fun w (hw:AY _ _ _ _ _ _ _ w)=>(cellOf (j:=1) hw.1.2 rfl:w.cell? ⟨svb,1,od⟩=lp (om (lp ⟨tb,0,od⟩)))) (jv 1) (fun w (hw:AY _ _ _ _ _ _ _ w)=>ltOf hw.1.2) ?_;walk_nrm
  refine A6.tl 6 hI5 (fun _ _ d h=>A8 h d) hS8 (fun w (hw:AY _ _ _ _ _ _ _ w)=>(cellOf (j:=1) hw.1.1 rfl:w.cell? ⟨u.heap.size,1,od⟩=lp (pt p))) (jr 1) (fun w (hw:AY _ _ _ _ _ _ _ w)=>ltOf hw.1.1) ?_;walk_nrm
  refine A6.take (i:=0) (x:=(x.val)) hI5 (fun _ _ d h=>A8 h d) rfl Aa Aa Aa (Ge (S:=env Lv) Ac (Dp (fn:=0) Aa) (Bg _ _) ?_) hS8 ?_
  ·exact fun w hw=>FP hw.2 jn _ _ rfl _ Ac
  walk_nrm
  refine Cb (i:=7) (Fc (f:=151) (args:=#[om (lp ⟨tb,0,od⟩),pt p]) Ad (W2.at d2) (X:=fun _=>False) (R:=fun y _=>∃a k c,y=cf a k c/\k<=ns.length) fun L hs=>(Mh L tb mb num ns ((ht2.at d2).sim (W2.at d2).nf hs nt nm) p (by have:=tk.len;omega) tk.size).mono fun e w' h=>⟨let⟨a,k,c,h1,h2⟩:=h.1;⟨_,h1,a,k,c,rfl,h2⟩,Bp h.2⟩) Aa rfl Ac rfl (by walk_nrm) ?_
  rintro y u6 ⟨hk6,W6,L6,hs6,ca,ck,cc,rfl,hck⟩
  have hS9:=hS8.kx hk6 id id id
  refine⟨hS9,?_⟩
  walk_nrm
  refine A6.tp 8 hI5 (fun _ _ d h=>A8 h d) hS9 ?_;walk_nrm
  refine Cb (i:=9) (Fc (f:=153) (args:=#[x.val,rl tz ck]) Ad W6 (X:=fun _=>False) (R:=fun y w'=>Er w' (fun b=>b<w'.heap.size) [.mk 0 ⟨#[]⟩ [Orch.num x.made,Orch.num x.changed,Orch.num x.version,Orch.num ck]] y) fun L hs=>(Wm L x.path x.data x.note x.made x.changed x.version ck).mono fun e w' h=>⟨h.1,Bp h.2⟩) Aa rfl Ac rfl (by walk_nrm) ?_
  rintro lv u7 ⟨hk7,W7,L7,hs7,hlv⟩
  have hS10:=hS9.kx hk7 id id id
  refine⟨hS10,?_⟩
  walk_nrm
  refine A6.tp 10 hI5 (fun _ _ d h=>A8 h d) hS10 ?_;walk_nrm
  refine Ybw ?_
  have hk27:Ar u2 u7 (fun _=>False):=(((Ar.refl u2 _).at d2).trans hk6).trans hk7
  refine Ez ?_
  simp only [Az,As]
  refine⟨.inr trivial,trivial,hk12.trans hk27,W7,ck,hck,?_⟩
  walk_nrm
  exact Yb W7 hs7 hlv
end
theorem Orch.parse_record:parse [40,52,56,116,98,116,41]=lp (.mk Orch.lr [t4,t8,tt,Orch.tb,tt]):=Ac
def Hi(kind last:Int)(p d n:ByteArray):List UInt8:=be kind 4++be last 8++be p.size 4++p.data.toList++be d.size 4++d.data.toList++be n.size 4++n.data.toList
abbrev Uw(kind last:Int)(p d n:ByteArray):Array tj:=#[rl tz kind,pt ⟨#[]⟩,cf od 0 0,rl tz last,pt ⟨#[]⟩,cf od 0 0,rl tz 0,pt p,cf od 0 0,rl tz 0,pt d,cf od 0 0,rl tz 0,pt n,cf od 0 0]
theorem AB(kind last:Int)(p d n:ByteArray):(Hi kind last p d n).length=24+p.size+d.size+n.size:=by
 simp [Hi,be_length]
 omega
theorem AA(valid:ByteArray->Bool){kind last:Int}{p d n:ByteArray}(H0:-2147483648<=kind)(H2:kind<=2147483647)(hl1:-9223372036854775808<=last)(hl2:last<=9223372036854775807)(hp:p.size<=200)(hv:valid p=s7)(hd:d.size<=200)(hn:n.size<=200)(hnv:valid n=s7) :
  put valid 9 [] (.mk Orch.lr [t4,t8,tt,Orch.tb,tt]) (.mk 0 ⟨#[]⟩ [Orch.num kind,Orch.num last,txt p,txt d,txt n])=lp (Hi kind last p d n):=by
 have h1:p.data.toList.length=p.size:=rfl
 have h2:d.data.toList.length=d.size:=rfl
 have h3:n.data.toList.length=n.size:=rfl
 have:=puts_rec valid (k:=8) (l:=Orch.lr) rfl (.cons (puts_4 valid H0 H2) (.cons (puts_8 valid hl1 hl2) (.cons (puts_t valid hp hv) (.cons (puts_b valid hd) (.cons (puts_t valid hn hnv) .nil))))) [] (by simp only [aH,be_length,h1,h2,h3,aI];omega)
 simpa [Hi] using this
section
variable {valid:ByteArray->Bool} {Tabs:qq->Prop} {gN:Nat} {J:Loc->Prop} {Bs:Nat->Prop} {Stop:gq->qq->Prop} {u:qq}
abbrev U9(sg sh sz lo hi:Int)(tx:Bool)(fn:Int)(ps:tj):Array tj:=#[rl dc sg,rl tz sh,rl tz sz,rl tz lo,rl tz hi,gf tx,rl dc fn,ps]
def Nu(w:qq)(b:Nat)(sg sh sz lo hi:Int)(tx:Bool)(fn:Int)(ps:tj):qq:=(((((((w.setCell ⟨b,0,od⟩ (rl dc sg)).setCell ⟨b,1,od⟩ (rl tz sh)).setCell ⟨b,2,od⟩ (rl tz sz)).setCell ⟨b,3,od⟩ (rl tz lo)).setCell ⟨b,4,od⟩ (rl tz hi)).setCell ⟨b,5,od⟩ (gf tx)).setCell ⟨b,6,od⟩ (rl dc fn)).setCell ⟨b,7,od⟩ ps
theorem Bn.cast{w w':qq}{g:Nat}{cs cs':Array tj}{t:TypeId}(h:Bn w w' g cs t)(e:cs=cs'):Bn w w' g cs' t:=e▸h
theorem X2{w:qq}{b:Nat}(h:w.heap[b]? = lp (ye (U9 0 0 0 0 0 vp 0 (cf od 0 0)) 196))(sg sh sz lo hi:Int)(tx:Bool)(fn:Int)(ps:tj):Bn w (Nu w b sg sh sz lo hi tx fn ps) b (U9 sg sh sz lo hi tx fn ps) 196:=
 Bn.cast (((((((((Bn.refl h).set 0 (rl dc sg)).set 1 (rl tz sh)).set 2 (rl tz sz)).set 3 (rl tz lo)).set 4 (rl tz hi)).set 5 (gf tx)).set 6 (rl dc fn)).set 7 ps) (by simp [U9])
theorem QB{w:qq}{b:Nat}{sg sh sz lo hi:Int}{tx:Bool}{fn:Int}{pa:Option Addr}{pn pc:Nat}(h:w.heap[b]? = lp (ye (U9 0 0 0 0 0 vp 0 (cf od 0 0)) 196))(hj:∀k,¬J (.cell ⟨b,k,od⟩))(o:Oper)(ho:o.op=.store 196 (.tmp 6) (.tmp 11))(a:Act)(h6:a.eval (.tmp 6)=om (lp ⟨b,0,od⟩))(h11:a.eval (.tmp 11)=Gl sg sh sz lo hi tx fn (cf pa pn pc)) :
  (∀d,Go.Pair.Yields ly (execOp a.eval o) (w.at d) yj ((Nu w b sg sh sz lo hi tx fn (cf pa pn pc)).at d))/\∀d,∀e∈(execOp a.eval o).events ly (w.at d) #[],EvJ J (Nu w b sg sh sz lo hi tx fn (cf pa pn pc)).heap.size e:=by
 have Di:(Nu w b sg sh sz lo hi tx fn (cf pa pn pc)).heap.size=w.heap.size:=by simp [Nu,size_setCell]
 refine⟨fun d=>.inr ⟨?_,rfl⟩,fun d=>?_⟩
 all_goals
  obtain⟨a0,a1,a2,a3,a4,a5,a6,a7⟩:=KO (w:=(w.at d)) 0 1 2 3 4 5 6 7 h
  obtain⟨f0,f1,f2,f3,f4,f5,f6,f7⟩:=Fk8 (w:=(w.at d)) 0 1 2 3 4 5 6 7 h
  unfold execOp
  rw [ho]
  simp only [h6,h11]
 ·go_simp
  unfold Nu
  simp only [at_set]
 ·intro e he
  simp [go_sem,a0,a1,a2,a3,a4,a5,a6,a7,f0,f1,f2,f3,f4,f5,f6,f7,events_store _ _ _ _ (Value.slice _ _ _) zw rfl,events_store _ _ _ _ (Value.bool _) zw rfl,storedEv] at he
  have hl:b<(Nu w b sg sh sz lo hi tx fn (cf pa pn pc)).heap.size:=by rw [Di];exact ltOf h
  rcases he with rfl|rfl|rfl|rfl|rfl|rfl|rfl|rfl <;> exact⟨hj _,hl⟩
theorem FQ{w:qq}{b:Nat}{sg sh sz lo hi:Int}{tx:Bool}{fn:Int}{ps:tj}(h:w.heap[b]? = lp (ye (U9 sg sh sz lo hi tx fn ps) 196))(hj:∀k,¬J (.cell ⟨b,k,od⟩))(o:Oper)(k:Nat)(ho:o.op=.load 196 (.tmp k))(a:Act)(hk:a.eval (.tmp k)=om (lp ⟨b,0,od⟩)) :
  Go.Pair.Yields ly (execOp a.eval o) w (Gl sg sh sz lo hi tx fn ps) w/\∀e∈(execOp a.eval o).events ly w #[],EvJ J w.heap.size e:=by
 obtain⟨c0,c1,c2,c3,c4,c5,c6,c7⟩:=KO (w:=w) 0 1 2 3 4 5 6 7 h
 unfold execOp
 rw [ho]
 simp only [hk]
 refine⟨.inl ?_,fun e he=>?_⟩
 ·go_simp
 ·simp [go_sem,c0,c1,c2,c3,c4,c5,c6,c7] at he
  rcases he with rfl|rfl|rfl|rfl|rfl|rfl|rfl|rfl <;> exact⟨hj _,ltOf h⟩
theorem Zr(U:Jk valid Tabs)(C:Cx Tabs gN J Bs u)(last kind:Int)(p d n:ByteArray)(v:Int)(H0:-2147483648<=kind)(H2:kind<=2147483647)(hl1:-9223372036854775808<=last)(hl2:last<=9223372036854775807)(hp:p.size<=200)(hv:valid p=s7)(hd:d.size<=200)(hn:n.size<=200)(hnv:valid n=s7) :
  Bz ly s7 J Stop 174 #[rl tz last,J4 kind p d n v] u fun x u'=>Ar u u' (fun _=>False)/\VW J Bs u'/\∃ov,x=fh #[ov,gf s7]/\u'.ownsRow u.heap.size 5 1 ov (be (Hi kind last p d n).length 4++Hi kind last p d n).length (A0 (be (Hi kind last p d n).length 4++Hi kind last p d n)):=by
 have hbl:=AB kind last p d n
 have Ih:=AA valid H0 H2 hl1 hl2 hp hv hd hn hnv
 refine Br func174 Ac rfl (R:=fun tmps=>fh #[tmps.getD 4 yj,tmps.getD 5 yj]) (fun _ _=>results_tmp2 Ac _ _ _) (fun _ _=>events_results_tmp2 Ac _ _) ?_
 simp only [ntmps174,na,Nat.reduceAdd,Nat.reduceSub]
 refine Fck ?_
 refine E9 (Dc kind p d n v) 130 ?_;walk_nrm
 refine Lh6 ?_
 refine Am ?_
 have K1:=B8 u (Dc kind p d n v) 130 (fun _=>False)
 have W1:=C.W.alloc (Dc kind p d n v) 130
 have F7:(u.alloc (ye (Dc kind p d n v) 130)).heap[u.heap.size]? = lp (ye (Dc kind p d n v) 130):=tw _ _
 generalize u.alloc (ye (Dc kind p d n v) 130)=u1 at K1 W1 F7 ⊢
 have C1:=C.kx K1 W1 fun _ h=>h.elim
 refine Iup ?_;intro nr jr
 refine Fck ?_
 refine By (Fc (f:=121) (args:=#[pt ⟨#[40,52,56,116,98,116,41]⟩]) Ad W1 (X:=fun _=>False) (R:=fun x w'=>∃psv,x=fh #[D7 Orch.lr psv,gf s7]/\El w' (fun b=>u1.heap.size<=b/\b<w'.heap.size) [t4,t8,tt,Orch.tb,tt] psv) fun L hs=>?_) rfl Ac rfl (by walk_nrm) ?_
 ·have hc:=Q9 L ⟨#[40,52,56,116,98,116,41]⟩ (C1.glob hs).table
  rw [show parse (⟨#[40,52,56,116,98,116,41]⟩:ByteArray).data.toList=_ from Orch.parse_record] at hc
  refine hc.mono fun e w' h=>?_
  obtain⟨⟨psv,h1,h2⟩,h3⟩:=h
  rw [hs.size] at h2
  exact⟨⟨_,h1,psv,rfl,h2⟩,Bp h3⟩
 rintro x u2 ⟨K2,W2,L2,hs2,psv,rfl,hts2⟩
 obtain⟨pa,pc,rfl⟩:=hts2.shape
 have hts2u:El u2 (fun b=>u1.heap.size<=b/\b<u2.heap.size) [t4,t8,tt,Orch.tb,tt] (cf pa 5 pc):=hts2.congr (fun b hb=>by rw [←hs2.size];exact hb) (fun b hb=>(hs2.same W2.nf fun hB=>by have:=W1.lt hB;omega).symm)
 walk_nrm
 refine Nao ?_
 refine E9 (U9 0 0 0 0 0 vp 0 (cf od 0 0)) 196 ?_;walk_nrm
 have K3:=B8 u2 (U9 0 0 0 0 0 vp 0 (cf od 0 0)) 196 (fun _=>False)
 have W3:=W2.alloc (U9 0 0 0 0 0 vp 0 (cf od 0 0)) 196
 have hb3:(u2.alloc (ye (U9 0 0 0 0 0 vp 0 (cf od 0 0)) 196)).heap[u2.heap.size]? = lp (ye (U9 0 0 0 0 0 vp 0 (cf od 0 0)) 196):=tw _ _
 generalize u2.alloc (ye (U9 0 0 0 0 0 vp 0 (cf od 0 0)) 196)=u3 at K3 W3 hb3 ⊢
 have nb:¬Bs u2.heap.size:=fun h=>by have:=W2.lt h;omega
 have jb:∀k,¬J (.cell ⟨u2.heap.size,k,od⟩):=fun k h=>nb (C.W.ji.cell _ h)
 have ST:=QB (J:=J) (sg:=Orch.lr.sign.toNat) (sh:=Orch.lr.shape) (sz:=Orch.lr.size) (lo:=Orch.lr.least) (hi:=Orch.lr.most) (tx:=Orch.lr.text) (fn:=Orch.lr.fin.toNat) (pa:=pa) (pn:=5) (pc:=pc) hb3 jb
 have T4:=X2 hb3 Orch.lr.sign.toNat Orch.lr.shape Orch.lr.size Orch.lr.least Orch.lr.most Orch.lr.text Orch.lr.fin.toNat (cf pa 5 pc)
 refine Ef (S:=env Lv) (fn:=174) rfl Ac (Dp Aa) (Bg _ _) (x:=yj) (v':=Nu u3 u2.heap.size Orch.lr.sign.toNat Orch.lr.shape Orch.lr.size Orch.lr.least Orch.lr.most Orch.lr.text Orch.lr.fin.toNat (cf pa 5 pc)) (ST _ rfl _ Ac Ac).1 (ST _ rfl _ Ac Ac).2 ?_
 walk_nrm
 have W4:VW J Bs (Nu u3 u2.heap.size Orch.lr.sign.toNat Orch.lr.shape Orch.lr.size Orch.lr.least Orch.lr.most Orch.lr.text Orch.lr.fin.toNat (cf pa 5 pc)):=W3.set T4 (by unfold Nu;exact NF.setCell (NF.setCell (NF.setCell (NF.setCell (NF.setCell (NF.setCell (NF.setCell (NF.setCell W3.nf _ _) _ _) _ _) _ _) _ _) _ _) _ _) _ _)
 generalize Nu u3 u2.heap.size Orch.lr.sign.toNat Orch.lr.shape Orch.lr.size Orch.lr.least Orch.lr.most Orch.lr.text Orch.lr.fin.toNat (cf pa 5 pc)=u4 at T4 W4 ⊢
 have K24:Ar u2 u4 (fun _=>False):=⟨T4.grown.os.trans K3.os,T4.grown.tape.trans K3.tape,T4.grown.output.trans K3.output,aE K3.size T4.grown.size,fun k hk _=>(T4.grown.block k (aB hk K3.size) (fun h=>by cases h;omega)).trans (K3.block k hk id)⟩
 have K14:=K2.trans K24
 have hr4:=K14.get F7 id
 refine Pdv ?_
 refine M8j ?_
 refine D9q ?_
 refine Guh ?_
 refine Fck ?_
 refine Ef (S:=env Lv) (fn:=174) rfl Ac (Dp Aa) (Bg _ _) (x:=Gl Orch.lr.sign.toNat Orch.lr.shape Orch.lr.size Orch.lr.least Orch.lr.most Orch.lr.text Orch.lr.fin.toNat (cf pa 5 pc)) (v':=u4) (fun d'=>(FQ (J:=J) (w:=u4.at d') T4.blk jb _ _ rfl _ Ac).1) (fun d'=>(FQ (J:=J) (w:=u4.at d') T4.blk jb _ _ rfl _ Ac).2) ?_
 walk_nrm
 refine Ak ?_
 refine Bq (cellOf (j:=0) hr4 rfl) (jr 0) (ltOf hr4) ?_;walk_nrm
 iterate 4(refine Ak ?_)
 refine Bq (cellOf (j:=1) hr4 rfl) (jr 1) (ltOf hr4) ?_;walk_nrm
 refine Lh6 ?_
 refine Bq (cellOf (j:=2) hr4 rfl) (jr 2) (ltOf hr4) ?_;walk_nrm
 refine Lh6 ?_
 refine Bq (cellOf (j:=3) hr4 rfl) (jr 3) (ltOf hr4) ?_;walk_nrm
 refine Ak ?_
 have hvs5:=Ps u4 [(Orch.num kind,cf od 0 0),(Orch.num last,cf od 0 0),(txt p,cf od 0 0),(txt d,cf od 0 0),(txt n,cf od 0 0)] (fun b=>b<u4.heap.size+1/\¬Bs b) Ae (Uw kind last p d n) (by simp [Fe,V.n,V.s,Uw]) 164 5 rfl _ rfl ⟨Ab,fun h=>by have:=W4.lt h;omega⟩ (by
  intro q hq
  simp at hq
  rcases hq with rfl|rfl|rfl|rfl|rfl <;> exact .nil _ _)
 refine Ef (S:=env Lv) (fn:=174) rfl Ac (Dp Aa) (Bg _ _) (x:=cf (lp ⟨u4.heap.size,0,od⟩) 5 5) (v':=u4.alloc (ye (Uw kind last p d n) 164)) (fun d'=>.inl (by walk_nrm;go_simp;first|done|rfl|exact⟨rfl,rfl⟩)) (fun d'=>by walk_nrm;intro e he;simp [go_sem] at he) ?_
 walk_nrm
 have K5:=B8 u4 (Uw kind last p d n) 164 (fun _=>False)
 have W5:=W4.alloc (Uw kind last p d n) 164
 have hsz5:(u4.alloc (ye (Uw kind last p d n) 164)).heap.size=u4.heap.size+1:=Ae
 generalize u4.alloc (ye (Uw kind last p d n) 164)=u5 at K5 W5 hvs5 hsz5 ⊢
 have K05:=(K1.trans K14).trans K5
 have C5:=C.kx K05 W5 fun _ h=>h.elim
 have hts5:El u5 (fun b=>b<u5.heap.size/\¬Bs b) [t4,t8,tt,Orch.tb,tt] (cf pa 5 pc):=hts2u.congr (fun b hb=>⟨by have:=K24.size;omega,fun hB=>by have:=W1.lt hB;omega⟩) (fun b hb=>(K5.block b (by have:=K24.size;omega) id).trans (K24.block b hb.2 id))
 refine Ak ?_
 refine By (Fc (f:=156) (args:=#[D7 Orch.lr (cf pa 5 pc),vv 0 ⟨#[]⟩ (cf (lp ⟨u4.heap.size,0,od⟩) 5 5)]) Ad W5 (X:=fun _=>False) (R:=fun x w'=>∃ov,x=fh #[ov,gf s7]/\w'.ownsRow u5.heap.size 5 1 ov (Hi kind last p d n).length (A0 (Hi kind last p d n))) fun L hs=>?_) rfl Ac rfl (by walk_nrm) ?_
 ·have Gv:=C5.glob hs
  have:=QO U L Gv.tabs (.mk Orch.lr [t4,t8,tt,Orch.tb,tt]) (Ut Orch.parse_record) (fun b=>b<L.heap.size) (cf pa 5 pc) (hts5.congr (fun b hb=>by rw [hs.size];exact hb.1) (fun b hb=>hs.same W5.nf hb.2)) ⟨0,⟨#[]⟩,[Orch.num kind,Orch.num last,txt p,txt d,txt n]⟩ _ (Er.congr (S':=fun b=>b<L.heap.size) (fun b hb=>by rw [hs.size];omega) (fun b hb=>hs.same W5.nf hb.2) hvs5) (fun _ h=>h)
  rw [Ih] at this
  refine this.mono fun e w' h=>?_
  obtain⟨⟨ov,h1,h2⟩,h3⟩:=h
  rw [hs.size] at h2
  exact⟨⟨_,h1,ov,rfl,h2⟩,Bp h3⟩
 rintro x u6 ⟨K6,W6,L6,hs6,ov6,rfl,ho6⟩
 have ho6u:u6.ownsRow u5.heap.size 5 1 ov6 (Hi kind last p d n).length (A0 (Hi kind last p d n)):=Ju W5 W6.nf hs6 (fun i hi=>W5.lt hi) ho6
 obtain⟨g,cap,rfl,hg,hgl,hby⟩:=Px ho6u Ab
 have ng:¬Bs g:=fun h=>by have:=W5.lt h;omega
 walk_nrm
 iterate 5(refine Ak ?_)
 refine Am ?_
 refine M8j ?_
 refine D9q ?_
 refine Guh ?_
 refine Fck ?_
 refine Ak ?_
 refine By (Fc (f:=157) (args:=#[cf (lp ⟨g,0,od⟩) (Hi kind last p d n).length cap]) Ad W6 (X:=fun _=>False) (R:=fun x w'=>∃ov,x=fh #[ov,gf s7]/\w'.ownsRow u6.heap.size 5 1 ov (be (Hi kind last p d n).length 4++Hi kind last p d n).length (A0 (be (Hi kind last p d n).length 4++Hi kind last p d n))) fun L hs=>?_) rfl Ac rfl (by walk_nrm) ?_
 ·refine(Zs L g cap (Hi kind last p d n) (fun i hi=>(Ew (hs.same W6.nf ng)).trans (hby i hi)) (by rw [hs.size];exact hgl) Ab).mono fun e w' h=>?_
  obtain⟨ov,h1,h2,h3⟩:=h
  rw [hs.size] at h2
  exact⟨⟨_,h1,ov,rfl,h2⟩,Bp h3⟩
 rintro x u7 ⟨K7,W7,L7,hs7,ov7,rfl,ho7⟩
 walk_nrm
 iterate 4(refine Ak ?_)
 refine Am ?_
 refine Ez ⟨.inr rfl,rfl,(K05.trans K6).trans K7,W7,ov7,?_,Df (Ju W6 W7.nf hs7 (fun i hi=>W6.lt hi) ho7) (aE K05.size K6.size)⟩
 walk_nrm
end
abbrev Iu:ByteArray:=⟨#[108,111,103]⟩
structure Jj(Bs:Nat->Prop)(u:qq)(D K:Nat)(lg:Option (Nat×Nat)):Prop where
 dsk:u.heap[D]? = lp (ye #[om (lp ⟨K,0,od⟩)] 54)
 st:match lg with
  | none=>u.heap[K]? = lp (ye #[cf od 0 0,rl tz (-1)] 52)
  | some q=>∃fc cur s data,u.heap[K]? = lp (ye #[cf (lp ⟨q.2,0,od⟩) 1 fc,rl tz (-1)] 52)/\u.heap[q.2]? = lp (ye cur 190)/\cur[0]? = lp (pt Iu)/\cur[1]? = lp (pt data)/\data.size<=q.1/\cur[2]? = lp (rl tz s)/\¬Bs q.2/\q.2≠K/\q.2≠D
 nd:¬Bs D
 nk:¬Bs K
 ne:D≠K
def DX(K:Nat)(lg:Option (Nat×Nat))(i:Nat):Prop:=i=K∨∃q,lg=lp q/\i=q.2
section
variable {J:Loc->Prop} {Bs:Nat->Prop} {Stop:gq->qq->Prop} {u:qq}
theorem PY(W:VW J Bs u)(K:Nat)(fv:tj)(h:u.heap[K]? = lp (ye #[fv,rl tz (-1)] 52))(nk:¬Bs K):Bz ly s7 J Stop 134 #[om (lp ⟨K,0,od⟩)] u fun x u'=>x=gf s7/\u'=u:=by
 have jk:∀k,¬J (.cell ⟨K,k,od⟩):=fun k h=>nk (W.ji.cell _ h)
 refine Br func134 Ac rfl (R:=fun tmps=>tmps.getD 2 yj) (fun _ _=>results_tmp Ac _ _ _) (fun _ _=>events_results_tmp Ac _ _) ?_
 simp only [ntmps134,na,Nat.reduceAdd,Nat.reduceSub]
 refine Fck ?_
 refine Pdv ?_
 refine Tvw ?_
 refine Nao ?_
 refine Bq (cellOf (j:=1) h rfl) (jk 1) (ltOf h) ?_;walk_nrm
 refine Pdv ?_
 refine Guh ?_
 refine Tvw ?_
 refine Nao ?_
 refine Bq (cellOf (j:=1) h rfl) (jk 1) (ltOf h) ?_;walk_nrm
 refine Pdv ?_
 refine Guh ?_
 refine Fck ?_
 refine Pdv ?_
 refine Ez ⟨.inr rfl,rfl,?_,rfl⟩
 walk_nrm
theorem IJ(W:VW J Bs u)(K:Nat)(name:ByteArray)(h:u.heap[K]? = lp (ye #[cf od 0 0,rl tz (-1)] 52))(nk:¬Bs K):Bz ly s7 J Stop 68 #[om (lp ⟨K,0,od⟩),pt name] u fun x u'=>x=rl tz (-1)/\u'=u:=by
 have jk:∀k,¬J (.cell ⟨K,k,od⟩):=fun k h=>nk (W.ji.cell _ h)
 refine B0i ?_
 simp only [ntmps68,na,Nat.reduceAdd,Nat.reduceSub]
 refine Fck ?_
 refine Pdv ?_
 refine Tvw ?_
 refine Nao ?_
 refine Bq (cellOf (j:=0) h rfl) (jk 0) (ltOf h) ?_;walk_nrm
 refine Lh6 ?_
 refine Am ?_
 refine Dt ?_
 refine I1 ?_
 refine Fck ?_
 refine Pdv ?_
 refine Wjq ?_
 refine Fck ?_
 refine Pdv ?_
 refine Ez ⟨.inr rfl,rfl,?_,rfl⟩
 walk_nrm
theorem Zl(W:VW J Bs u)(K g fc:Nat)(cur:Array tj)(h:u.heap[K]? = lp (ye #[cf (lp ⟨g,0,od⟩) 1 fc,rl tz (-1)] 52))(nk:¬Bs K)(hg:u.heap[g]? = lp (ye cur 190))(h0:cur[0]? = lp (pt Iu))(ng:¬Bs g):Bz ly s7 J Stop 68 #[om (lp ⟨K,0,od⟩),pt Iu] u fun x u'=>x=rl tz 0/\u'=u:=by
 have jk:∀k,¬J (.cell ⟨K,k,od⟩):=fun k h=>nk (W.ji.cell _ h)
 have jg:∀k,¬J (.cell ⟨g,k,od⟩):=fun k h=>ng (W.ji.cell _ h)
 refine B0i ?_
 simp only [ntmps68,na,Nat.reduceAdd,Nat.reduceSub]
 refine Fck ?_
 refine Pdv ?_
 refine Tvw ?_
 refine Nao ?_
 refine Bq (cellOf (j:=0) h rfl) (jk 0) (ltOf h) ?_;walk_nrm
 refine Lh6 ?_
 refine Am ?_
 refine Dt ?_
 refine I1 ?_
 refine Fck ?_
 refine Pdv ?_
 refine Bvs ?_
 refine Fck ?_
 refine Lh6 ?_
 refine Am ?_
 refine Fck ?_
 refine Nao ?_
 refine Bq (cellOf (j:=0) h rfl) (jk 0) (ltOf h) ?_;walk_nrm
 refine Ak ?_
 refine J75 ?_
 refine Ak ?_
 refine Bq (cellOf (j:=0) hg h0) (jg 0) (ltOf hg) ?_;walk_nrm
 refine Ak ?_
 refine Ex (gf s7) ?_;walk_nrm
 refine K75 ?_
 refine Fck ?_
 refine Lh6 ?_
 refine Am ?_
 refine Ez ?_
 simp only [Az,As]
 refine⟨.inr trivial,trivial,?_,trivial⟩
 walk_nrm
theorem V3{ops:Array Oper}{I:qq->Prop}{a:Act}{w:qq}{md:Region.Mode}{Q:Exit->Act->qq->Prop}{i fuel:Nat}{done:Array Bool}{o:Oper}{S:Env}{fn:FuncId}(W:VW J Bs w)(hrd:Region.ready md ops done = [i])(ho:ops[i]? = lp o)(hw:Region.wanted o (yielded ops a.tmps)=s7)(hT:Sj ly S fn o)(Ga:S.reg fn a.tmps){R:tj->qq->Prop}(H:∀L,Cq Bs w L->∃x L',Go.Pair.Yields ly (execOp a.eval o) L x L'/\R x L')(Bo:∀x w' L',Kept Bs w w'->Cq Bs w' L'->R x L'->I w'/\A6 ly s7 J Stop md ops Q I fuel (done.setIfInBounds i s7) (a.put o.dst x) w'):A6 ly s7 J Stop md ops Q I (fuel+1) done a w:=by
 exact Cfw
theorem Tryz.info190:(prog.info? 190).map (fun i=>(i.zero,i.size,i.bytes))=lp (lp (.agg #[pt ⟨#[]⟩,pt ⟨#[]⟩,rl tz 0]),3,40):=Aa
theorem M3(w:qq)(g:Nat)(name:ByteArray)(hg:w.heap[g]? = lp (ye #[pt name,pt ⟨#[]⟩,rl tz 0] 190)) :
  ∃ov w',(Builtin.append_ #[50,50] 50 #[cf od 0 0,cf (lp ⟨g,0,od⟩) 1 1]).run ly w=.ok ov w'/\w'.ownsRow w.heap.size 190 3 ov 1 [pt name,pt ⟨#[]⟩,rl tz 0]/\Ar w w' (fun _=>False):=by
 obtain⟨i0,hi0,hz0,hz1,hz2⟩:=info_parts Tryz.info190
 have hnews:∀(j:Nat) (u:tj),([pt name,pt ⟨#[]⟩,rl tz 0]:List tj)[j]? = lp u->w.cell? ((⟨g,0,od⟩:Addr).add j)=lp u:=fun j u hu=>by
  rw [Addr.add_lit,aM]
  match j,hu with
  | 0,hu=>simp at hu;subst hu;exact cellOf (j:=0) hg rfl
  | 1,hu=>simp at hu;subst hu;exact cellOf (j:=1) hg rfl
  | 2,hu=>simp at hu;subst hu;exact cellOf (j:=2) hg rfl
  | j+3,hu=>simp at hu
 obtain⟨v',w',hr,h2,h3,h4⟩:=run_append_own (P:=ly) w w.heap.size 50 50 190 i0 _ 3 40 underlying50 hi0 hz0 hz1 hz2 rfl Ad (.slice od 0 0) 0 [] ⟨rfl,.inl ⟨rfl,rfl⟩⟩ ⟨g,0,od⟩ 1 1 [pt name,pt ⟨#[]⟩,rl tz 0] rfl hnews (by intro u hu;simp at hu;rcases hu with rfl|rfl|rfl <;> rfl) (by simp only [maxLen];omega) Ab (aA _)
 refine⟨v',w',hr,by simpa using h2,h3.os,h3.tape,h3.output,h3.size,fun k hk _=>h3.block k hk (by simp [Value.ownBlock])⟩
def BD(D:Nat)(cs:Array tj)(ty:TypeId)(w:qq):Prop:=w.heap[D]? = lp (ye cs ty)
theorem BD.at{D:Nat}{cs:Array tj}{ty:TypeId}(w:qq)(d:Nat)(h:BD D cs ty w):BD D cs ty (w.at d):=h
def AtD(D K:Nat)(fv:tj)(w:qq):Prop:=w.heap[D]? = lp (ye #[om (lp ⟨K,0,od⟩)] 54)/\w.heap[K]? = lp (ye #[fv,rl tz (-1)] 52)
end
end Go.Proofs.YtjoblhlkfmeckaaGreatDoor
